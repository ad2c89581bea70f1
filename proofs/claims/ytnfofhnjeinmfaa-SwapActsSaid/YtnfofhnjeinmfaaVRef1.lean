/- The document's device of layer 9: what it is; New, fails, Plan, Peek, Read. -/
import Derived.Test.YtnfofhnjeinmfaaVNew
namespace Go.Proofs.Ytnfofhnjeinmfaa
open Go.ChangeShapes Go.WideShapes Go.ChangeAt Go.RowKit Go.Deep
open Extern.Stop (cell)
set_option linter.unusedVariables false

def rowV (p : Nat × Nat) : Value := .slice (some ⟨p.1, 0, none⟩) 4096 p.2
/-- The document's device: block q, its table v, its pages' blocks P. -/
structure RV (w : World) (q : Nat) (s : VS) (v : Value) (P : List (Nat × Nat)) : Prop where
  head : w.heap[q]? = some (.cells #[v, .int .i64 s.pr, .int .i64 s.pw, .int .i64 s.cr, .int .i64 s.cw] 49 (0, 0))
  table : w.ownsRow 0 29 1 v s.L.length (P.map rowV)
  num : P.length = s.L.length
  pages : ∀ (i : Nat) x p, P[i]? = some x → s.L[i]? = some p → Bs w x.1 p
  len : s.L.length ≤ 256
  page : ∀ p, p ∈ s.L → p.length = 4096
  nq : q ∉ v.ownBlock.toList ++ P.map Prod.fst
def blocksV (q : Nat) (v : Value) (P : List (Nat × Nat)) : List Nat := q :: (v.ownBlock.toList ++ P.map Prod.fst)
/-- .. as the other side has it. -/
def RD (w : World) (q : Nat) (s : VS) (O : List Nat) : Prop := ∃ v P, O = blocksV q v P ∧ RV w q s v P

section
variable {w w' : World} {q : Nat} {s s' : VS} {v : Value} {P : List (Nat × Nat)}
theorem RV.qlt (h : RV w q s v P) : q < w.heap.size := (Array.getElem?_eq_some_iff.1 h.head).1
theorem RV.get (h : RV w q s v P) {i : Nat} (hi : i < s.L.length) : ∃ x p, P[i]? = some x ∧ s.L[i]? = some p ∧ Bs w x.1 p ∧ p.length = 4096 := by
  have h1 : P[i]? = some (P[i]'(by rw [h.num]; exact hi)) := List.getElem?_eq_getElem (by rw [h.num]; exact hi)
  have h2 : s.L[i]? = some (s.L[i]'hi) := List.getElem?_eq_getElem hi
  exact ⟨_, _, h1, h2, h.pages i _ _ h1 h2, h.page _ (List.mem_of_getElem? h2)⟩
theorem RV.lt (h : RV w q s v P) : ∀ b, b ∈ blocksV q v P → b < w.heap.size := by
  intro b hb
  unfold blocksV at hb
  simp only [List.mem_cons, List.mem_append, Option.mem_toList, List.mem_map] at hb
  rcases hb with rfl | hb | ⟨x, hx, rfl⟩
  · exact h.qlt
  · exact (h.table.lt b hb).2
  · obtain ⟨i, hi⟩ := List.getElem?_of_mem hx
    have hlt : i < s.L.length := by rw [← h.num]; exact (List.getElem?_eq_some_iff.1 hi).1
    exact (h.pages i x _ hi (List.getElem?_eq_getElem hlt)).lt
theorem own_kept {base : Nat} {e : TypeId} {size k : Nat} {v : Value} {xs : List Value} (h : w.ownsRow base e size v k xs) (hb : ∀ g, v.ownBlock = some g → w'.heap[g]? = w.heap[g]?) : w'.ownsRow base e size v k xs := by
  refine ⟨h.1, ?_⟩
  rcases h.2 with h0 | ⟨g, c, cur, rfl, h1, h2, h3⟩
  · exact .inl h0
  · exact .inr ⟨g, c, cur, rfl, h1, (hb g rfl).trans h2, h3⟩
theorem RV.kept (h : RV w q s v P) (hb : ∀ b, b ∈ blocksV q v P → w'.heap[b]? = w.heap[b]?) : RV w' q s v P := by
  refine ⟨(hb q (by simp [blocksV])).trans h.head, own_kept h.table fun g hg => hb g (by simp [blocksV, hg]), h.num, fun i x p hx hp => (h.pages i x p hx hp).kept (hb x.1 ?_), h.len, h.page, h.nq⟩
  unfold blocksV
  exact List.mem_cons_of_mem _ (List.mem_append_right _ (List.mem_map.2 ⟨x, List.mem_of_getElem? hx, rfl⟩))
theorem RV.grow (h : RV w q s v P) (k : w.grownBy w' none) : RV w' q s v P := h.kept fun b hb => k.block b (h.lt b hb) (by simp)
/-- Its numbers turn, and nothing else. -/
theorem RV.put (h : RV w q s v P) (hL : s'.L = s.L) (hh : w'.heap[q]? = some (.cells #[v, .int .i64 s'.pr, .int .i64 s'.pw, .int .i64 s'.cr, .int .i64 s'.cw] 49 (0, 0))) (k : w.grownBy w' (some q)) : RV w' q s' v P := by
  have hb : ∀ b, b ∈ v.ownBlock.toList ++ P.map Prod.fst → w'.heap[b]? = w.heap[b]? := fun b hb => k.block b (h.lt b (by unfold blocksV; exact List.mem_cons_of_mem _ hb)) (fun e => h.nq (by rw [← Option.some.inj e]; exact hb))
  refine ⟨hh, by rw [hL]; exact own_kept h.table fun g hg => hb g (by simp [hg]), by rw [hL]; exact h.num, fun i x p hx hp => ?_, by rw [hL]; exact h.len, by rw [hL]; exact h.page, h.nq⟩
  rw [hL] at hp
  exact (h.pages i x p hx hp).kept (hb x.1 (List.mem_append_right _ (List.mem_map.2 ⟨x, List.mem_of_getElem? hx, rfl⟩)))
theorem RV.at (h : RV w q s v P) : w.cell? ⟨q, 0, none⟩ = some v ∧ w.cell? ⟨q, 1, none⟩ = some (.int .i64 s.pr) ∧ w.cell? ⟨q, 2, none⟩ = some (.int .i64 s.pw) ∧ w.cell? ⟨q, 3, none⟩ = some (.int .i64 s.cr) ∧ w.cell? ⟨q, 4, none⟩ = some (.int .i64 s.cw) :=
  ⟨by rw [cell_of_row _ _ _ _ _ _ h.head]; rfl, by rw [cell_of_row _ _ _ _ _ _ h.head]; rfl, by rw [cell_of_row _ _ _ _ _ _ h.head]; rfl, by rw [cell_of_row _ _ _ _ _ _ h.head]; rfl, by rw [cell_of_row _ _ _ _ _ _ h.head]; rfl⟩
theorem RV.frozen (h : RV w q s v P) (o : Nat) : w.frozen? ⟨q, o, none⟩ = false := frozen_of_row _ _ _ _ _ h.head
/-- The table as a slice. -/
theorem RV.tab (h : RV w q s v P) : ∃ a c, v = .slice a s.L.length c ∧ (∀ i x, P[i]? = some x → ∃ f, a = some ⟨f, 0, none⟩ ∧ w.cell? ⟨f, i, none⟩ = some (rowV x)) := by
  rcases h.table.2 with ⟨e, h0⟩ | ⟨f, c, cur, e, _, h2, h3, h6, h4, h5⟩
  · exact ⟨none, 0, by rw [h0]; exact e, fun i x hx => by have := (List.getElem?_eq_some_iff.1 hx).1; rw [h.num, h0] at this; omega⟩
  · refine ⟨some ⟨f, 0, none⟩, c, e, fun i x hx => ⟨f, rfl, ?_⟩⟩
    have := h.table.cells (g := f) (by rw [e]; rfl) i (rowV x) (by simp [hx])
    rwa [Addr.add_mid, Nat.zero_add] at this

theorem newW_rv {n : Nat} {r : Nat} {R : List Nat} {v : Value} (h : NewW w w' r n R v) (h2 : n ≤ 256) : RV w' r (newV n) v (R.map fun p => (p, 4096)) := by
  have hlen : R.length = n := by have := h.own.1; simpa using this
  refine ⟨h.head, ?_, by simp [newV, hlen], fun i x p hx hp => ?_, by simp [newV]; exact h2, fun p hp => by rw [(List.mem_replicate.1 hp).2]; exact pageZ_length, fun hm => ?_⟩
  · have ho := h.own
    rw [show (newV n).L.length = n by simp [newV], List.map_map, show (rowV ∘ fun p => (p, 4096)) = sl from rfl]
    refine ⟨ho.1, ?_⟩
    rcases ho.2 with h0 | ⟨g, c, cur, e, _, h6⟩
    · exact .inl h0
    · exact .inr ⟨g, c, cur, e, Nat.zero_le _, h6⟩
  · rw [List.getElem?_map] at hx
    obtain ⟨b, hb, rfl⟩ := Option.map_eq_some_iff.1 hx
    have hz : p = pageZ := (List.mem_replicate.1 (List.mem_of_getElem? hp)).2
    subst hz
    have := h.rows b (List.mem_of_getElem? hb)
    exact ⟨_, _, this, by simp, by simp only; rw [List.take_of_length_le (by simp)]⟩
  · simp only [List.mem_append, Option.mem_toList, List.mem_map, List.map_map] at hm
    rcases hm with hm | ⟨p, hp, e⟩
    · have := (h.own.lt _ hm).1; omega
    · have h1 := h.rows p hp
      have e : p = r := e
      rw [e, h.head] at h1
      simp at h1
theorem rf_new_ok (n : Nat) (w : World) (h2 : n ≤ 256) :
    Calls Try.prog 11 #[.int .i64 n] w fun e w' => ∃ q O, e = .returned (.pointer (some ⟨q, 0, none⟩)) ∧ RD w' q (newV n) O ∧ w.grownBy w' none ∧ ∀ b, b ∈ O → w.heap.size ≤ b := by
  refine (rnew_ok n w h2).mono ?_
  rintro e w' ⟨rfl, R, v, h⟩
  refine ⟨_, _, rfl, ⟨v, _, rfl, newW_rv h h2⟩, grown_of_below h.below none, fun b hb => ?_⟩
  simp only [blocksV, List.mem_cons, List.mem_append, Option.mem_toList, List.mem_map, List.map_map] at hb
  rcases hb with rfl | hb | ⟨p, hp, e⟩
  · exact h.rge
  · have := (h.own.lt _ hb).1; have := h.rge; omega
  · have e : p = b := e
    rw [← e]; exact h.Rge p hp

def failW (s : VS) : VS := ⟨s.L, s.pr, decV s.pw, s.cr, s.cw + 1⟩
def failR (s : VS) : VS := ⟨s.L, decV s.pr, s.pw, s.cr + 1, s.cw⟩
theorem two_set (hh : w.heap[q]? = some (.cells #[v, .int .i64 s.pr, .int .i64 s.pw, .int .i64 s.cr, .int .i64 s.cw] 49 (0, 0))) (a b : Int) :
    ((w.setCell ⟨q, 4, none⟩ (.int .i64 a)).setCell ⟨q, 2, none⟩ (.int .i64 b)).heap[q]? = some (.cells #[v, .int .i64 s.pr, .int .i64 b, .int .i64 s.cr, .int .i64 a] 49 (0, 0)) ∧
    ((w.setCell ⟨q, 3, none⟩ (.int .i64 a)).setCell ⟨q, 1, none⟩ (.int .i64 b)).heap[q]? = some (.cells #[v, .int .i64 b, .int .i64 s.pw, .int .i64 a, .int .i64 s.cw] 49 (0, 0)) ∧
    (w.setCell ⟨q, 4, none⟩ (.int .i64 a)).heap[q]? = some (.cells #[v, .int .i64 s.pr, .int .i64 s.pw, .int .i64 s.cr, .int .i64 a] 49 (0, 0)) ∧
    (w.setCell ⟨q, 3, none⟩ (.int .i64 a)).heap[q]? = some (.cells #[v, .int .i64 s.pr, .int .i64 s.pw, .int .i64 a, .int .i64 s.cw] 49 (0, 0)) := by
  have h4 := heap_setCell_same w q 4 _ _ (.int .i64 a) hh
  have h3 := heap_setCell_same w q 3 _ _ (.int .i64 a) hh
  refine ⟨?_, ?_, h4, h3⟩
  · exact heap_setCell_same _ q 2 _ _ (.int .i64 b) h4
  · exact heap_setCell_same _ q 1 _ _ (.int .i64 b) h3
theorem grown_two (w : World) (q a b : Nat) (x y : Value) : w.grownBy ((w.setCell ⟨q, a, none⟩ x).setCell ⟨q, b, none⟩ y) (some q) := grown_trans (grown_set w q a x) (grown_set _ q b y)

set_option maxHeartbeats 1000000 in
theorem rf_failW (h : RV w q s v P) {k : Int} (hk : s.Ok k) (hk2 : k ≤ 1000000) :
    Calls Try.prog 28 #[.pointer (some ⟨q, 0, none⟩), .int .i64 1] w fun e w' => e = .returned (.bool (decide (s.pw = 1))) ∧ RV w' q (failW s) v P ∧ w.grownBy w' (some q) := by
  obtain ⟨c0, c1, c2, c3, c4⟩ := h.at
  have f2 := h.frozen 2
  have f4 := h.frozen 4
  have p0 := hk.pw0
  have p1 := hk.pw1
  have n0 := hk.cw0
  have n1 := hk.cw1
  obtain ⟨t1, t2, t3, t4⟩ := two_set h.head (s.cw + 1) (s.pw - 1)
  by_cases hz : s.pw = 0
  · have H2 := Lib.hid (show RV _ q (failW s) v P ∧ _ from ⟨h.put (s' := failW s) rfl (by unfold failW decV; rw [if_pos hz]; simp only; rw [hz] at t3; exact t3) (grown_then (grown_set w q 4 (.int .i64 (s.cw + 1)))), grown_then (grown_set w q 4 (.int .i64 (s.cw + 1)))⟩)
    rw [hz] at c2 ⊢
    clear h t1 t2 t3 t4 hk
    go_enter Try.func28, Try.ntmps28
    go_wp2_with fail
    go_region
    go_wp2_with fail
    go_ret
    exact ⟨rfl, H2.out⟩
  · have hzb : (s.pw == 0) = false := by simpa using hz
    have HG := Lib.hid (grown_then (grown_then (grown_two w q 4 2 (.int .i64 (s.cw + 1)) (.int .i64 (s.pw - 1)))))
    have H2 := Lib.hid (h.put (s' := failW s) rfl (by unfold failW decV; rw [if_neg hz]; exact t1) HG.out)
    have hd : (s.pw - 1 == 0) = decide (s.pw = 1) := by
      by_cases e : s.pw = 1
      · rw [e]; rfl
      · rw [decide_eq_false e]; exact beq_eq_false_iff_ne.2 (by omega)
    obtain ⟨d, hd2⟩ : ∃ d, decide (s.pw = 1) = d := ⟨_, rfl⟩
    rw [hd2] at hd ⊢
    clear h t1 t2 t3 t4 hk hd2
    go_enter Try.func28, Try.ntmps28
    go_wp2_with fail
    go_region
    go_wp2_with fail
    go_region
    go_wp2_with fail
    go_ret
    exact ⟨rfl, H2.out, HG.out⟩
set_option maxHeartbeats 1000000 in
theorem rf_failR (h : RV w q s v P) {k : Int} (hk : s.Ok k) (hk2 : k ≤ 1000000) :
    Calls Try.prog 28 #[.pointer (some ⟨q, 0, none⟩), .int .i64 0] w fun e w' => e = .returned (.bool (decide (s.pr = 1))) ∧ RV w' q (failR s) v P ∧ w.grownBy w' (some q) := by
  obtain ⟨c0, c1, c2, c3, c4⟩ := h.at
  have f2 := h.frozen 1
  have f4 := h.frozen 3
  have p0 := hk.pr0
  have p1 := hk.pr1
  have n0 := hk.cr0
  have n1 := hk.cr1
  obtain ⟨t1, t2, t3, t4⟩ := two_set h.head (s.cr + 1) (s.pr - 1)
  by_cases hz : s.pr = 0
  · have H2 := Lib.hid (show RV _ q (failR s) v P ∧ _ from ⟨h.put (s' := failR s) rfl (by unfold failR decV; rw [if_pos hz]; simp only; rw [hz] at t4; exact t4) (grown_then (grown_set w q 3 (.int .i64 (s.cr + 1)))), grown_then (grown_set w q 3 (.int .i64 (s.cr + 1)))⟩)
    rw [hz] at c1 ⊢
    clear h t1 t2 t3 t4 hk
    go_enter Try.func28, Try.ntmps28
    go_wp2_with fail
    go_region
    go_wp2_with fail
    go_ret
    exact ⟨rfl, H2.out⟩
  · have hzb : (s.pr == 0) = false := by simpa using hz
    have HG := Lib.hid (grown_then (grown_then (grown_two w q 3 1 (.int .i64 (s.cr + 1)) (.int .i64 (s.pr - 1)))))
    have H2 := Lib.hid (h.put (s' := failR s) rfl (by unfold failR decV; rw [if_neg hz]; exact t2) HG.out)
    have hd : (s.pr - 1 == 0) = decide (s.pr = 1) := by
      by_cases e : s.pr = 1
      · rw [e]; rfl
      · rw [decide_eq_false e]; exact beq_eq_false_iff_ne.2 (by omega)
    obtain ⟨d, hd2⟩ : ∃ d, decide (s.pr = 1) = d := ⟨_, rfl⟩
    rw [hd2] at hd ⊢
    clear h t1 t2 t3 t4 hk hd2
    go_enter Try.func28, Try.ntmps28
    go_wp2_with fail
    go_region
    go_wp2_with fail
    go_region
    go_wp2_with fail
    go_ret
    exact ⟨rfl, H2.out, HG.out⟩
end
end Go.Proofs.Ytnfofhnjeinmfaa
