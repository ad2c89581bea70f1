/- The document's device of layer 9: New: pages of noughts, each in a block of its own. -/
import Derived.Test.YtnfofhnjeinmfaaVAct
import Derived.Deep.RegionLaw
namespace Go.Proofs.Ytnfofhnjeinmfaa
open Go.ChangeShapes Go.WideShapes Go.ChangeAt Go.RowKit Go.Deep
open Extern.Stop (cell)
set_option linter.unusedVariables false

/-- A row's slice. -/
def sl (p : Nat) : Value := .slice (some ⟨p, 0, none⟩) 4096 4096
theorem blk_kept {w w' : World} {g : Nat} {o : Obj} {r : Option Nat} (h : w.heap[g]? = some o) (G : w.grownBy w' r) (hr : r ≠ some g) : w'.heap[g]? = some o :=
  (G.block g (Array.getElem?_eq_some_iff.1 h).1 (Ne.symm hr)).trans h

/-- append(table, row) as one step of a region that draws. -/
theorem step_append_tab {ops : Array Oper} {o : Oper} {a : Act} {w : World} {K : Act → World → Prop} {Q : Exit → Act → World → Prop} {E : Prop}
    (hg : o.guard = none) (s x : Operand) (hop : o.op = Op.call { callee := Callee.builtin Builtin.append, args := #[s, x], argTypes := #[46, 46] })
    (base : Nat) (v : Value) (q : Nat) (xs : List Value) (hs : a.eval s = v) (hown : w.ownsRow base 29 1 v q xs)
    (ad : Addr) (c : Nat) (p : Nat) (hx : a.eval x = .slice (some ad) 1 c) (hc : w.cell? ad = some (sl p)) (b1 : q ≤ 256) (hbase : base ≤ w.heap.size)
    (hK : ∀ f cap w', base ≤ f → w'.ownsRow base 29 1 (.slice (some ⟨f, 0, none⟩) (q + 1) cap) (q + 1) (xs ++ [sl p]) → w.grownBy w' v.ownBlock → K (a.put o.dst (.slice (some ⟨f, 0, none⟩) (q + 1) cap)) w') :
    if Region.wanted o (yielded ops a.tmps) = true then Oper.wp Try.prog o a w K Q else E := by
  have hw : Region.wanted o (yielded ops a.tmps) = true := by simp [Region.wanted, hg]
  rw [if_pos hw]
  obtain ⟨i0, hi, hz0, hz1, hz2⟩ := info_parts (show (Try.prog.info? 29).map (fun i => (i.zero, i.size, i.bytes)) = some (some (.slice none 0 0), 1, 24) by kernel_rfl)
  obtain ⟨v', w', hrun, hown', hgr, hnil⟩ := run_append_own (P := Try.prog) w base 46 o.type 29 i0 (.slice none 0 0) 1 24 Try.underlying46 hi hz0 hz1 hz2 rfl (by omega) v q xs hown ad 1 c [sl p]
    (by simp) (fun j u hu => by
      cases j with
      | zero => simp at hu; subst hu; simpa [Addr.add] using hc
      | succ j => simp at hu) (by simp [sl, Value.oneCell']) (by unfold maxLen; omega) (by omega) hbase
  obtain ⟨hlen, hor⟩ := hown'
  rcases hor with ⟨hn, h0⟩ | ⟨f, cap, cur, rfl, hbf, hcell, hle, hcm, hsz, htk⟩
  · omega
  · have hfin := hK f cap w' hbf ⟨hlen, .inr ⟨f, cap, cur, rfl, hbf, hcell, hle, hcm, hsz, htk⟩⟩ hgr
    unfold Oper.wp
    simp [execOp, hop, resolve, invoke, builtin, hs, hx, hrun, Result.andThen]
    exact hfin

/-- The world in New's loop: q rows are there. -/
structure NewW (w wr : World) (r q : Nat) (R : List Nat) (v : Value) : Prop where
  below : Below w.heap.size w wr
  rge : w.heap.size ≤ r
  head : wr.heap[r]? = some (.cells #[v, .int .i64 0, .int .i64 0, .int .i64 0, .int .i64 0] 49 (0, 0))
  own : wr.ownsRow (r + 1) 29 1 v q (R.map sl)
  rows : ∀ p ∈ R, wr.heap[p]? = some (.cells (pageZ.map cell).toArray 5 (0, 0))
  nodup : R.Nodup
  Rge : ∀ p ∈ R, w.heap.size ≤ p

theorem own_ne {w : World} {r q : Nat} {v : Value} {b : Nat} {cs : Array Value} {t : TypeId} {xs : List Value} (h : w.ownsRow r 29 1 v q xs) (hb : w.heap[b]? = some (.cells cs t (0, 0))) (ht : t ≠ 29) : v.ownBlock ≠ some b := by
  rcases h.2 with ⟨rfl, _⟩ | ⟨g, cap, cur, rfl, _, hg, _⟩
  · simp [Value.ownBlock]
  · intro e
    simp only [Value.ownBlock, Option.some.injEq] at e
    subst e
    rw [hg] at hb
    simp only [Option.some.injEq, Obj.cells.injEq] at hb
    exact ht hb.2.1.symm

theorem NewW.step {w wr w2 : World} {r q p f cap : Nat} {R : List Nat} {v : Value} (h : NewW w wr r q R v) (hp : wr.heap.size ≤ p)
    (g1 : wr.grownBy w2 v.ownBlock) (hprow : w2.heap[p]? = some (.cells (pageZ.map cell).toArray 5 (0, 0)))
    (ho : w2.ownsRow (r + 1) 29 1 (.slice (some ⟨f, 0, none⟩) (q + 1) cap) (q + 1) (R.map sl ++ [sl p])) :
    NewW w (w2.setCell ⟨r, 0, none⟩ (.slice (some ⟨f, 0, none⟩) (q + 1) cap)) r (q + 1) (R ++ [p]) (.slice (some ⟨f, 0, none⟩) (q + 1) cap) := by
  have hrlt := (Array.getElem?_eq_some_iff.1 h.head).1
  have hvr : some r ≠ v.ownBlock := Ne.symm (own_ne h.own h.head (by decide))
  have hhead2 : w2.heap[r]? = some (.cells #[v, .int .i64 0, .int .i64 0, .int .i64 0, .int .i64 0] 49 (0, 0)) := (g1.block r hrlt hvr).trans h.head
  have hf := own_ne ho hhead2 (by decide)
  have hvb : ∀ k, v.ownBlock = some k → w.heap.size ≤ k := fun k hk => by have := (h.own.lt k hk).1; have := h.rge; omega
  have hrow : ∀ x ∈ R, x ≠ r ∧ x < wr.heap.size := by
    intro x hx
    have h3 := h.rows x hx
    refine ⟨fun e => ?_, (Array.getElem?_eq_some_iff.1 h3).1⟩
    rw [e, h.head] at h3
    simp at h3
  refine ⟨(h.below.grown g1 h.below.size hvb).setCell h.rge _, h.rge, heap_setCell_same w2 r 0 _ _ _ hhead2, ?_, ?_, ?_, ?_⟩
  · rw [List.map_append, List.map_singleton]
    refine ⟨ho.1, ?_⟩
    rcases ho.2 with ⟨hn, _⟩ | ⟨g, cap', cur, hv, hb, hg, rest⟩
    · cases hn
    · refine .inr ⟨g, cap', cur, hv, hb, ?_, rest⟩
      rw [heap_setCell_other _ _ _ _ (by simp only; intro e; subst e; rw [hv] at hf; exact hf rfl)]
      exact hg
  · intro x hx
    rw [List.mem_append, List.mem_singleton] at hx
    rcases hx with hx | rfl
    · rw [heap_setCell_other _ _ _ _ (by simpa using (hrow x hx).1), g1.block x (hrow x hx).2 (Ne.symm (own_ne h.own (h.rows x hx) (by decide)))]
      exact h.rows x hx
    · rw [heap_setCell_other _ _ _ _ (by simp only; omega)]
      exact hprow
  · rw [List.nodup_append]
    refine ⟨h.nodup, by simp, fun x hx y hy e => ?_⟩
    simp at hy
    subst hy e
    have := (hrow x hx).2
    omega
  · intro x hx
    rw [List.mem_append, List.mem_singleton] at hx
    rcases hx with hx | rfl
    · exact h.Rge x hx
    · have := h.below.size
      omega

set_option maxHeartbeats 1000000 in
theorem rnew_ok (n : Nat) (w : World) (h2 : n ≤ 256) :
    Calls Try.prog 11 #[.int .i64 n] w fun e w' => e = .returned (.pointer (some ⟨w.heap.size, 0, none⟩)) ∧ ∃ R v, NewW w w' w.heap.size n R v := by
  have hmk := run_make_page
  have d0 : decide ((n : Int) < 0) = false := decide_eq_false (by omega)
  have d1 : decide ((n : Int) > 256) = false := by simp; omega
  go_enter Try.func11, Try.ntmps11
  go_wp2_with fail
  go_loopw [4] (fun k wr => ∃ (q : Nat) (R : List Nat) (v : Value), q ≤ n ∧ k = .int .i64 q ∧ NewW w wr w.heap.size q R v) (fun k _ => n - (intOf k).toNat)
  case atStart => exact ⟨0, [], .slice none 0 0, by omega, rfl, ⟨(Below.refl _ _).alloc (Nat.le_refl _) _, Nat.le_refl _, heap_alloc_new w _, World.ownsRow_nil _ _ _ _, by simp, by simp, by simp⟩⟩
  case round =>
    obtain ⟨q, R, v, hq, rfl, hN⟩ := hrel
    have HN := Lib.hid hN
    by_cases hlt : q < n
    · have hc : wr.cell? ⟨w.heap.size, 0, none⟩ = some v := by rw [cell_of_row _ _ _ _ _ _ hN.head]; rfl
      have hcA : ∀ o, (wr.alloc o).cell? ⟨w.heap.size, 0, none⟩ = some v := fun o => Lib.cell?_alloc_some o hc
      have hcB : ∀ o o', ((wr.alloc o).alloc o').cell? ⟨w.heap.size, 0, none⟩ = some v := fun o o' => Lib.cell?_alloc_some o' (hcA o)
      have HV : Hid (∀ k, v.ownBlock = some k → k < wr.heap.size) := fun k hk => (hN.own.lt k hk).2
      have HR : Hid (w.heap.size < wr.heap.size) := (Array.getElem?_eq_some_iff.1 hN.head).1
      have HVR : Hid (v.ownBlock ≠ some w.heap.size) := own_ne hN.own hN.head (by decide)
      have HO : Hid (∀ o o', ((wr.alloc o).alloc o').drew.ownsRow (w.heap.size + 1) 29 1 v q (R.map sl)) := fun o o' => ((hN.own.alloc o).alloc o').drew
      have HF : Hid (∀ o o' w2, ((wr.alloc o).alloc o').drew.grownBy w2 v.ownBlock → wr.grownBy w2 v.ownBlock) := fun o o' w2 g =>
        grown_trans (grown_none (World.grownBy_alloc wr o none)) (grown_trans (grown_none (World.grownBy_alloc _ o' none)) (grown_trans (grown_none (grown_draws _ 1)) g))
      have HPR : Hid (∀ o', ((wr.alloc (.cells (pageZ.map cell).toArray 5)).alloc o').drew.heap[wr.heap.size]? = some (.cells (pageZ.map cell).toArray 5 (0, 0))) := fun o' => by
        show ((wr.alloc (.cells (pageZ.map cell).toArray 5)).alloc o').heap[wr.heap.size]? = _
        exact heap_alloc2_old wr _ o'
      have HCELL : Hid (∀ o, ((wr.alloc o).alloc (.cells #[sl wr.heap.size] 29)).drew.cell? ⟨wr.heap.size + 1, 0, none⟩ = some (sl wr.heap.size)) := fun o => by
        show ((wr.alloc o).alloc (.cells #[sl wr.heap.size] 29)).cell? ⟨wr.heap.size + 1, 0, none⟩ = _
        rw [cell_of_row _ _ _ _ _ _ (heap_alloc2_new wr o _)]
        rfl
      clear hN
      go_wp2_with fail
      go_region_law (refine step_append_tab rfl _ _ rfl (w.heap.size + 1) v q (R.map sl) rfl (HO.out _ _) ⟨wr.heap.size + 1, 0, none⟩ _ wr.heap.size rfl (HCELL.out _) (by omega) (by have := HR.out; simp; omega) ?_; intro f cap w2 hbf hown hG; have hg1 := HF.out _ _ _ hG; have hp2 := blk_kept (HPR.out _) hG (by intro e; have := HV.out _ e; omega); have hh2 := blk_kept HN.out.head hg1 HVR.out; have hc2 : w2.cell? ⟨w.heap.size, 0, none⟩ = some v := (by rw [cell_of_row _ _ _ _ _ _ hh2]; rfl); have hf2 := frozen_of_row w2 w.heap.size 0 _ _ hh2; have HST := Lib.hid (HN.out.step (Nat.le_refl _) hg1 hp2 hown); clear hG hg1 hp2 hh2 hown)
      all_goals
        go_wp2_with fail
        go_roundw
        case rel => exact ⟨q + 1, _, _, by omega, by go_num, HST.out⟩
        case measure => simp [intOf]; omega
    · obtain rfl : q = n := by omega
      clear hN
      go_wp2_with fail
      go_ret
      exact ⟨rfl, R, v, HN.out⟩

theorem rnew_no (n : Int) (w : World) (h : ¬ (0 ≤ n ∧ n ≤ 256)) :
    Calls Try.prog 11 #[.int .i64 n] w fun e w' => e = .returned (.pointer none) ∧ w' = w := by
  rcases (show n < 0 ∨ (¬ n < 0 ∧ 256 < n) by omega) with h1 | ⟨h1, h2⟩
  all_goals
    clear h
    go_enter Try.func11, Try.ntmps11
    go_wp2_with fail
    go_ret
    exact ⟨rfl, rfl⟩
end Go.Proofs.Ytnfofhnjeinmfaa
