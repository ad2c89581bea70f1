/- Package swap (landed): what a device is; Peek. -/
import Derived.Test.YtnfofhnjeinmfaaVOk
import Derived.Test.YtnfofhnjeinmfaaVMap
namespace Go.Proofs.Ytnfofhnjeinmfaa
open Go.ChangeShapes Go.WideShapes Go.ChangeAt Go.RowKit Go.Deep
open Extern.Stop (cell)
set_option linter.unusedVariables false

/-- A device: block p, its map in block M. -/
structure SD (w : World) (p : Nat) (s : VS) (M n : Nat) : Prop where
  head : w.heap[p]? = some (.cells #[.int .i64 (s.L.length : Int), .map (some M), .int .i64 s.cw, .int .i64 s.pw, .int .i64 s.cr, .int .i64 s.pr] 60 (0, 0))
  pages : PMap w M n s.L
  len : s.L.length ≤ 256
  page : ∀ q, q ∈ s.L → q.length = 4096
section
variable {w w' : World} {p M n : Nat} {s : VS}
theorem SD.plt (h : SD w p s M n) : p < w.heap.size := (Array.getElem?_eq_some_iff.1 h.head).1
theorem SD.ne (h : SD w p s M n) : M ≠ p := h.pages.ne h.head
theorem SD.kept (h : SD w p s M n) (hb : ∀ b, b ∈ [p, M] → w'.heap[b]? = w.heap[b]?) : SD w' p s M n := ⟨(hb p (by simp)).trans h.head, h.pages.kept (hb M (by simp)), h.len, h.page⟩
theorem SD.lt (h : SD w p s M n) : ∀ b, b ∈ [p, M] → b < w.heap.size := by
  intro b hb
  simp at hb
  rcases hb with rfl | rfl
  · exact h.plt
  · exact h.pages.lt
theorem SD.grow (h : SD w p s M n) (k : w.grownBy w' none) : SD w' p s M n := h.kept fun b hb => k.block b (h.lt b hb) (by simp)
theorem SD.at (h : SD w p s M n) : w.cell? ⟨p, 0, none⟩ = some (.int .i64 (s.L.length : Int)) ∧ w.cell? ⟨p, 1, none⟩ = some (.map (some M)) ∧ w.cell? ⟨p, 2, none⟩ = some (.int .i64 s.cw) ∧ w.cell? ⟨p, 3, none⟩ = some (.int .i64 s.pw) ∧ w.cell? ⟨p, 4, none⟩ = some (.int .i64 s.cr) ∧ w.cell? ⟨p, 5, none⟩ = some (.int .i64 s.pr) :=
  ⟨by rw [cell_of_row _ _ _ _ _ _ h.head]; rfl, by rw [cell_of_row _ _ _ _ _ _ h.head]; rfl, by rw [cell_of_row _ _ _ _ _ _ h.head]; rfl, by rw [cell_of_row _ _ _ _ _ _ h.head]; rfl, by rw [cell_of_row _ _ _ _ _ _ h.head]; rfl, by rw [cell_of_row _ _ _ _ _ _ h.head]; rfl⟩

theorem neq_dev9 (w : World) (a : Addr) : (binOp .neq 25 (.pointer (some a)) (.pointer none)).run Try.prog w = .ok (.bool true) w := by
  have h1 : ∀ d : Nat, (Op.equalIn (d + 1) 25 (.pointer (some a)) (.pointer none)).run Try.prog w = .ok false w := fun d => by
    simp [Op.equalIn, run_underlying Try.underlying25]
  simp only [binOp]
  simp [Op.equal, Op.maxDepth, h1 9999]
theorem neq_map9 (w : World) (b : Nat) : (binOp .neq 56 (.map (some b)) (.map none)).run Try.prog w = .ok (.bool true) w := by
  have h1 : ∀ d : Nat, (Op.equalIn (d + 1) 56 (.map (some b)) (.map none)).run Try.prog w = .ok false w := fun d => by
    simp [Op.equalIn, run_underlying Try.underlying56]
  simp only [binOp]
  simp [Op.equal, Op.maxDepth, h1 9999]
theorem made_ok (h : SD w p s M n) : Calls Try.prog 25 #[.pointer (some ⟨p, 0, none⟩)] w fun e w' => e = .returned (.bool true) ∧ w' = w := by
  obtain ⟨c0, c1, c2, c3, c4, c5⟩ := h.at
  have q1 := neq_dev9
  have q2 := neq_map9
  clear h
  go_enter Try.func25, Try.ntmps25
  go_wp2_with fail
  go_ret
  exact ⟨rfl, rfl⟩

theorem eql_dev9 (w : World) (a : Addr) : (binOp .eql 25 (.pointer (some a)) (.pointer none)).run Try.prog w = .ok (.bool false) w := by
  have h1 : ∀ d : Nat, (Op.equalIn (d + 1) 25 (.pointer (some a)) (.pointer none)).run Try.prog w = .ok false w := fun d => by
    simp [Op.equalIn, run_underlying Try.underlying25]
  simp only [binOp]
  simp [Op.equal, Op.maxDepth, h1 9999]
theorem sw_places (h : SD w p s M n) : Calls Try.prog 23 #[.pointer (some ⟨p, 0, none⟩)] w fun e w' => e = .returned (.int .i64 (s.L.length : Int)) ∧ w' = w := by
  obtain ⟨c0, c1, c2, c3, c4, c5⟩ := h.at
  have q1 := eql_dev9
  clear h
  go_enter Try.func23, Try.ntmps23
  go_wp2_with fail
  go_ret
  exact ⟨rfl, rfl⟩
theorem has_ok (h : SD w p s M n) (i : Int) (b : Bool) (hb : decide (s.has i) = b) : Calls Try.prog 26 #[.pointer (some ⟨p, 0, none⟩), .int .i64 i] w fun e w' => e = .returned (.bool b) ∧ w' = w := by
  have HP := Lib.hid (sw_places h)
  have HB := Lib.hid hb
  obtain ⟨L, hL⟩ : ∃ L, (s.L.length : Int) = L := ⟨_, rfl⟩
  have hb2 : b = (decide (i ≥ 0) && decide (i < L)) := by
    rw [← hb, ← hL, ← Bool.decide_and]
    rfl
  rw [hL] at HP
  clear h hb HB hL
  by_cases h0 : i ≥ 0
  · have d0 : decide (i ≥ 0) = true := decide_eq_true h0
    have d1 : decide (0 ≤ i) = true := decide_eq_true h0
    have HB : Hid (b = decide (i < L)) := Lib.hid (by rw [hb2, d0]; rfl)
    clear hb2 h0
    go_enter Try.func26, Try.ntmps26
    go_wp2_with fail
    refine HP.out.mono ?_
    rintro e w2 ⟨rfl, e2⟩
    subst w2
    go_wp2_with fail
    go_ret
    exact ⟨by rw [HB.out]; rfl, rfl⟩
  · have d0 : decide (i ≥ 0) = false := decide_eq_false h0
    have d1 : decide (0 ≤ i) = false := decide_eq_false h0
    have HB : Hid (b = false) := Lib.hid (by rw [hb2, d0]; rfl)
    clear hb2 h0
    go_enter Try.func26, Try.ntmps26
    go_wp2_with fail
    go_ret
    exact ⟨by rw [HB.out]; rfl, rfl⟩

set_option maxHeartbeats 1000000 in
theorem sw_peek (h : SD w p s M n) (i : Int) : Calls Try.prog 21 #[.pointer (some ⟨p, 0, none⟩), .int .i64 i] w fun e w' => ∃ u, e = .returned u ∧ Fresh w w' [p, M] u (peekV s i) ∧ w.grownBy w' none := by
  obtain ⟨c0, c1, c2, c3, c4, c5⟩ := h.at
  have hlen := h.len
  by_cases hs : s.has i
  · have HH := Lib.hid (has_ok h i true (decide_eq_true hs))
    obtain ⟨k, rfl⟩ := Int.eq_ofNat_of_zero_le hs.1
    have hk : k < s.L.length := by have := hs.2; omega
    obtain ⟨pg, hpg⟩ : ∃ pg, s.L[k]? = some pg := ⟨_, List.getElem?_eq_getElem hk⟩
    have hpl := h.page pg (List.mem_of_getElem? hpg)
    have hlook : (Instr.lookup 56 (.map (some M)) (.int .i64 (k : Int)) false).run Try.prog w = .ok (.agg (pgC pg)) w := h.pages.look hpg (by omega)
    have hz := zero_pageC
    have hst := run_cells_page w pageZ pg pageZ_length hpl
    have hst2 := run_store_page w pageZ pg pageZ_length hpl
    have hxs := pgC_size hpl
    have hsl := run_slice_page
    have hpk : peekV s k = pg := by unfold peekV; rw [if_pos hs, Int.toNat_natCast, List.getD_eq_getElem?_getD, hpg]; rfl
    rw [hpk]
    have HG := Lib.hid (World.grownBy_alloc w (.cells (pgC pg) 67 (0, 0)) none)
    have HBs := Lib.hid (show Bs (w.alloc (.cells (pgC pg) 67 (0, 0))) w.heap.size pg from ⟨_, _, heap_alloc_new w _, by rw [pgC_size hpl, hpl]; exact Nat.le_refl _, by
      rw [hpl, List.take_of_length_le (by rw [Array.length_toList, pgC_size hpl]; exact Nat.le_refl _)]
      rfl⟩)
    have HPl := Lib.hid hpl
    have HL := Lib.hid h.lt
    obtain ⟨X, hX⟩ : ∃ X, pgC pg = X := ⟨_, rfl⟩
    obtain ⟨Z, hZ⟩ : ∃ Z, pgC pageZ = Z := ⟨_, rfl⟩
    rw [hX] at hlook hst hst2 hxs HG HBs
    rw [hZ] at hst hst2 hz
    clear h hs hpk hpl hX hZ hpg
    go_enter Try.func21, Try.ntmps21
    go_wp2_with fail
    refine HH.out.mono ?_
    rintro e w2 ⟨rfl, e2⟩
    subst w2
    go_wp2_with fail
    go_ret
    exact ⟨.slice (some ⟨w.heap.size, 0, none⟩) 4096 4096, rfl, ⟨some ⟨w.heap.size, 0, none⟩, 4096, by rw [HPl.out], .inr ⟨w.heap.size, rfl, Nat.le_refl _, fun hm => absurd (HL.out _ hm) (Nat.lt_irrefl _), HBs.out⟩⟩, HG.out⟩
  · have hpk : peekV s i = [] := if_neg hs
    rw [hpk]
    have HH := Lib.hid (has_ok h i false (decide_eq_false hs))
    clear h hs hpk
    go_enter Try.func21, Try.ntmps21
    go_wp2_with fail
    refine HH.out.mono ?_
    rintro e w2 ⟨rfl, e2⟩
    subst w2
    go_wp2_with fail
    go_ret
    exact ⟨_, rfl, Fresh.nil _ _ _ _ _, grown_refl _ _⟩
end
end Go.Proofs.Ytnfofhnjeinmfaa
