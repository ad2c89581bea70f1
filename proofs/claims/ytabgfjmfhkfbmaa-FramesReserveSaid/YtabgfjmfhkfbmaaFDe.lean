/- Package frames: Wire, Loan. -/
import Derived.Test.YtabgfjmfhkfbmaaFDd
namespace Go.Proofs.Ytabgfjmfhkfbmaa
open Go.ChangeShapes Go.WideShapes Go.ChangeAt Go.RowKit Go.Deep
set_option linter.unusedVariables false

theorem flat_set1 (xs : List FrV) (i q : Nat) (y : FrV) {x : FrV} (hx : xs[i]? = some x) (hq : q < 5) (v : Value) (hv : frCells y = (frCells x).set q v) : (xs.set i y).flatMap frCells = (xs.flatMap frCells).set (i * 5 + q) v := by
  induction xs generalizing i with
  | nil => simp at hx
  | cons z xs ih =>
    cases i with
    | zero =>
      obtain rfl : z = x := by simpa using hx
      rw [List.set_cons_zero, List.flatMap_cons, List.flatMap_cons, hv, Nat.zero_mul, Nat.zero_add, List.set_append_left _ _ (by rw [fr_len]; exact hq)]
    | succ i =>
      rw [List.set_cons_succ, List.flatMap_cons, ih i (by simpa using hx), List.flatMap_cons]
      have e0 : (i + 1) * 5 + q = (frCells z).length + (i * 5 + q) := by rw [fr_len]; omega
      rw [e0, List.set_append_right _ _ (by omega)]
      simp

section
variable {w : World} {r g c : Nat} {rs : Int} {xs : List FrV}
/-- One cell of one frame is another one. -/
theorem FP.one (h : FP w r rs xs g c) {i : Nat} {x : FrV} (hx : xs[i]? = some x) {q : Nat} (hq : q < 5) {y : FrV} (hy : GoodF y) {v : Value} (hv : frCells y = (frCells x).set q v) : FP (w.setCell ⟨g, i * 5 + q, none⟩ v) r rs (xs.set i y) g c := by
  have ho : ∀ (W : World) (o : Nat) (v : Value), (W.setCell ⟨g, o, none⟩ v).heap[r]? = W.heap[r]? := fun W o v => heap_setCell_other W _ r v (by first | exact h.ne | exact h.ne.symm)
  refine ⟨by rw [ho, List.length_set]; exact h.head, ?_, by rw [List.length_set]; exact h.len0, by rw [List.length_set]; exact h.len1, h.rs0, by rw [List.length_set]; exact h.rs1, h.good.set i hy⟩
  have hl := flat_len frCells 5 fr_len (xs.set i y)
  rw [List.length_set] at hl
  rcases h.row.2 with ⟨e, _⟩ | ⟨g', cap, cur, hsl, hb, hg, h1, h2, h3, ht⟩
  · cases e
  · simp only [Value.slice.injEq, Option.some.injEq, Addr.mk.injEq] at hsl
    obtain ⟨⟨rfl, _⟩, _, rfl⟩ := hsl
    refine ⟨by rw [List.length_set]; exact hl, .inr ⟨g, c, _, by rw [List.length_set], hb, heap_setCell_same w g (i * 5 + q) _ _ v hg, by rw [List.length_set]; exact h1, h2, by simp [h3], ?_⟩⟩
    rw [flat_set1 xs i q y hx hq v hv, ← ht, List.length_set]
    simp only [Array.toList_setIfInBounds, List.take_set]

def wireX (b : Int) (x : FrV) : Int × FrV := if mayBy x.wi b then (0, ⟨x.cl, x.ow, x.ix, x.wi + b, x.lo⟩) else (2, x)
theorem FP.left_wire (h : FP w r rs xs g c) {k : Nat} {x : FrV} (hx : xs[k]? = some x) (b : Int) (h0 : x.cl ≠ 0) (hm : mayBy x.wi b) :
    FLeft PP w (w.setCell ⟨g, k * 5 + 3, none⟩ (.int .i64 (x.wi + b))) r rs [r, g] (xs.set k ⟨x.cl, x.ow, x.ix, x.wi + b, x.lo⟩) := by
  have hk := (List.getElem?_eq_some_iff.1 hx).1
  have hgx := h.good x (List.mem_of_getElem? hx)
  have hy : GoodF ⟨x.cl, x.ow, x.ix, x.wi + b, x.lo⟩ := ⟨hgx.c0, hgx.c1, fun e => absurd e h0, by have := hm.1; show (0 : Int) ≤ x.wi + b; omega, by have := hm.2; show x.wi + b ≤ 1000000; omega, hgx.l0, hgx.l1, hgx.ow, hgx.ix⟩
  exact ⟨[r, g], ⟨g, c, rfl, h.one hx (q := 3) (by omega) hy rfl⟩, Turn.setCell [r, g] _ g _ _ (by simp), fun b hb => .inl hb⟩
set_option maxHeartbeats 1000000 in
theorem wire_fn (h : FP w r rs xs g c) {k : Nat} {x : FrV} (hx : xs[k]? = some x) (h0 : x.cl ≠ 0) (b : Int) (B : Nat) (hB : w.cell? ⟨B, 0, none⟩ = some (.int .i64 b)) (hBg : B ≠ g) :
    Calls Try.prog 36 (#[.pointer (some ⟨g, k * 5, none⟩)] ++ #[.pointer (some ⟨B, 0, none⟩)]) w fun e w' => e = .returned (.int .i64 (wireX b x).1) ∧ FLeft PP w w' r rs [r, g] (xs.set k (wireX b x).2) := by
  show Calls Try.prog 36 #[.pointer (some ⟨g, k * 5, none⟩), .pointer (some ⟨B, 0, none⟩)] w _
  have gd := grown_drew1 w
  have hD := h.grow gd
  obtain ⟨f0, f1, f2, f3, f4⟩ := hD.fr hx
  have hgx := h.good x (List.mem_of_getElem? hx)
  obtain ⟨cur, hcur, _⟩ := hD.cur
  have z := frozen_of_row w.drew g (k * 5 + 3) _ _ hcur
  have hB1 : w.drew.cell? ⟨B, 0, none⟩ = some (.int .i64 b) := hB
  have s0 := Lib.hid hB1
  by_cases hm : mayBy x.wi b
  · have ha : wireX b x = (0, ⟨x.cl, x.ow, x.ix, x.wi + b, x.lo⟩) := if_pos hm
    rw [ha]
    have HA := Lib.hid (add_ok w.drew g (k * 5 + 3) x.wi b hgx.w0 hgx.w1 hm f3 z)
    have HS := Lib.hid (hD.left_wire hx b h0 hm)
    have HT := Lib.hid gd
    have s1 := Lib.hid (show (w.setCell ⟨g, k * 5 + 3, none⟩ (.int .i64 (x.wi + b))).drew.cell? ⟨B, 0, none⟩ = some (.int .i64 b) from (World.cell?_of_block (a := ⟨B, 0, none⟩) (heap_setCell_other w _ _ _ (by first | exact hBg | exact hBg.symm))).trans hB)
    clear h hD hx hm ha hcur hB hB1 gd hgx z f0 f1 f2 f3 f4 h0
    go_enter Try.func36, Try.ntmps36
    go_wp2_with fail
    go_region_held3 (fun W => W.cell? ⟨B, 0, none⟩ = some (.int .i64 b)) (first | with_reducible exact s0.out | with_reducible exact s1.out)
      (first | (go_at_call 37; with_reducible refine (HA.out.mono ?_); rintro e W ⟨rfl, rfl⟩))
    all_goals
      go_wp2_with fail
      go_ret
      exact ⟨rfl, HS.out.back HT.out⟩
  · have ha : wireX b x = (2, x) := if_neg hm
    rw [ha]
    have HA := Lib.hid (add_no w.drew g (k * 5 + 3) x.wi b hgx.w0 hgx.w1 hm f3)
    have HS := Lib.hid (h.same gd hx)
    clear h hD hx hm ha hcur hB hB1 gd hgx z f0 f1 f2 f3 f4 h0
    go_enter Try.func36, Try.ntmps36
    go_wp2_with fail
    go_region_held3 (fun W => W.cell? ⟨B, 0, none⟩ = some (.int .i64 b)) (first | with_reducible exact s0.out)
      (first | (go_at_call 37; with_reducible refine (HA.out.mono ?_); rintro e W ⟨rfl, e2⟩; subst W))
    all_goals
      go_wp2_with fail
      go_ret
      exact ⟨rfl, HS.out⟩
theorem fr_wire (h : FP w r rs xs g c) (fr b : Int) :
    Calls Try.prog 20 #[.pointer (some ⟨r, 0, none⟩), .int .i64 fr, .int .i64 b] w fun e w' => e = .returned (.int .i64 (wireF xs fr b).e) ∧ FLeft PP w w' r rs [r, g] (wireF xs fr b).xs := by
  have ga := World.grownBy_alloc w (.cells #[.int .i64 b] 3 (0, 0)) none
  have hA := h.grow ga
  have hB := heap_alloc_new w (.cells #[.int .i64 b] 3 (0, 0))
  have hB0 : (w.alloc (.cells #[.int .i64 b] 3 (0, 0))).cell? ⟨w.heap.size, 0, none⟩ = some (.int .i64 b) := by rw [cell_of_row _ _ _ _ _ _ hB]; rfl
  have hne : w.heap.size ≠ g := fun e => by have := h.glt; omega
  have HC := Lib.hid (change_walk 36 #[.pointer (some ⟨w.heap.size, 0, none⟩)] (enters_of Try.func36 (by kernel_rfl) rfl) hA fr (wireX b) fun k x _ hx hc => wire_fn hA hx hc b _ hB0 hne)
  have HG := Lib.hid ga
  clear h ga hA hB hB0 hne
  go_enter Try.func20, Try.ntmps20
  go_wp2_with fail
  refine HC.out.mono ?_
  rintro e w2 ⟨rfl, h2⟩
  have H2 := Lib.hid (h2.back HG.out)
  clear h2
  go_wp2_with fail
  go_ret
  exact ⟨rfl, H2.out⟩

def loanX (b : Int) (x : FrV) : Int × FrV := if mayBy x.lo b then (0, ⟨x.cl, x.ow, x.ix, x.wi, x.lo + b⟩) else (2, x)
theorem FP.left_loan (h : FP w r rs xs g c) {k : Nat} {x : FrV} (hx : xs[k]? = some x) (b : Int) (h0 : x.cl ≠ 0) (hm : mayBy x.lo b) :
    FLeft PP w (w.setCell ⟨g, k * 5 + 4, none⟩ (.int .i64 (x.lo + b))) r rs [r, g] (xs.set k ⟨x.cl, x.ow, x.ix, x.wi, x.lo + b⟩) := by
  have hk := (List.getElem?_eq_some_iff.1 hx).1
  have hgx := h.good x (List.mem_of_getElem? hx)
  have hy : GoodF ⟨x.cl, x.ow, x.ix, x.wi, x.lo + b⟩ := ⟨hgx.c0, hgx.c1, fun e => absurd e h0, hgx.w0, hgx.w1, by have := hm.1; show (0 : Int) ≤ x.lo + b; omega, by have := hm.2; show x.lo + b ≤ 1000000; omega, hgx.ow, hgx.ix⟩
  exact ⟨[r, g], ⟨g, c, rfl, h.one hx (q := 4) (by omega) hy rfl⟩, Turn.setCell [r, g] _ g _ _ (by simp), fun b hb => .inl hb⟩
set_option maxHeartbeats 1000000 in
theorem loan_fn (h : FP w r rs xs g c) {k : Nat} {x : FrV} (hx : xs[k]? = some x) (h0 : x.cl ≠ 0) (b : Int) (B : Nat) (hB : w.cell? ⟨B, 0, none⟩ = some (.int .i64 b)) (hBg : B ≠ g) :
    Calls Try.prog 38 (#[.pointer (some ⟨g, k * 5, none⟩)] ++ #[.pointer (some ⟨B, 0, none⟩)]) w fun e w' => e = .returned (.int .i64 (loanX b x).1) ∧ FLeft PP w w' r rs [r, g] (xs.set k (loanX b x).2) := by
  show Calls Try.prog 38 #[.pointer (some ⟨g, k * 5, none⟩), .pointer (some ⟨B, 0, none⟩)] w _
  have gd := grown_drew1 w
  have hD := h.grow gd
  obtain ⟨f0, f1, f2, f3, f4⟩ := hD.fr hx
  have hgx := h.good x (List.mem_of_getElem? hx)
  obtain ⟨cur, hcur, _⟩ := hD.cur
  have z := frozen_of_row w.drew g (k * 5 + 4) _ _ hcur
  have hB1 : w.drew.cell? ⟨B, 0, none⟩ = some (.int .i64 b) := hB
  have s0 := Lib.hid hB1
  by_cases hm : mayBy x.lo b
  · have ha : loanX b x = (0, ⟨x.cl, x.ow, x.ix, x.wi, x.lo + b⟩) := if_pos hm
    rw [ha]
    have HA := Lib.hid (add_ok w.drew g (k * 5 + 4) x.lo b hgx.l0 hgx.l1 hm f4 z)
    have HS := Lib.hid (hD.left_loan hx b h0 hm)
    have HT := Lib.hid gd
    have s1 := Lib.hid (show (w.setCell ⟨g, k * 5 + 4, none⟩ (.int .i64 (x.lo + b))).drew.cell? ⟨B, 0, none⟩ = some (.int .i64 b) from (World.cell?_of_block (a := ⟨B, 0, none⟩) (heap_setCell_other w _ _ _ (by first | exact hBg | exact hBg.symm))).trans hB)
    clear h hD hx hm ha hcur hB hB1 gd hgx z f0 f1 f2 f3 f4 h0
    go_enter Try.func38, Try.ntmps38
    go_wp2_with fail
    go_region_held3 (fun W => W.cell? ⟨B, 0, none⟩ = some (.int .i64 b)) (first | with_reducible exact s0.out | with_reducible exact s1.out)
      (first | (go_at_call 37; with_reducible refine (HA.out.mono ?_); rintro e W ⟨rfl, rfl⟩))
    all_goals
      go_wp2_with fail
      go_ret
      exact ⟨rfl, HS.out.back HT.out⟩
  · have ha : loanX b x = (2, x) := if_neg hm
    rw [ha]
    have HA := Lib.hid (add_no w.drew g (k * 5 + 4) x.lo b hgx.l0 hgx.l1 hm f4)
    have HS := Lib.hid (h.same gd hx)
    clear h hD hx hm ha hcur hB hB1 gd hgx z f0 f1 f2 f3 f4 h0
    go_enter Try.func38, Try.ntmps38
    go_wp2_with fail
    go_region_held3 (fun W => W.cell? ⟨B, 0, none⟩ = some (.int .i64 b)) (first | with_reducible exact s0.out)
      (first | (go_at_call 37; with_reducible refine (HA.out.mono ?_); rintro e W ⟨rfl, e2⟩; subst W))
    all_goals
      go_wp2_with fail
      go_ret
      exact ⟨rfl, HS.out⟩
theorem fr_loan (h : FP w r rs xs g c) (fr b : Int) :
    Calls Try.prog 21 #[.pointer (some ⟨r, 0, none⟩), .int .i64 fr, .int .i64 b] w fun e w' => e = .returned (.int .i64 (loanF xs fr b).e) ∧ FLeft PP w w' r rs [r, g] (loanF xs fr b).xs := by
  have ga := World.grownBy_alloc w (.cells #[.int .i64 b] 3 (0, 0)) none
  have hA := h.grow ga
  have hB := heap_alloc_new w (.cells #[.int .i64 b] 3 (0, 0))
  have hB0 : (w.alloc (.cells #[.int .i64 b] 3 (0, 0))).cell? ⟨w.heap.size, 0, none⟩ = some (.int .i64 b) := by rw [cell_of_row _ _ _ _ _ _ hB]; rfl
  have hne : w.heap.size ≠ g := fun e => by have := h.glt; omega
  have HC := Lib.hid (change_walk 38 #[.pointer (some ⟨w.heap.size, 0, none⟩)] (enters_of Try.func38 (by kernel_rfl) rfl) hA fr (loanX b) fun k x _ hx hc => loan_fn hA hx hc b _ hB0 hne)
  have HG := Lib.hid ga
  clear h ga hA hB hB0 hne
  go_enter Try.func21, Try.ntmps21
  go_wp2_with fail
  refine HC.out.mono ?_
  rintro e w2 ⟨rfl, h2⟩
  have H2 := Lib.hid (h2.back HG.out)
  clear h2
  go_wp2_with fail
  go_ret
  exact ⟨rfl, H2.out⟩
end
end Go.Proofs.Ytabgfjmfhkfbmaa
