/- The document's layer 6: set, Take, Give, Own, Wire, Loan. -/
import Derived.Test.YtabgfjmfhkfbmaaFRef1
namespace Go.Proofs.Ytabgfjmfhkfbmaa
open Go.ChangeShapes Go.WideShapes Go.ChangeAt Go.RowKit Go.Deep
set_option linter.unusedVariables false

/-- A pool behind a call. -/
def RLeft (w w' : World) (r g : Nat) (rs : Int) (zs : List FrV) : Prop := ∃ g' c', RP w' r rs zs g' c' ∧ Turn [r] w w' ∧ (g' = g ∨ w.heap.size ≤ g')

theorem frs_one (xs : List FrV) : ∀ u, u ∈ xs.flatMap frCells → u.oneCell' = true := by
  intro u hu
  obtain ⟨x, _, hx⟩ := List.mem_flatMap.1 hu
  simp [frCells] at hx
  rcases hx with rfl | rfl | rfl | rfl | rfl <;> rfl

/-- append([]Frame{}, l...). -/
theorem wpList_frs {ops : Array Oper} {rest : List Oper} {o : Oper} {a : Act} {Q : Exit → Act → World → Prop} {w : World} (hgd : o.guard = none) (x y : Operand)
    (hop : o.op = Op.call { callee := Callee.builtin Builtin.append, args := #[x, y], argTypes := #[58, 58] })
    {g b c : Nat} {xs : List FrV} (hg : w.heap[g]? = some (.cells #[] 39 (0, 0))) (hx : a.eval x = .slice (some ⟨g, 0, none⟩) 0 0) (hy : a.eval y = .slice (some ⟨b, 0, none⟩) xs.length c)
    (hr : w.ownsRow 0 39 5 (.slice (some ⟨b, 0, none⟩) xs.length c) xs.length (xs.flatMap frCells)) (h0 : 1 ≤ xs.length) (hl : xs.length ≤ 256)
    (hK : ∀ g' c' w', g ≤ g' → w'.ownsRow 0 39 5 (.slice (some ⟨g', 0, none⟩) xs.length c') xs.length (xs.flatMap frCells) → w.grownBy w' (some g) → wpList Try.prog ops Q rest (a.put o.dst (.slice (some ⟨g', 0, none⟩) xs.length c')) w') :
    wpList Try.prog ops Q (o :: rest) a w := by
  have hglt := (Array.getElem?_eq_some_iff.1 hg).1
  obtain ⟨i0, hi, hz0, hz1, hz2⟩ := info_parts info_rfr
  have hown : w.ownsRow g 39 5 (.slice (some ⟨g, 0, none⟩) 0 0) 0 [] := ⟨rfl, .inr ⟨g, 0, #[], rfl, Nat.le_refl _, hg, Nat.le_refl _, by simp [maxLen], rfl, rfl⟩⟩
  refine wpList_plain hgd fun K hK' => ?_
  obtain ⟨g', cap, w', hrun, h2, h3, h4, h5⟩ := run_append_lies (P := Try.prog) w 58 o.type g 39 i0 (.agg #[.int .i64 0, .int .i64 0, .int .i64 0, .int .i64 0, .int .i64 0]) 5 40 Try.underlying58 hi hz0 hz1 hz2 rfl (by decide) _ 0 [] hown ⟨b, 0, none⟩ xs.length c (xs.flatMap frCells) (flat_len frCells 5 fr_len xs)
    (hr.cells (g := b) rfl) (frs_one xs) h0 (by unfold maxLen; omega) (by omega) (Nat.le_of_lt hglt) w.heap.size rfl
  rw [Nat.zero_add] at hrun h2
  rw [List.nil_append] at h2
  have hle := (World.ownsRow.lt h2 g' rfl).1
  have hrow : w'.ownsRow 0 39 5 (.slice (some ⟨g', 0, none⟩) xs.length cap) xs.length (xs.flatMap frCells) := by
    refine ⟨h2.1, ?_⟩
    rcases h2.2 with ⟨e, _⟩ | ⟨q, cp, cur, e, _, h6⟩
    · cases e
    · exact .inr ⟨q, cp, cur, e, Nat.zero_le _, h6⟩
  have hfin := hK g' cap w' hle hrow (by simpa [Value.ownBlock] using h3)
  unfold Oper.wp
  simp [execOp, hop, resolve, invoke, builtin, hx, hy, hrun, Result.andThen]
  exact hK' _ _ hfin

theorem flat_set5 (xs : List FrV) (i : Nat) (y : FrV) (hi : i < xs.length) : (xs.set i y).flatMap frCells = (((((xs.flatMap frCells).set (i * 5) (.int .i64 y.cl)).set (i * 5 + 1) (.int .i64 y.ow)).set (i * 5 + 2) (.int .i64 y.ix)).set (i * 5 + 3) (.int .i64 y.wi)).set (i * 5 + 4) (.int .i64 y.lo) := by
  induction xs generalizing i with
  | nil => simp at hi
  | cons z xs ih =>
    cases i with
    | zero => simp [frCells]
    | succ i =>
      rw [List.set_cons_succ, List.flatMap_cons, ih i (by simpa using hi), List.flatMap_cons]
      have e0 : (i + 1) * 5 = (frCells z).length + i * 5 := by simp [frCells]; omega
      have e1 : (i + 1) * 5 + 1 = (frCells z).length + (i * 5 + 1) := by simp [frCells]; omega
      have e2 : (i + 1) * 5 + 2 = (frCells z).length + (i * 5 + 2) := by simp [frCells]; omega
      have e3 : (i + 1) * 5 + 3 = (frCells z).length + (i * 5 + 3) := by simp [frCells]; omega
      have e4 : (i + 1) * 5 + 4 = (frCells z).length + (i * 5 + 4) := by simp [frCells]; omega
      rw [e1, e2, e3, e4, e0, List.set_append_right _ _ (by omega), List.set_append_right _ _ (by omega), List.set_append_right _ _ (by omega), List.set_append_right _ _ (by omega), List.set_append_right _ _ (by omega)]
      simp

/-- One frame of the row is another one. -/
theorem RP.set {w : World} {r g c : Nat} {rs : Int} {xs : List FrV} (h : RP w r rs xs g c) (i : Nat) (y : FrV) (hi : i < xs.length) :
    RP (((((w.setCell ⟨g, i * 5, none⟩ (.int .i64 y.cl)).setCell ⟨g, i * 5 + 1, none⟩ (.int .i64 y.ow)).setCell ⟨g, i * 5 + 2, none⟩ (.int .i64 y.ix)).setCell ⟨g, i * 5 + 3, none⟩ (.int .i64 y.wi)).setCell ⟨g, i * 5 + 4, none⟩ (.int .i64 y.lo)) r rs (xs.set i y) g c := by
  have ho : ∀ (W : World) (o : Nat) (v : Value), (W.setCell ⟨g, o, none⟩ v).heap[r]? = W.heap[r]? := fun W o v => heap_setCell_other W _ r v (by first | exact h.ne | exact h.ne.symm)
  refine ⟨by rw [ho, ho, ho, ho, ho, List.length_set]; exact h.head, ?_, by rw [List.length_set]; exact h.len0, by rw [List.length_set]; exact h.len1, h.rs0, by rw [List.length_set]; exact h.rs1⟩
  have hl := flat_len frCells 5 fr_len (xs.set i y)
  rw [List.length_set] at hl
  rcases h.row.2 with ⟨e, _⟩ | ⟨g', cap, cur, hsl, hb, hg, h1, h2, h3, ht⟩
  · cases e
  · simp only [Value.slice.injEq, Option.some.injEq, Addr.mk.injEq] at hsl
    obtain ⟨⟨rfl, _⟩, _, rfl⟩ := hsl
    have g0 := heap_setCell_same w g (i * 5) _ _ (.int .i64 y.cl) hg
    have g1 := heap_setCell_same _ g (i * 5 + 1) _ _ (.int .i64 y.ow) g0
    have g2 := heap_setCell_same _ g (i * 5 + 2) _ _ (.int .i64 y.ix) g1
    have g3 := heap_setCell_same _ g (i * 5 + 3) _ _ (.int .i64 y.wi) g2
    have g4 := heap_setCell_same _ g (i * 5 + 4) _ _ (.int .i64 y.lo) g3
    refine ⟨by rw [List.length_set]; exact hl, .inr ⟨g, c, _, by rw [List.length_set], hb, g4, by rw [List.length_set]; exact h1, h2, by simp [h3], ?_⟩⟩
    rw [flat_set5 xs i y hi, ← ht, List.length_set]
    simp only [Array.toList_setIfInBounds, List.take_set]

section
variable {w : World} {r g c : Nat} {rs : Int} {xs : List FrV}

set_option maxHeartbeats 1000000 in
theorem ref_set (h : RP w r rs xs g c) (k : Nat) (y : FrV) (hk : k < xs.length) :
    Calls Try.prog 40 #[.pointer (some ⟨r, 0, none⟩), .int .i64 k, .agg #[.int .i64 y.cl, .int .i64 y.ow, .int .i64 y.ix, .int .i64 y.wi, .int .i64 y.lo]] w fun e w' => e = .returned (.tuple #[]) ∧ RLeft w w' r g rs (xs.set k y) := by
  have ga := World.grownBy_alloc w (.cells #[.int .i64 y.cl, .int .i64 y.ow, .int .i64 y.ix, .int .i64 y.wi, .int .i64 y.lo] 39 (0, 0)) none
  have hB := FrB.new w 39 y
  have hA := h.grow ga
  obtain ⟨yc, yo, yi, yw, yl⟩ := y
  simp only at *
  have hsz := World.size_alloc w (.cells #[.int .i64 yc, .int .i64 yo, .int .i64 yi, .int .i64 yw, .int .i64 yl] 39 (0, 0))
  generalize hwA : w.alloc (.cells #[.int .i64 yc, .int .i64 yo, .int .i64 yi, .int .i64 yw, .int .i64 yl] 39 (0, 0)) = wA at *
  have gc := World.grownBy_alloc wA (.cells #[] 39 (0, 0)) none
  have hC := hA.grow gc
  obtain ⟨c0, c1⟩ := hA.at
  obtain ⟨c2, c3⟩ := hC.at
  have HN := Lib.hid (heap_alloc_new wA (.cells #[] 39 (0, 0)))
  have HC := Lib.hid hC
  have HB := Lib.hid (hB.grow gc)
  have HG := Lib.hid (grown_trans ga gc)
  have HL := Lib.hid h
  have HSZ := Lib.hid (show w.heap.size < wA.heap.size by omega)
  have hl0 := h.len0
  have hl1 := h.len1
  clear ga gc hB hA hC h hsz
  go_enter Try.func40, Try.ntmps40
  go_wp2_with (at_builtin; refine wpList_frs rfl _ _ rfl HN.out rfl rfl HC.out.row hl0 hl1 ?_; intro g9 c9 w9 hle9 hrow9 gr9; have h9 := HC.out; have HR9 := Lib.hid hrow9; have HLE := Lib.hid hle9; have G9 := Lib.hid gr9; have hp9 := (gr9.block r HC.out.rlt (fun e => (by have := HL.out.rlt; have := HSZ.out; have := Option.some.inj e; omega))).trans HC.out.head; have cp9 : w9.cell? ⟨r, 0, none⟩ = some (.slice (some ⟨g, 0, none⟩) xs.length c) := (by rw [cell_of_row _ _ _ _ _ _ hp9]; rfl); have fp9 := frozen_of_row w9 r 0 _ _ hp9; have HP9 := Lib.hid hp9; clear hp9 h9 hle9 hrow9 gr9)
  have hg9r : g9 ≠ r := by have := HLE.out; have := HL.out.rlt; have := HSZ.out; omega
  have hP10 : RP (w9.setCell ⟨r, 0, none⟩ (.slice (some ⟨g9, 0, none⟩) xs.length c9)) r rs xs g9 c9 := by
    have hw9 := HR9.out
    refine ⟨heap_setCell_same w9 r 0 _ _ _ HP9.out, ⟨hw9.1, ?_⟩, HL.out.len0, HL.out.len1, HL.out.rs0, HL.out.rs1⟩
    rcases hw9.2 with ⟨e, _⟩ | ⟨q, cp, cur, e, q1, q2, q3⟩
    · cases e
    · refine .inr ⟨q, cp, cur, e, q1, ?_, q3⟩
      simp only [Value.slice.injEq, Option.some.injEq, Addr.mk.injEq] at e
      rw [← q2]
      exact heap_setCell_other w9 _ q _ (by first | exact (e.1.1 ▸ hg9r) | exact fun e2 => hg9r (e.1.1.trans e2.symm) | exact fun e2 => hg9r (e.1.1.trans e2))
  have hT10 : Turn [r] w (w9.setCell ⟨r, 0, none⟩ (.slice (some ⟨g9, 0, none⟩) xs.length c9)) :=
    (Turn.grown (grown_at HG.out G9.out (by have := HSZ.out; omega))).trans' (Turn.setCell [r] w9 r 0 _ (by simp))
  have hB10 : FrB (w9.setCell ⟨r, 0, none⟩ (.slice (some ⟨g9, 0, none⟩) xs.length c9)) w.heap.size 39 ⟨yc, yo, yi, yw, yl⟩ := by
    have e1 := (G9.out.block w.heap.size (by have := HB.out.lt; exact this) (fun e => by have := HSZ.out; have := Option.some.inj e; omega)).trans HB.out
    exact (heap_setCell_other w9 _ w.heap.size _ (by have := HL.out.rlt; first | exact fun e => by (have : r = w.heap.size := e); omega | exact fun e => by (have : w.heap.size = r := e); omega)).trans e1
  generalize w9.setCell ⟨r, 0, none⟩ (.slice (some ⟨g9, 0, none⟩) xs.length c9) = w10 at *
  have hP := hP10.grow (grown_drew1 w10)
  have hB := hB10.grow (grown_drew1 w10)
  obtain ⟨x, hx⟩ : ∃ x, xs[k]? = some x := ⟨_, List.getElem?_eq_getElem hk⟩
  obtain ⟨f0, f1, f2, f3, f4⟩ := hP10.fr hx
  obtain ⟨cur, hcur, _⟩ := hP10.cur
  have z0 := frozen_of_row w10 g9 (k * 5) _ _ hcur
  have z1 := frozen_of_row w10 g9 (k * 5 + 1) _ _ hcur
  have z2 := frozen_of_row w10 g9 (k * 5 + 2) _ _ hcur
  have z3 := frozen_of_row w10 g9 (k * 5 + 3) _ _ hcur
  have z4 := frozen_of_row w10 g9 (k * 5 + 4) _ _ hcur
  have s0 := Lib.hid (show w10.drew.cell? ⟨r, 0, none⟩ = some (.slice (some ⟨g9, 0, none⟩) xs.length c9) ∧ (w10.drew.cell? ⟨w.heap.size, 0, none⟩ = some (.int .i64 yc) ∧ w10.drew.cell? ⟨w.heap.size, 1, none⟩ = some (.int .i64 yo) ∧ w10.drew.cell? ⟨w.heap.size, 2, none⟩ = some (.int .i64 yi) ∧ w10.drew.cell? ⟨w.heap.size, 3, none⟩ = some (.int .i64 yw) ∧ w10.drew.cell? ⟨w.heap.size, 4, none⟩ = some (.int .i64 yl)) from ⟨hP.at.1, hB.at⟩)
  have hcell : ∀ W : World, (∀ b, b ≠ g9 → W.heap[b]? = w10.drew.heap[b]?) → W.cell? ⟨r, 0, none⟩ = some (.slice (some ⟨g9, 0, none⟩) xs.length c9) ∧ (W.cell? ⟨w.heap.size, 0, none⟩ = some (.int .i64 yc) ∧ W.cell? ⟨w.heap.size, 1, none⟩ = some (.int .i64 yo) ∧ W.cell? ⟨w.heap.size, 2, none⟩ = some (.int .i64 yi) ∧ W.cell? ⟨w.heap.size, 3, none⟩ = some (.int .i64 yw) ∧ W.cell? ⟨w.heap.size, 4, none⟩ = some (.int .i64 yl)) := fun W hW => by
    have hb : w.heap.size ≠ g9 := by have := HLE.out; have := HSZ.out; omega
    have e1 := (hW r hg9r.symm).trans hP.head
    have e2 : FrB W w.heap.size 39 ⟨yc, yo, yi, yw, yl⟩ := (hW _ hb).trans hB
    exact ⟨by rw [cell_of_row _ _ _ _ _ _ e1]; rfl, e2.at⟩
  have hoth : ∀ b, b ≠ g9 → ((((((w10.setCell ⟨g9, k * 5, none⟩ (.int .i64 yc)).setCell ⟨g9, k * 5 + 1, none⟩ (.int .i64 yo)).setCell ⟨g9, k * 5 + 2, none⟩ (.int .i64 yi)).setCell ⟨g9, k * 5 + 3, none⟩ (.int .i64 yw)).setCell ⟨g9, k * 5 + 4, none⟩ (.int .i64 yl)).drew).heap[b]? = w10.drew.heap[b]? := fun b hb => by
    have ho : ∀ (W : World) (o : Nat) (v : Value), (W.setCell ⟨g9, o, none⟩ v).heap[b]? = W.heap[b]? := fun W o v => heap_setCell_other W _ b v (by first | exact hb | exact hb.symm)
    show (((((w10.setCell ⟨g9, k * 5, none⟩ (.int .i64 yc)).setCell ⟨g9, k * 5 + 1, none⟩ (.int .i64 yo)).setCell ⟨g9, k * 5 + 2, none⟩ (.int .i64 yi)).setCell ⟨g9, k * 5 + 3, none⟩ (.int .i64 yw)).setCell ⟨g9, k * 5 + 4, none⟩ (.int .i64 yl)).heap[b]? = w10.heap[b]?
    rw [ho, ho, ho, ho, ho]
  have s9 := Lib.hid (hcell _ hoth)
  have hS := (hP10.set k ⟨yc, yo, yi, yw, yl⟩ hk).grow (grown_drew1 _)
  have HS := Lib.hid hS
  have HT := Lib.hid (show Turn [r] w ((((((w10.setCell ⟨g9, k * 5, none⟩ (.int .i64 yc)).setCell ⟨g9, k * 5 + 1, none⟩ (.int .i64 yo)).setCell ⟨g9, k * 5 + 2, none⟩ (.int .i64 yi)).setCell ⟨g9, k * 5 + 3, none⟩ (.int .i64 yw)).setCell ⟨g9, k * 5 + 4, none⟩ (.int .i64 yl)).drew) from
    (hT10.trans (O' := [g9]) ((((Turn.setCell [g9] _ g9 _ _ (by simp)).trans' (Turn.setCell [g9] _ g9 _ _ (by simp))).trans' (Turn.setCell [g9] _ g9 _ _ (by simp))).trans' (Turn.setCell [g9] _ g9 _ _ (by simp)) |>.trans' (Turn.setCell [g9] _ g9 _ _ (by simp))) (fun b hb => by
      right
      have hb1 : b = g9 := by simpa using hb
      have := HLE.out; have := HSZ.out; omega)).trans' (Turn.grown (grown_drew1 _)))
  clear hP10 hT10 hB10 hP hB hS hcur hcell hoth hx
  go_region_held3 (fun W => W.cell? ⟨r, 0, none⟩ = some (.slice (some ⟨g9, 0, none⟩) xs.length c9) ∧ (W.cell? ⟨w.heap.size, 0, none⟩ = some (.int .i64 yc) ∧ W.cell? ⟨w.heap.size, 1, none⟩ = some (.int .i64 yo) ∧ W.cell? ⟨w.heap.size, 2, none⟩ = some (.int .i64 yi) ∧ W.cell? ⟨w.heap.size, 3, none⟩ = some (.int .i64 yw) ∧ W.cell? ⟨w.heap.size, 4, none⟩ = some (.int .i64 yl)))
    (first | with_reducible exact s0.out | with_reducible exact s9.out) (fail)
  all_goals
    go_wp2_with fail
    go_end0
    exact ⟨rfl, g9, c9, HS.out, HT.out, .inr (by have := HLE.out; have := HSZ.out; omega)⟩
end
end Go.Proofs.Ytabgfjmfhkfbmaa
