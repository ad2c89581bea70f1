/- The document's anons of layer 12: Ref, Put. -/
import Derived.Test.YtpiemnffbcgbmaaNRef2
import Derived.Deep.CutBlock
import Derived.Deep.DeepCutAuto
namespace Go.Proofs.Ytpiemnffbcgbmaa
open Go.ChangeShapes Go.WideShapes Go.ChangeAt Go.RowKit Go.Deep
set_option linter.unusedVariables false

section
variable {w w' w9 : World} {q most : Nat} {v : Value} {L : List AnV}
/-- The list is another row, wherever it was written last. -/
theorem RN.made (h : RN w q most v L) {W : World} {B g c : Nat} {L' : List AnV} (hq : W.heap[q]? = some (.cells #[.int .i64 most, .slice (some ⟨g, 0, none⟩) L'.length c] 69 (0, 0))) (hr : AOwn W B (.slice (some ⟨g, 0, none⟩) L'.length c) L') (hB : w.heap.size ≤ B) (t : Turn (blkN q v) w W) (hG : GoodN most L') : AL RNS w W q most (blkN q v) L' := by
  have hql := h.qlt
  have hg := (OwnOf.lt hr (g := g) rfl).1
  refine ⟨blkN q (.slice (some ⟨g, 0, none⟩) L'.length c), ⟨_, ⟨hq, OwnOf.row hr, ?_, hG⟩, rfl⟩, t, fun b hb => ?_⟩
  · intro e
    have e2 : g = q := by simpa [Value.ownBlock] using e
    omega
  · unfold blkN at hb
    rcases List.mem_cons.1 hb with rfl | hb
    · exact .inl (by simp [blkN])
    · have e2 : b = g := by simpa [Value.ownBlock] using hb
      exact .inr (by omega)
theorem turn_new {O : List Nat} {a b c : World} {x : Nat} (t : Turn O a b) (g : b.grownBy c (some x)) (hx : a.heap.size ≤ x) : Turn O a c :=
  t.trans (O' := [x]) (Turn.one g (by simp)) fun b hb => by simp at hb; subst hb; exact .inr hx
end
/-- What a call on one answers. -/
def ansN (r : NA) : Value := .tuple #[anAgg r.x, .int .i64 r.e]
section
variable {w w' w9 : World} {q most : Nat} {v : Value} {L : List AnV}
set_option maxHeartbeats 4000000 in
theorem rn_ref (h : RN w q most v L) (id b : Int) (hid : okI id) (hb : okI b) : Calls Try.prog 15 #[.pointer (some ⟨q, 0, none⟩), .int .i64 id, .int .i64 b] w fun e w' => e = .returned (ansN (refN L id b)) ∧ AL RNS w w' q most (blkN q v) (refN L id b).L := by
  have HG0 := Lib.hid (ref_good h.good id b)
  have ga := World.grownBy_alloc w (.cells #[.int .i64 0, .int .i64 0, .int .i64 0] 39 (0, 0)) none
  have hA := h.grow ga
  have HR := Lib.hid h
  have hlen := Nat.le_trans h.good.len h.good.most
  have HB := Lib.hid (AB.new w 39 zeroN)
  unfold zeroN at HB
  simp only at HB
  generalize hwA : w.alloc (.cells #[.int .i64 0, .int .i64 0, .int .i64 0] 39 (0, 0)) = wA at *
  have HGt := Lib.hid (rn_get hA id hid)
  have HGA := Lib.hid ga
  rcases get_cases L id with ⟨h0, hno⟩ | ⟨i, x, rfl, h1, h2, h3, h4, h5, h6⟩
  · rw [show refN L id b = ⟨zeroN, 7, L⟩ by unfold refN; rw [h0]]
    rw [h0] at HGt
    unfold getVN anAgg zeroN at HGt
    simp only at HGt
    unfold ansN anAgg zeroN
    simp only
    clear h hA ga h0 hno HG0
    go_enter Try.func15, Try.ntmps15
    go_wp2_with fail
    refine HGt.out.mono ?_
    rintro e w2 ⟨rfl, g2⟩
    go_upto_region 2 with fail
    have gb := World.grownBy_alloc w2 (.cells #[.int .i64 0, .int .i64 0, .int .i64 0] 39 (0, 0)) none
    have hB2 := (HB.out.grow g2).grow gb
    have HB2 := Lib.hid hB2
    have HG2 := Lib.hid (grown_trans (grown_trans HGA.out g2) gb)
    obtain ⟨k0, k1, k2⟩ := hB2.at
    have z0 := hB2.frozen 0
    have z1 := hB2.frozen 1
    have z2 := hB2.frozen 2
    clear g2 gb hB2
    generalize w2.alloc (.cells #[.int .i64 0, .int .i64 0, .int .i64 0] 39 (0, 0)) = wB at *
    go_wp2_with fail
    refine bodyPost_ret (results_pair_tmp rfl _ _ w.heap.size _ #[.int .i64 0, .int .i64 0, .int .i64 0] (0, 0) _ rfl (heap_three _ _ _ _ _ _ HB2.out) Try.underlying39 (by kernel_rfl) (by kernel_rfl)) rfl ?_
    exact ⟨rfl, HR.out.same (grown_at HG2.out (grown_three _ _ _ _ _ _) (Nat.le_refl _))⟩
  · have hgx := h.good.at h2
    obtain ⟨xr, xf, xs⟩ := x
    have r0 : 0 ≤ xr := hgx.r0
    have r1 : xr ≤ 1000000 := hgx.r1
    rw [h4] at HGt
    unfold getVN anAgg at HGt
    simp only at HGt
    by_cases hm : mayN xr b
    · rw [show refN L ((i : Int) + 1) b = ⟨⟨xr + b, xf, xs⟩, 0, L.set i ⟨xr + b, xf, xs⟩⟩ by unfold refN; rw [h4]; simp only; rw [if_pos hm, h6]] at HG0 ⊢
      unfold ansN anAgg
      simp only at HG0 ⊢
      have m0 := hm.1
      have m1 := hm.2
      have d0 : decide (b < -xr) = false := decide_eq_false (by omega)
      have d1 : decide (b > 1000000 - xr) = false := decide_eq_false (by omega)
      clear h hA ga hm h3 h4 h5 h6 hgx
      go_enter Try.func15, Try.ntmps15
      go_wp2_with fail
      refine HGt.out.mono ?_
      rintro e w2 ⟨rfl, g2⟩
      have gb := World.grownBy_alloc w2 (.cells #[.int .i64 (xr + b), .int .i64 xf, .int .i64 xs] 39 (0, 0)) none
      have hB2 := (HB.out.grow g2).grow gb
      have h2R := (HR.out.grow HGA.out).grow g2
      have h2B := h2R.grow gb
      have HB2 := Lib.hid hB2
      have HX := Lib.hid (AB.new w2 39 ⟨xr + b, xf, xs⟩)
      have HG2 := Lib.hid (grown_trans (grown_trans HGA.out g2) gb)
      have H2B := Lib.hid h2B
      simp only at HX
      have hbw : ∃ wB, w2.alloc (.cells #[.int .i64 (xr + b), .int .i64 xf, .int .i64 xs] 39 (0, 0)) = wB := ⟨_, rfl⟩
      obtain ⟨wB, hwB⟩ := hbw
      rw [hwB] at HB2 HX HG2 H2B
      have hX : w2.heap.size < wB.heap.size := HX.out.lt
      have hwy : wA.heap.size ≤ w2.heap.size := g2.size
      clear g2 gb hB2 h2R h2B
      go_upto_region 7 with fail
      clear hwB
      obtain ⟨sa, sc, hv⟩ := H2B.out.form
      have cA := (H2B.out.grow (World.grownBy_alloc wB (.cells #[] 39) none)).at.2
      have HA := Lib.hid (RowAt.grow H2B.out.row (World.grownBy_alloc wB (.cells #[] 39) none))
      rw [hv] at cA HA
      clear hv
      have HY := Lib.hid hwy
      generalize w2.heap.size = y at *
      go_wp2_with (at_builtin; refine wpList_acopy wB rfl _ _ rfl _ L wB.heap.size rfl rfl rfl HA.out (by omega) ?_; intro g8 c8 w8 hown8 hg8; have HO8 := Lib.hid hown8; have HG8 := Lib.hid (grown_trans HG2.out hg8); have h8 := H2B.out.grow hg8; have HX8 := Lib.hid (HX.out.grow hg8); have HB8 := Lib.hid (HB2.out.grow hg8); have HH8 := Lib.hid h8.head; have p1 := h8.at.2; have p2 := h8.frozen 1; clear hown8 hg8 h8)
      have hqy : q < y := by have h1 := HR.out.qlt; have h2 := HGA.out.size; have h3 := HY.out; omega
      have hRy : w.heap.size < y := by have h1 := HB.out.lt; have h3 := HY.out; omega
      have hRq : w.heap.size ≠ q := by have := HR.out.qlt; omega
      have HW8 : ∃ W8, w8.setCell ⟨q, 1, none⟩ (.slice (some ⟨g8, 0, none⟩) L.length c8) = W8 := ⟨_, rfl⟩
      obtain ⟨W8, hW8⟩ := HW8
      have hqh : W8.heap[q]? = some (.cells #[.int .i64 most, .slice (some ⟨g8, 0, none⟩) L.length c8] 69 (0, 0)) := by rw [← hW8]; exact heap_setCell_same w8 q 1 _ _ _ HH8.out
      have hoth : ∀ b, b ≠ q → W8.heap[b]? = w8.heap[b]? := fun b hb => by rw [← hW8]; exact heap_setCell_other w8 ⟨q, 1, none⟩ b _ (by first | exact hb | exact hb.symm)
      have hg8 := (OwnOf.lt HO8.out (g := g8) rfl).1
      have hg8q : g8 ≠ q := by omega
      have hg8y : y < g8 := by omega
      have hown : AOwn W8 wB.heap.size (.slice (some ⟨g8, 0, none⟩) L.length c8) L := OwnOf.kept HO8.out fun b e => hoth b (by have e2 : g8 = b := (by simpa [Value.ownBlock] using e); omega)
      have hT8 : Turn (blkN q v) w W8 := by rw [← hW8]; exact (Turn.grown HG8.out).trans' (Turn.setCell _ w8 q 1 _ (by simp [blkN]))
      have hx8 := HX8.out.kept (hoth y (by omega))
      have hb8 := HB8.out.kept (hoth w.heap.size hRq)
      have k1 : W8.cell? ⟨q, 1, none⟩ = some (.slice (some ⟨g8, 0, none⟩) L.length c8) := by rw [cell_of_row _ _ _ _ _ _ hqh]; rfl
      obtain ⟨x0, x1, x2⟩ := hx8.at
      obtain ⟨y0, y1, y2⟩ := own_an hown h2
      have e0 := OwnOf.frozen hown (i * 3)
      have e1 := OwnOf.frozen hown (i * 3 + 1)
      have e2 := OwnOf.frozen hown (i * 3 + 2)
      simp only at x0 x1 x2 y0 y1 y2
      have HQ := Lib.hid hqh
      have HOW := Lib.hid hown
      have HT8 := Lib.hid hT8
      have HXB := Lib.hid hx8
      have HRB := Lib.hid hb8
      have HGB := Lib.hid (Nat.le_trans HG2.out.size hg8)
      rw [hW8]
      clear hW8 hqh hoth hown hT8 hx8 hb8 p1 p2 HO8 HX8 HB8 HH8 HG8 HA HX HB2 H2B HB HGA HGt hg8
      go_wp2_with fail
      go_region
      have hS := AOwn.set HOW.out i ⟨xr + b, xf, xs⟩ h1
      have hg := grown_then (grown_three W8 g8 (i * 3) (.int .i64 (xr + b)) (.int .i64 xf) (.int .i64 xs)) (grown_drew1 _)
      simp only at hS
      have hS9 : AOwn (((W8.setCell ⟨g8, i * 3, none⟩ (.int .i64 (xr + b))).setCell ⟨g8, i * 3 + 1, none⟩ (.int .i64 xf)).setCell ⟨g8, i * 3 + 2, none⟩ (.int .i64 xs)).drew wB.heap.size (.slice (some ⟨g8, 0, none⟩) L.length c8) (L.set i ⟨xr + b, xf, xs⟩) := OwnOf.kept hS fun _ _ => rfl
      generalize (((W8.setCell ⟨g8, i * 3, none⟩ (.int .i64 (xr + b))).setCell ⟨g8, i * 3 + 1, none⟩ (.int .i64 xf)).setCell ⟨g8, i * 3 + 2, none⟩ (.int .i64 xs)).drew = W9 at *
      have hq9 := (hg.block q (Array.getElem?_eq_some_iff.1 HQ.out).1 (fun e => hg8q (Option.some.inj e).symm)).trans HQ.out
      have hx9 := HXB.out.kept (hg.block y HXB.out.lt (fun e => by have := Option.some.inj e; omega))
      have hb9 := HRB.out.kept (hg.block w.heap.size HRB.out.lt (fun e => by have := Option.some.inj e; omega))
      obtain ⟨x0, x1, x2⟩ := hx9.at
      obtain ⟨z0, z1, z2⟩ := hb9.at
      have z3 := hb9.frozen 0
      have z4 := hb9.frozen 1
      have z5 := hb9.frozen 2
      simp only at x0 x1 x2 z0 z1 z2
      have HT9 := Lib.hid (turn_new HT8.out hg HGB.out)
      have HQ9 := Lib.hid hq9
      have HS9 := Lib.hid hS9
      have HB9 := Lib.hid hb9
      clear k1 y0 y1 y2 e0 e1 e2 hS hg hS9 hq9 hx9 hb9 HOW HQ HT8 HXB HRB
      go_wp2_with fail
      refine bodyPost_ret (results_pair_tmp rfl _ _ w.heap.size _ #[.int .i64 (xr + b), .int .i64 xf, .int .i64 xs] (0, 0) _ rfl (heap_three _ _ _ _ _ _ HB9.out) Try.underlying39 (by kernel_rfl) (by kernel_rfl)) rfl ?_
      have hg := grown_three W9 w.heap.size 0 (.int .i64 (xr + b)) (.int .i64 xf) (.int .i64 xs)
      have hl2 : (L.set i ⟨xr + b, xf, xs⟩).length = L.length := List.length_set
      refine ⟨rfl, HR.out.made (L' := L.set i ⟨xr + b, xf, xs⟩) (B := wB.heap.size) (g := g8) (c := c8) ?_ ?_ HG2.out.size (turn_new HT9.out hg (Nat.le_refl _)) HG0.out⟩
      · rw [hl2]
        exact (hg.block q (Array.getElem?_eq_some_iff.1 HQ9.out).1 (fun e => hRq (Option.some.inj e).symm)).trans HQ9.out
      · rw [hl2]
        exact OwnOf.kept HS9.out fun b2 e => hg.block b2 (OwnOf.lt HS9.out e).2 (fun e3 => by have e4 := Option.some.inj e3; have e2 : g8 = b2 := (by simpa [Value.ownBlock] using e); omega)
    · rw [show refN L ((i : Int) + 1) b = ⟨zeroN, 2, L⟩ by unfold refN; rw [h4]; simp only; rw [if_neg hm]]
      unfold ansN anAgg zeroN
      simp only
      have dd : (b < -xr) ∨ (¬ b < -xr ∧ b > 1000000 - xr) := by unfold mayN at hm; omega
      clear h hA ga hm h2 h3 h4 h5 h6 hgx HG0
      rcases dd with d0 | ⟨d0, d1⟩
      all_goals
        go_enter Try.func15, Try.ntmps15
        go_wp2_with fail
        refine HGt.out.mono ?_
        rintro e w2 ⟨rfl, g2⟩
        go_upto_region 2 with fail
        have gb := World.grownBy_alloc w2 (.cells #[.int .i64 xr, .int .i64 xf, .int .i64 xs] 39 (0, 0)) none
        have hB2 := (HB.out.grow g2).grow gb
        have HB2 := Lib.hid hB2
        have HG2 := Lib.hid (grown_trans (grown_trans HGA.out g2) gb)
        obtain ⟨k0, k1, k2⟩ := hB2.at
        have z0 := hB2.frozen 0
        have z1 := hB2.frozen 1
        have z2 := hB2.frozen 2
        have x0 := (AB.new w2 39 ⟨xr, xf, xs⟩).at.1
        simp only at k0 k1 k2 x0
        clear g2 gb hB2
        generalize w2.alloc (.cells #[.int .i64 xr, .int .i64 xf, .int .i64 xs] 39 (0, 0)) = wB at *
        go_wp2_with fail
        refine bodyPost_ret (results_pair_tmp rfl _ _ w.heap.size _ #[.int .i64 0, .int .i64 0, .int .i64 0] (0, 0) _ rfl (heap_three _ _ _ _ _ _ HB2.out) Try.underlying39 (by kernel_rfl) (by kernel_rfl)) rfl ?_
        exact ⟨rfl, HR.out.same (grown_at HG2.out (grown_three _ _ _ _ _ _) (Nat.le_refl _))⟩
end
end Go.Proofs.Ytpiemnffbcgbmaa
