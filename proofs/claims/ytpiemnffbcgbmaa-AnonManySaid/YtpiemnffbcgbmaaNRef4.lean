/- The document's anons of layer 12: Put. -/
import Derived.Test.YtpiemnffbcgbmaaNRef3
namespace Go.Proofs.Ytpiemnffbcgbmaa
open Go.ChangeShapes Go.WideShapes Go.ChangeAt Go.RowKit Go.Deep
set_option linter.unusedVariables false

section
variable {w w' w9 : World} {q most : Nat} {v : Value} {L : List AnV}
set_option maxHeartbeats 4000000 in
theorem rn_put (h : RN w q most v L) (id f s : Int) (hid : okI id) (hf : okI f) (hs : okI s) : Calls Try.prog 17 #[.pointer (some ⟨q, 0, none⟩), .int .i64 id, .int .i64 f, .int .i64 s] w fun e w' => e = .returned (.int .i64 (putN L id f s).e) ∧ AL RNS w w' q most (blkN q v) (putN L id f s).L := by
  have HG0 := Lib.hid (put_good h.good id hf hs)
  have HR := Lib.hid h
  have hlen := Nat.le_trans h.good.len h.good.most
  have HGt := Lib.hid (rn_get h id hid)
  rcases get_cases L id with ⟨h0, hno⟩ | ⟨i, x, rfl, h1, h2, h3, h4, h5, h6⟩
  · rw [show putN L id f s = ⟨0, 7, L⟩ by unfold putN; rw [h0]]
    rw [h0] at HGt
    unfold getVN anAgg zeroN at HGt
    simp only at HGt
    clear h h0 hno HG0
    go_enter Try.func17, Try.ntmps17
    go_wp2_with fail
    refine HGt.out.mono ?_
    rintro e w2 ⟨rfl, g2⟩
    have HG2 := Lib.hid (grown_trans g2 (World.grownBy_alloc w2 (.cells #[.int .i64 0, .int .i64 0, .int .i64 0] 39 (0, 0)) none))
    clear g2
    go_wp2_with fail
    go_ret
    exact ⟨rfl, HR.out.same HG2.out⟩
  · obtain ⟨xr, xf, xs⟩ := x
    rw [h4] at HGt
    unfold getVN anAgg at HGt
    simp only at HGt
    rw [show putN L ((i : Int) + 1) f s = ⟨0, 0, L.set i ⟨xr, f, s⟩⟩ by unfold putN; rw [h4]; simp only; rw [h6]] at HG0 ⊢
    simp only at HG0 ⊢
    clear h h3 h4 h5 h6
    go_enter Try.func17, Try.ntmps17
    go_wp2_with fail
    refine HGt.out.mono ?_
    rintro e w2 ⟨rfl, g2⟩
    have gb := World.grownBy_alloc w2 (.cells #[.int .i64 xr, .int .i64 f, .int .i64 s] 39 (0, 0)) none
    have h2R := HR.out.grow g2
    have h2B := h2R.grow gb
    have HX := Lib.hid (AB.new w2 39 ⟨xr, f, s⟩)
    have HG2 := Lib.hid (grown_trans g2 gb)
    have H2B := Lib.hid h2B
    simp only at HX
    have hbw : ∃ wB, w2.alloc (.cells #[.int .i64 xr, .int .i64 f, .int .i64 s] 39 (0, 0)) = wB := ⟨_, rfl⟩
    obtain ⟨wB, hwB⟩ := hbw
    rw [hwB] at HX HG2 H2B
    have hX : w2.heap.size < wB.heap.size := HX.out.lt
    have hwy : w.heap.size ≤ w2.heap.size := g2.size
    clear g2 gb h2R h2B
    go_upto_region 5 with fail
    clear hwB
    obtain ⟨sa, sc, hv⟩ := H2B.out.form
    have cA := (H2B.out.grow (World.grownBy_alloc wB (.cells #[] 39) none)).at.2
    have HA := Lib.hid (RowAt.grow H2B.out.row (World.grownBy_alloc wB (.cells #[] 39) none))
    rw [hv] at cA HA
    clear hv
    have HY := Lib.hid hwy
    generalize w2.heap.size = y at *
    go_wp2_with (at_builtin; refine wpList_acopy wB rfl _ _ rfl _ L wB.heap.size rfl rfl rfl HA.out (by omega) ?_; intro g8 c8 w8 hown8 hg8; have HO8 := Lib.hid hown8; have HG8 := Lib.hid (grown_trans HG2.out hg8); have h8 := H2B.out.grow hg8; have HX8 := Lib.hid (HX.out.grow hg8); have HH8 := Lib.hid h8.head; have p1 := h8.at.2; have p2 := h8.frozen 1; clear hown8 hg8 h8)
    have hqy : q < y := by have h1 := HR.out.qlt; have h3 := HY.out; omega
    have HW8 : ∃ W8, w8.setCell ⟨q, 1, none⟩ (.slice (some ⟨g8, 0, none⟩) L.length c8) = W8 := ⟨_, rfl⟩
    obtain ⟨W8, hW8⟩ := HW8
    have hqh : W8.heap[q]? = some (.cells #[.int .i64 most, .slice (some ⟨g8, 0, none⟩) L.length c8] 69 (0, 0)) := by rw [← hW8]; exact heap_setCell_same w8 q 1 _ _ _ HH8.out
    have hoth : ∀ b, b ≠ q → W8.heap[b]? = w8.heap[b]? := fun b hb => by rw [← hW8]; exact heap_setCell_other w8 ⟨q, 1, none⟩ b _ (by first | exact hb | exact hb.symm)
    have hg8 := (OwnOf.lt HO8.out (g := g8) rfl).1
    have hg8q : g8 ≠ q := by omega
    have hg8y : y < g8 := by omega
    have hown : AOwn W8 wB.heap.size (.slice (some ⟨g8, 0, none⟩) L.length c8) L := OwnOf.kept HO8.out fun b e => hoth b (by have e2 : g8 = b := (by simpa [Value.ownBlock] using e); omega)
    have hT8 : Turn (blkN q v) w W8 := by rw [← hW8]; exact (Turn.grown HG8.out).trans' (Turn.setCell _ w8 q 1 _ (by simp [blkN]))
    have hx8 := HX8.out.kept (hoth y (by omega))
    have k1 : W8.cell? ⟨q, 1, none⟩ = some (.slice (some ⟨g8, 0, none⟩) L.length c8) := by rw [cell_of_row _ _ _ _ _ _ hqh]; rfl
    obtain ⟨x0, x1, x2⟩ := hx8.at
    obtain ⟨y0, y1, y2⟩ := own_an hown h2
    have e0 := OwnOf.frozen hown (i * 3)
    have e1 := OwnOf.frozen hown (i * 3 + 1)
    have e2 := OwnOf.frozen hown (i * 3 + 2)
    simp only at x0 x1 x2 y0 y1 y2
    have HQ := Lib.hid hqh
    have HOW := Lib.hid hown
    have HT8 := Lib.hid hT8
    have HGB := Lib.hid (Nat.le_trans HG2.out.size hg8)
    rw [hW8]
    clear hW8 hqh hoth hown hT8 hx8 p1 p2 HO8 HX8 HH8 HG8 HA HX H2B HGt hg8
    go_wp2_with fail
    go_region
    have hS := AOwn.set HOW.out i ⟨xr, f, s⟩ h1
    have hg := grown_then (grown_three W8 g8 (i * 3) (.int .i64 xr) (.int .i64 f) (.int .i64 s)) (grown_drew1 _)
    simp only at hS
    have hS9 : AOwn (((W8.setCell ⟨g8, i * 3, none⟩ (.int .i64 xr)).setCell ⟨g8, i * 3 + 1, none⟩ (.int .i64 f)).setCell ⟨g8, i * 3 + 2, none⟩ (.int .i64 s)).drew wB.heap.size (.slice (some ⟨g8, 0, none⟩) L.length c8) (L.set i ⟨xr, f, s⟩) := OwnOf.kept hS fun _ _ => rfl
    generalize (((W8.setCell ⟨g8, i * 3, none⟩ (.int .i64 xr)).setCell ⟨g8, i * 3 + 1, none⟩ (.int .i64 f)).setCell ⟨g8, i * 3 + 2, none⟩ (.int .i64 s)).drew = W9 at *
    have hq9 := (hg.block q (Array.getElem?_eq_some_iff.1 HQ.out).1 (fun e => hg8q (Option.some.inj e).symm)).trans HQ.out
    have HT9 := Lib.hid (turn_new HT8.out hg HGB.out)
    have HQ9 := Lib.hid hq9
    have HS9 := Lib.hid hS9
    clear k1 x0 x1 x2 y0 y1 y2 e0 e1 e2 hS hg hS9 hq9 HOW HQ HT8
    go_wp2_with fail
    go_ret
    have hl2 : (L.set i ⟨xr, f, s⟩).length = L.length := List.length_set
    refine ⟨rfl, HR.out.made (L' := L.set i ⟨xr, f, s⟩) (B := wB.heap.size) (g := g8) (c := c8) ?_ ?_ HG2.out.size HT9.out HG0.out⟩
    · rw [hl2]; exact HQ9.out
    · rw [hl2]; exact HS9.out
end
theorem rnsOk_lt {w : World} {q most : Nat} {L : List AnV} {O : List Nat} (h : RNS w q most L O) : ∀ b, b ∈ O → b < w.heap.size := by obtain ⟨v, h, rfl⟩ := h; exact h.lt
theorem rnsOk_kept {w w' : World} {q most : Nat} {L : List AnV} {O : List Nat} (h : RNS w q most L O) (hs : w.heap.size ≤ w'.heap.size) (hb : ∀ b, b ∈ O → w'.heap[b]? = w.heap[b]?) : RNS w' q most L O := by obtain ⟨v, h, rfl⟩ := h; exact ⟨v, h.kept hs hb, rfl⟩
end Go.Proofs.Ytpiemnffbcgbmaa
