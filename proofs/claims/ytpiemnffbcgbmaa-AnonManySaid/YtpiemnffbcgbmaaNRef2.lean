/- The document's anons of layer 12: Make. -/
import Derived.Test.YtpiemnffbcgbmaaNRef1
namespace Go.Proofs.Ytpiemnffbcgbmaa
open Go.ChangeShapes Go.WideShapes Go.ChangeAt Go.RowKit Go.Deep
set_option linter.unusedVariables false

/-- A pool behind a call: its blocks are elder ones or new. -/
def AL (D : World → Nat → Nat → List AnV → List Nat → Prop) (w w' : World) (p most : Nat) (O : List Nat) (L' : List AnV) : Prop := ∃ O', D w' p most L' O' ∧ Turn O w w' ∧ ∀ b, b ∈ O' → b ∈ O ∨ w.heap.size ≤ b
def RNS (w : World) (q most : Nat) (L : List AnV) (O : List Nat) : Prop := ∃ v, RN w q most v L ∧ O = blkN q v
section
variable {w w' w9 : World} {q most : Nat} {v : Value} {L : List AnV}
theorem RN.same (h : RN w q most v L) (k : w.grownBy w' none) : AL RNS w w' q most (blkN q v) L := ⟨blkN q v, ⟨v, h.grow k, rfl⟩, Turn.grown k, fun b hb => .inl hb⟩
/-- The list is another row. -/
theorem RN.other (h : RN w q most v L) (k : w.grownBy w9 none) {B g c : Nat} {L' : List AnV} (hr : AOwn w9 B (.slice (some ⟨g, 0, none⟩) L'.length c) L') (hB : w.heap.size ≤ B) (hG : GoodN most L') :
    AL RNS w (w9.setCell ⟨q, 1, none⟩ (.slice (some ⟨g, 0, none⟩) L'.length c)) q most (blkN q v) L' := by
  have h9 := h.grow k
  have hq := h.qlt
  have hg := (OwnOf.lt hr (g := g) rfl).1
  have ho : ∀ b, b ≠ q → (w9.setCell ⟨q, 1, none⟩ (.slice (some ⟨g, 0, none⟩) L'.length c)).heap[b]? = w9.heap[b]? := fun b hb => heap_setCell_other w9 ⟨q, 1, none⟩ b _ (by first | exact hb | exact hb.symm)
  refine ⟨blkN q (.slice (some ⟨g, 0, none⟩) L'.length c), ⟨_, ⟨heap_setCell_same w9 q 1 _ _ _ h9.head, OwnOf.row (OwnOf.kept hr fun b e => ho b ?_), ?_, hG⟩, rfl⟩, (Turn.grown k).trans' (Turn.setCell (blkN q v) w9 q 1 _ (by simp [blkN])), fun b hb => ?_⟩
  · have e2 : g = b := by simpa [Value.ownBlock] using e
    omega
  · intro e
    have e2 : g = q := by simpa [Value.ownBlock] using e
    omega
  · unfold blkN at hb
    rcases List.mem_cons.1 hb with rfl | hb
    · exact .inl (by simp [blkN])
    · have e2 : b = g := by simpa [Value.ownBlock] using hb
      exact .inr (by omega)

set_option maxHeartbeats 4000000 in
theorem rn_make (h : RN w q most v L) (f : Int) (hf : okI f) : Calls Try.prog 13 #[.pointer (some ⟨q, 0, none⟩), .int .i64 f] w fun e w' => e = .returned (.tuple #[.int .i64 (makeN most L f).n, .int .i64 (makeN most L f).e]) ∧ AL RNS w w' q most (blkN q v) (makeN most L f).L := by
  have HG0 := Lib.hid (make_good h.good hf)
  have hd := h.grow (grown_drew1 w)
  have hkd := hd.at.1
  have HD := Lib.hid hd
  have HI := Lib.hid (rn_ids hd)
  have hmost := h.good.most
  have hle := ids_le h.good
  have HR := Lib.hid h
  by_cases hfull : most ≤ (idsN L).length
  · have hm : makeN most L f = ⟨0, 5, L⟩ := if_pos hfull
    rw [hm]
    have d0 : decide (((idsN L).length : Int) ≥ (most : Int)) = true := decide_eq_true (by omega)
    obtain ⟨n, hn⟩ : ∃ n, (idsN L).length = n := ⟨_, rfl⟩
    rw [hn] at d0 hle hfull
    have HN := Lib.hid hn
    clear h hd hm HG0 hn
    go_enter Try.func13, Try.ntmps13
    go_wp2_with fail
    go_region_held3 (fun W => W.cell? ⟨q, 0, none⟩ = some (.int .i64 most)) (exact hkd)
      (first | (go_at_call 22; with_reducible refine (HI.out.mono ?_); rintro e w2 ⟨u, rfl, hu, ho, g2⟩; obtain ⟨s2, c2, hv⟩ := rowOf_form hu; rw [HN.out] at hv; subst hv; have HG2 := Lib.hid g2; replace hkd := (HD.out.grow g2).at.1; clear hu ho g2))
    go_wp2_with fail
    go_ret2
    exact ⟨rfl, HR.out.same (grown_trans (grown_drew1 w) HG2.out)⟩
  · have hm : makeN most L f = ⟨(firstN L : Int) + 1, 0, putL L (firstN L) ⟨1, f, -1⟩⟩ := if_neg hfull
    rw [hm] at HG0 ⊢
    have d0 : decide (((idsN L).length : Int) ≥ (most : Int)) = false := decide_eq_false (by omega)
    obtain ⟨n, hn⟩ : ∃ n, (idsN L).length = n := ⟨_, rfl⟩
    rw [hn] at d0 hle hfull
    have HN := Lib.hid hn
    have hlen := Nat.le_trans h.good.len h.good.most
    have HE := Lib.hid h.good.each
    clear h hd hm hn
    go_enter Try.func13, Try.ntmps13
    go_wp2_with fail
    go_region_held3 (fun W => W.cell? ⟨q, 0, none⟩ = some (.int .i64 most)) (exact hkd)
      (first | (go_at_call 22; with_reducible refine (HI.out.mono ?_); rintro e w2 ⟨u, rfl, hu, ho, g2⟩; obtain ⟨s2, c2, hv⟩ := rowOf_form hu; rw [HN.out] at hv; subst hv; have HG2 := Lib.hid g2; replace hkd := (HD.out.grow g2).at.1; clear hu ho g2))
    have h2 := HD.out.grow HG2.out
    obtain ⟨sa, sc, hv⟩ := h2.form
    have c1 := h2.at.2
    have HA := Lib.hid (RowAt.grow h2.row (World.grownBy_alloc w2 (.cells #[] 39) none))
    have cA := (h2.grow (World.grownBy_alloc w2 (.cells #[] 39) none)).at.2
    rw [hv] at c1 HA cA
    have hn1 := World.new_ne w2 ⟨q, 1, none⟩ c1
    have H2 := Lib.hid h2
    have HG := Lib.hid (grown_trans (grown_drew1 w) HG2.out)
    clear h2 hv HD HI hkd HG2
    go_wp2_with (at_builtin; refine wpList_acopy w2 rfl _ _ rfl _ L w2.heap.size rfl rfl rfl HA.out (by omega) ?_; intro g8 c8 w8 hown8 hg8; have HO8 := Lib.hid hown8; have HG8 := Lib.hid (grown_trans HG.out hg8); have HR8 := Lib.hid (H2.out.grow hg8); clear hown8 hg8)
    have HB2 := Lib.hid HG.out.size
    clear c1 cA hn1 HA H2 d0 HN
    go_loopw [25] (fun iv wr => ∃ j : Nat, j ≤ L.length ∧ iv = .int .i64 j ∧ Hid (∀ (i : Nat) (y : AnV), i < j → L[i]? = some y → y.re ≠ 0) ∧ Hid (w8.grownBy wr none)) (fun iv _ => L.length - (intOf iv).toNat)
    case atStart => exact ⟨0, by omega, rfl, fun i y hi => by omega, grown_refl _ _⟩
    case round =>
      obtain ⟨j, hj, rfl, HZ, HGr⟩ := hrel
      have hown := OwnOf.grow HO8.out HGr.out
      have hr := HR8.out.grow HGr.out
      by_cases hlt : j < L.length
      · obtain ⟨x, hx⟩ : ∃ x, L[j]? = some x := ⟨_, List.getElem?_eq_getElem hlt⟩
        obtain ⟨k0, k1, k2⟩ := own_an hown hx
        have ga := World.grownBy_alloc wr (.cells #[.int .i64 x.re, .int .i64 x.fr, .int .i64 x.sl] 39 (0, 0)) none
        have b0 := anbox_at wr x.re x.fr x.sl 39
        generalize hwB : wr.alloc (.cells #[.int .i64 x.re, .int .i64 x.fr, .int .i64 x.sl] 39 (0, 0)) = wB at *
        by_cases h0 : x.re = 0
        · have hfi := first_is hlt hx h0 HZ.out
          have d1 : (x.re == 0) = true := by simp [h0]
          have hownB := OwnOf.grow hown ga
          obtain ⟨m0, m1, m2⟩ := own_an hownB hx
          have e0 := OwnOf.frozen hownB (j * 3)
          have e1 := OwnOf.frozen hownB (j * 3 + 1)
          have e2 := OwnOf.frozen hownB (j * 3 + 2)
          have hS := AOwn.set hownB j ⟨1, f, -1⟩ hlt
          have hG9 := grown_at (grown_trans HG8.out (grown_trans HGr.out ga)) (grown_three wB g8 (j * 3) (.int .i64 1) (.int .i64 f) (.int .i64 (-1))) (Nat.le_trans HB2.out (OwnOf.lt HO8.out (g := g8) rfl).1)
          have hq9 := HR.out.grow hG9
          simp only at hS
          generalize hw9 : ((wB.setCell ⟨g8, j * 3, none⟩ (.int .i64 1)).setCell ⟨g8, j * 3 + 1, none⟩ (.int .i64 f)).setCell ⟨g8, j * 3 + 2, none⟩ (.int .i64 (-1)) = w9 at *
          have p1 := hq9.at.2
          have p2 := hq9.frozen 1
          have hl2 : (L.set j ⟨1, f, -1⟩).length = L.length := List.length_set
          have hfin := HR.out.other (L' := L.set j ⟨1, f, -1⟩) hG9 (by rw [hl2]; exact hS) HB2.out (by have := HG0.out; rwa [hfi, putL_set hlt] at this)
          rw [hl2] at hfin
          have HF := Lib.hid hfin
          have HFI := Lib.hid (show (firstN L : Int) + 1 = (j : Int) + 1 by rw [hfi])
          have HPL := Lib.hid (show putL L (firstN L) ⟨1, f, -1⟩ = L.set j ⟨1, f, -1⟩ by rw [hfi, putL_set hlt])
          clear hx ga h0 hownB hown hr hS hG9 hq9 hl2 hfin hfi HGr HZ HG0 HR HR8 HO8 HG8
          go_wp2_with fail
          go_ret2
          exact ⟨by rw [HFI.out]; rfl, by rw [HPL.out]; exact HF.out⟩
        · have d1 : (x.re == 0) = false := by simp [h0]
          have HN := Lib.hid (show ∀ (i : Nat) (y : AnV), i < j + 1 → L[i]? = some y → y.re ≠ 0 from fun i y hi hy => by
            by_cases e : i = j
            · subst e; rw [hx] at hy; cases hy; exact h0
            · exact HZ.out i y (by omega) hy)
          have HGn := Lib.hid (grown_trans HGr.out ga)
          clear hx ga h0 hown hr HGr HZ
          go_wp2_with fail
          go_roundw
          case rel => exact ⟨j + 1, by omega, by go_num, HN, HGn⟩
          case measure => simp [intOf]; omega
      · obtain rfl : j = L.length := by omega
        have hfi : firstN L = L.length := first_none fun i y hy => HZ.out i y (List.getElem?_eq_some_iff.1 hy).1 hy
        have HFI := Lib.hid (show (firstN L : Int) + 1 = (L.length : Int) + 1 by rw [hfi])
        have HPL := Lib.hid (show putL L (firstN L) ⟨1, f, -1⟩ = L ++ [⟨1, f, -1⟩] by rw [hfi]; unfold putL; rw [if_neg (by omega)])
        rw [HPL.out] at HG0
        have HOw := Lib.hid hown
        have HGW := Lib.hid (grown_trans HG8.out HGr.out)
        have HBB := Lib.hid (Nat.le_trans HB2.out (OwnOf.lt HO8.out (g := g8) rfl).1)
        have h8s : w8.heap.size ≤ wr.heap.size := HGr.out.size
        have h2s : w2.heap.size ≤ wr.heap.size := by have h1 := (OwnOf.lt HO8.out (g := g8) rfl).1; have h2 := (OwnOf.lt HO8.out (g := g8) rfl).2; omega
        clear hown hr hfi HGr HZ HO8 HR8 HG8
        go_wp2_with (at_builtin; refine wpList_apush wr rfl _ _ rfl w2.heap.size (.slice (some ⟨g8, 0, none⟩) L.length c8) L ⟨1, f, -1⟩ rfl HOw.out wr.heap.size 1 rfl rfl (by omega) h2s ?_; intro g9 k9 w9 hown9 hgrow9; have hG9 := grown_own (grown_trans HGW.out (World.grownBy_alloc wr (.cells #[.int .i64 1, .int .i64 f, .int .i64 (-1)] 39) none)) hgrow9 (fun x hx => (by have e : g8 = x := (by simpa [Value.ownBlock] using hx); rw [← e]; exact HBB.out)); have hq9 := HR.out.grow hG9; have p1 := hq9.at.2; have p2 := hq9.frozen 1; have HF := Lib.hid (HR.out.other (L' := L ++ [⟨1, f, -1⟩]) hG9 (by simpa using hown9) HB2.out HG0.out); clear hown9 hgrow9 hG9 hq9)
        go_ret2
        refine ⟨by rw [HFI.out]; rfl, ?_⟩
        rw [HPL.out]
        have := HF.out
        rw [List.length_append, List.length_singleton] at this
        exact this
end
end Go.Proofs.Ytpiemnffbcgbmaa
