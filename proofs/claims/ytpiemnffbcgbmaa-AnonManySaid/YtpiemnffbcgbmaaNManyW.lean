/- AnonMany, walked out of what package anon says. -/
import Derived.Test.YtpiemnffbcgbmaaNOk
import Derived.Test.YtpiemnffbcgbmaaNOnes
namespace Go.Proofs.Ytpiemnffbcgbmaa
open Go.ChangeShapes Go.WideShapes Go.ChangeAt Go.RowKit Go.Deep
set_option linter.unusedVariables false

theorem eqlN_ptr_nil (w : World) (a : Addr) : (binOp .eql 23 (.pointer (some a)) (.pointer none)).run Try.prog w = .ok (.bool false) w := by go_simp

set_option maxRecDepth 100000 in
set_option maxHeartbeats 8000000 in
theorem many_walk12 {D : World → Nat → Nat → List AnV → List Nat → Prop} (H : NaOk D) (w : World) (a b : Int) (ha : okU a) (hb : okU b) :
    Calls Try.prog 8 #[.int .u64 a, .int .u64 b] w fun e w' => e = .returned (.bool true) ∧ w.grownBy w' none := by
  have HLv := Lib.hid (fun wx => lives12 H wx)
  have HT := Lib.hid H
  obtain ⟨m, hm1, hm2⟩ : ∃ m : Nat, a % 200 = m ∧ m < 200 := ⟨(a % 200).toNat, by omega, by omega⟩
  obtain ⟨ha0, ha1⟩ := ha
  obtain ⟨hb0, hb1⟩ := hb
  have hq1 : a.tmod 200 = (m : Int) := by rw [Int.tmod_eq_emod_of_nonneg ha0]; exact hm1
  obtain ⟨n, hn⟩ : ∃ n : Nat, 1 + m = n := ⟨_, rfl⟩
  have hn1 : (1 : Int) + (m : Int) = (n : Int) := by omega
  have hn2 : 1 ≤ n ∧ n ≤ 200 := by omega
  have hq0 := eqlN_ptr_nil
  have HN := Lib.hid (H.new n w (by omega))
  clear H
  go_enter Try.func8, Try.ntmps8
  go_wp2_with fail
  refine HN.out.mono ?_
  rintro e w1 ⟨p, O, rfl, h1, g1, o1⟩
  have H1 := Lib.hid (show LN D w w1 p n [] O from ⟨h1, o1, g1⟩)
  clear h1 g1 o1 HN
  go_wp2_with fail
  go_loopw [7] (fun iv wr => ∃ (j : Nat) (L : List AnV) (O : List Nat), j ≤ n ∧ iv = .int .i64 ((j : Int) + 1) ∧ Hid (L.length = j) ∧ Hid (Ones L) ∧ Hid (LN D w wr p n L O)) (fun iv _ => n + 1 - (intOf iv).toNat)
  case atStart => exact ⟨0, [], O, by omega, rfl, rfl, Ones.nil, H1⟩
  case round =>
    clear H1
    obtain ⟨j, L, O, hj, rfl, HL, HO, HJ⟩ := hrel
    by_cases hlt : j < n
    · have hk := HT.out.make HJ.out.d ((j : Int) + 1) (okS (by omega) (by omega))
      rw [HO.out.make (by rw [HL.out]; exact hlt), HL.out] at hk
      have HK := Lib.hid hk
      have hjb : decide ((j : Int) + 1 ≤ (n : Int)) = true := decide_eq_true (by omega)
      clear hk
      go_wp2_with fail
      refine HK.out.mono ?_
      rintro e w2 ⟨rfl, h2⟩
      obtain ⟨O2, h2, -, -⟩ := HJ.out.left h2
      have H2 := Lib.hid h2
      clear h2
      go_wp2_with fail
      go_roundw
      case rel => exact ⟨j + 1, L ++ [⟨1, (j : Int) + 1, -1⟩], O2, by omega, by go_num, Lib.hid (by simp [HL.out]), Lib.hid (HO.out.app _ _), H2⟩
      case measure => simp [intOf]; omega
    · obtain rfl : j = n := by omega
      have hjb : decide ((j : Int) + 1 ≤ (j : Int)) = false := decide_eq_false (by omega)
      have hk := HT.out.make HJ.out.d 0 (okS (by decide) (by decide))
      rw [HO.out.full HL.out] at hk
      have HK := Lib.hid hk
      clear hk
      go_wp2_with fail
      refine HK.out.mono ?_
      rintro e w2 ⟨rfl, h2⟩
      obtain ⟨O2, h2, -, -⟩ := HJ.out.left h2
      have H2 := Lib.hid h2
      have hk := HT.out.len H2.out.d
      rw [HO.out.ids, HL.out] at hk
      have HK2 := Lib.hid hk
      clear hk h2 HK HJ
      go_wp2_with fail
      refine HK2.out.mono ?_
      rintro e w3 ⟨rfl, g3⟩
      have H3 := Lib.hid (H2.out.grow HT.out.toStOkN g3)
      -- the one that goes
      obtain ⟨k, hk1, hk2⟩ : ∃ k : Nat, b % (j : Int) = k ∧ k < j := by
        have h1 := Int.emod_nonneg b (show (j : Int) ≠ 0 by omega)
        have h2 := Int.emod_lt_of_pos b (show (0 : Int) < (j : Int) by omega)
        exact ⟨(b % (j : Int)).toNat, by omega, by omega⟩
      have hkm : b.tmod (j : Int) = (k : Int) := by rw [Int.tmod_eq_emod_of_nonneg hb0]; exact hk1
      have hki : (1 : Int) + (k : Int) = (k : Int) + 1 := by omega
      have hlv := HO.out.live (i := k) (by rw [HL.out]; exact hk2)
      obtain ⟨x, hx, hr⟩ := bit_off HO.out.bits hlv
      have hk := HT.out.ref H3.out.d ((k : Int) + 1) (-1) (okS (by omega) (by omega)) (okS (by decide) (by decide))
      rw [hr] at hk
      unfold ansN anAgg at hk
      have HK3 := Lib.hid hk
      have hkl : k < L.length := by rw [HL.out]; exact hk2
      have hgo := (go_ids hkl hlv (show (AnV.mk 0 x.fr x.sl).re = 0 from rfl)).length_eq
      rw [HO.out.ids, HL.out, List.length_cons] at hgo
      have hon := bit_on (most := j) (f := 0) (L := L.set k ⟨0, x.fr, x.sl⟩) (i := k) (by rw [List.length_set]; exact hkl) (by rw [List.length_set, HL.out]; exact Nat.le_refl _) (by rw [off_live hkl rfl, if_pos rfl]) (fun i hi => by rw [off_live hkl rfl, if_neg (by omega)]; exact HO.out.live (by omega))
      have hs := sum_set (L := L.set k ⟨0, x.fr, x.sl⟩) (i := k) (x := ⟨0, x.fr, x.sl⟩) (List.getElem?_set_self hkl) ⟨1, 0, -1⟩
      have hs0 := sum_set hx ⟨0, x.fr, x.sl⟩
      have hx1 := HO.out.bits.live hx hlv
      rw [HO.out.sum, HL.out, hx1] at hs0
      rw [hs0] at hs
      simp only at hs
      have HON := Lib.hid hon
      have HGo := Lib.hid (show ((idsN (L.set k ⟨0, x.fr, x.sl⟩)).length : Int) = (j : Int) - 1 by omega)
      have HSm := Lib.hid (show sumN ((L.set k ⟨0, x.fr, x.sl⟩).set k ⟨1, 0, -1⟩) = (j : Int) by rw [hs]; omega)
      clear hk hlv hr hx hkl hgo hon hs hs0 hx1 HK2 H2 g3
      obtain ⟨xr, xf, xs⟩ := x
      simp only at *
      generalize L.set k ⟨0, xf, xs⟩ = L2 at *
      go_wp2_with fail
      refine HK3.out.mono ?_
      rintro e w4 ⟨rfl, h4⟩
      obtain ⟨O4, h4, -, -⟩ := H3.out.left h4
      have H4 := Lib.hid (h4.grow HT.out.toStOkN (World.grownBy_alloc w4 (.cells #[.int .i64 0, .int .i64 xf, .int .i64 xs] 36 (0, 0)) none))
      have hk := HT.out.len H4.out.d
      rw [HGo.out] at hk
      have HK4 := Lib.hid hk
      clear hk h4 HK3 H3
      go_wp2_with fail
      refine HK4.out.mono ?_
      rintro e w5 ⟨rfl, g5⟩
      have H5 := Lib.hid (H4.out.grow HT.out.toStOkN g5)
      have hk := HT.out.make H5.out.d 0 (okS (by decide) (by decide))
      rw [HON.out] at hk
      have HK5 := Lib.hid hk
      clear hk g5 HK4 H4
      go_wp2_with fail
      refine HK5.out.mono ?_
      rintro e w6 ⟨rfl, h6⟩
      obtain ⟨O6, h6, -, -⟩ := H5.out.left h6
      have H6 := Lib.hid h6
      have hk := HT.out.sum H6.out.d
      rw [HSm.out] at hk
      have HK6 := Lib.hid hk
      clear hk h6 HK5 H5
      go_wp2_with fail
      refine HK6.out.mono ?_
      rintro e w7 ⟨rfl, g7⟩
      have HG7 := Lib.hid (grown_trans H6.out.grown g7)
      clear g7 HK6 H6
      go_wp2_with fail
      refine (HLv.out _).mono ?_
      rintro e w8 ⟨rfl, g8⟩
      have HG8 := Lib.hid (grown_trans HG7.out g8)
      clear g8
      go_wp2_with fail
      go_ret
      exact ⟨rfl, HG8.out⟩
end Go.Proofs.Ytpiemnffbcgbmaa
