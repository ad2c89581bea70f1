/- Package entry (landed): Cut. -/
import Derived.Test.YtefiiooibbkffaaGreatEyClip
namespace Go.Proofs.YtefiiooibbkffaaGreat
open Go.ChangeShapes Go.WideShapes Go.ChangeAt Go.RowKit Go.Deep Go.Sort
set_option linter.unusedVariables false

/-- What is made later shares no block with what was made before. -/
theorem eown_apart {w6 w7 : World} {base b7 : Nat} {u v : Value} {L M : List En} (h7 : EOwn w7 b7 v L) (h6 : EOwn w6 base u M) (hs : w6.heap.size ≤ b7) : ∀ b, v.ownBlock = some b → u.ownBlock ≠ some b := fun b h1 h2 => by have := (OwnOf.lt h7 h1).1; have := (OwnOf.lt h6 h2).2; omega
theorem eown_grow {w w' : World} {base : Nat} {v : Value} {xs : List En} (h : EOwn w base v xs) (g : w.grownBy w' none) : EOwn w' base v xs := OwnOf.grow h g
set_option maxRecDepth 100000 in
set_option maxHeartbeats 4000000 in
theorem cut_ok {w : World} {s : Option Addr} {c : Nat} {L : List En} (h : EC w (.slice s L.length c) L) (hr : RF 0 L) (hl : L.length ≤ 1000) (lo hi : Int) :
    Calls Tryz.prog 162 #[.slice s L.length c, .int .i64 lo, .int .i64 hi] w fun e w' => ∃ u v, e = .returned (.tuple #[u, v]) ∧ EOwn w' w.heap.size u (leftE L lo hi) ∧ EOwn w' w.heap.size v (goneE L lo hi) ∧ (∀ b, v.ownBlock = some b → u.ownBlock ≠ some b) ∧ w.grownBy w' none := by
  have HC1 := Lib.hid (clip_ok h hr (by omega) lo)
  have hr1 := rf_clip lo hr
  have hl1 := (clip_len_le lo hr).2
  have hr2 := rf_both lo hi hr
  have hl2 := (clip_len_le hi hr1).2
  have hbn := both_none (l := L) (lo := lo) (hi := hi)
  obtain ⟨M, hM⟩ : ∃ M, bothE L lo hi = M := ⟨_, rfl⟩
  have hML : M.length ≤ 2000 := by rw [← hM]; unfold bothE; omega
  rw [hM] at hr2 hbn
  obtain ⟨k1, hk1⟩ : ∃ k1, findK M lo = k1 := ⟨_, rfl⟩
  obtain ⟨k2, hk2⟩ : ∃ k2, findK M hi = k2 := ⟨_, rfl⟩
  obtain ⟨k3, hk3⟩ : ∃ k3, max k1 k2 = k3 := ⟨_, rfl⟩
  have hkl1 : k1 ≤ M.length := by rw [← hk1]; exact findK_le _ _
  have hkl2 : k2 ≤ M.length := by rw [← hk2]; exact findK_le _ _
  have hkl3 : k3 ≤ M.length := by omega
  have hk13 : k1 ≤ k3 := by omega
  have hmx : (if k1 < k2 then (k2 : Int) else (k1 : Int)) = (k3 : Int) := by split <;> omega
  obtain ⟨q1, q2, -⟩ := cut_at hr2 hbn k1 k3 hk1 (by rw [hk2]; exact hk3)
  have eL : leftE L lo hi = M.take k1 ++ M.drop k3 := by unfold leftE; rw [hM]; exact q1
  have eG : goneE L lo hi = (M.drop k1).take (k3 - k1) := by unfold goneE; rw [hM]; exact q2
  have hM2 : clipE (clipE L lo) hi = M := hM
  have HC2 := Lib.hid (fun (W : World) (a : Option Addr) (c' : Nat) (hh : EC W (.slice a (clipE L lo).length c') (clipE L lo)) => clip_ok hh hr1 (by omega) hi)
  rw [hM2] at HC2
  have HF1 := Lib.hid (fun (W : World) (a : Option Addr) (c' : Nat) (hh : EC W (.slice a M.length c') M) => find_ok c' hh.1 hr2 (by omega) lo k1 hk1 (hasB M lo) rfl)
  have HF2 := Lib.hid (fun (W : World) (a : Option Addr) (c' : Nat) (hh : EC W (.slice a M.length c') M) => find_ok c' hh.1 hr2 (by omega) hi k2 hk2 (hasB M hi) rfl)
  obtain ⟨d1, hd1⟩ : ∃ d1, hasB M lo = d1 := ⟨_, rfl⟩
  obtain ⟨d2, hd2⟩ : ∃ d2, hasB M hi = d2 := ⟨_, rfl⟩
  rw [hd1] at HF1
  rw [hd2] at HF2
  rw [eL, eG]
  obtain ⟨L1, hL1⟩ : ∃ L1, clipE L lo = L1 := ⟨_, rfl⟩
  rw [hL1] at HC1 HC2 hl1
  have HLn := Lib.hid (show lenAll [M.take k1, M.drop k3] ≤ 1000000 by unfold lenAll; simp; omega)
  have HGl := Lib.hid (show ((M.drop k1).take (k3 - k1)).length ≤ 1000000 by simp; omega)
  obtain ⟨T, hT⟩ : ∃ T, M.take k1 = T := ⟨_, rfl⟩
  obtain ⟨D, hD⟩ : ∃ D, M.drop k3 = D := ⟨_, rfl⟩
  obtain ⟨G, hG⟩ : ∃ G, (M.drop k1).take (k3 - k1) = G := ⟨_, rfl⟩
  rw [hT, hD] at HLn
  rw [hG] at HGl
  rw [hT, hD, hG]
  have HTe := Lib.hid hT
  have HDe := Lib.hid hD
  have HGe := Lib.hid hG
  clear hT hD hG
  clear h hr hr1 hr2 hbn hk1 hk2 hd1 hd2 hL1 eL eG q1 q2 hM hM2 hl2 hl1
  go_enter Tryz.func162, Tryz.ntmps162
  go_wp2_with fail
  refine HC1.out.mono ?_
  rintro e w2 ⟨u, rfl, hown, g2⟩
  obtain ⟨a1, c1, hvf⟩ := eown_form hown
  subst hvf
  have HG2 := Lib.hid g2
  have HCc := Lib.hid (HC2.out w2 a1 c1 (EOwn.ec hown))
  clear hown g2
  go_wp2_with fail
  refine HCc.out.mono ?_
  rintro e w3 ⟨u, rfl, hown, g3⟩
  obtain ⟨a2, c2, hvf⟩ := eown_form hown
  subst hvf
  have hec := EOwn.ec hown
  have HE3 := Lib.hid hec
  have HG3 := Lib.hid (grown_trans HG2.out g3)
  have HFa := Lib.hid (HF1.out w3 a2 c2 hec)
  clear hown g3 hec
  go_wp2_with fail
  refine HFa.out.mono ?_
  rintro e w4 ⟨rfl, g4⟩
  have HE4 := Lib.hid (HE3.out.grow g4)
  have HG4 := Lib.hid (grown_trans HG3.out g4)
  have HFb := Lib.hid (HF2.out w4 a2 c2 (HE3.out.grow g4))
  clear g4
  go_wp2_with fail
  refine HFb.out.mono ?_
  rintro e w5 ⟨rfl, g5⟩
  have hec := HE4.out.grow g5
  have HG5 := Lib.hid (grown_trans HG4.out g5)
  obtain ⟨b1, e1, hq1, he1⟩ := ec_to hec hkl1
  obtain ⟨b2, e2, hq2, he2⟩ := ec_from hec hkl3
  obtain ⟨b3, e3, hq3, he3⟩ := ec_mid hec hk13 hkl3
  clear g5 hec
  simp only [HTe.out] at hq1 he1
  simp only [HDe.out] at hq2 he2
  simp only [HGe.out] at hq3 he3
  have HE1 := Lib.hid he1
  have HE2 := Lib.hid he2
  have HEg := Lib.hid he3
  clear he1 he2 he3
  have h01 : (0 : Int) ≤ (k1 : Int) := by omega
  have h02 : (k1 : Int) ≤ (k3 : Int) := by omega
  have h03 : (k3 : Int) ≤ (M.length : Int) := by omega
  have gW : w5.grownBy ((w5.alloc (.cells #[.slice b1 T.length e1, .slice b2 D.length e2] 47)).drew) none := grown_trans (World.grownBy_alloc _ _ none) (grown_drew1 _)
  have hPT : EParts ((w5.alloc (.cells #[.slice b1 T.length e1, .slice b2 D.length e2] 47)).drew) (.slice (some ⟨w5.heap.size, 0, none⟩) 2 2) [T, D] := parts_two (heap_alloc_new w5 _) (HE1.out.grow gW) (HE2.out.grow gW)
  obtain ⟨nn, hnn⟩ : ∃ nn, [T, D].flatten.length = nn := ⟨_, rfl⟩
  have HNN := Lib.hid hnn
  have HCC := Lib.hid (concat_ok hPT (by simp) HLn.out)
  have HW := Lib.hid (grown_trans HG5.out gW)
  have HgW := Lib.hid gW
  have HCl := Lib.hid (fun (W6 : World) (g : w5.grownBy W6 none) => clone_ok (HEg.out.grow g) HGl.out)
  have HT2 := Lib.hid (show [T, D].flatten = T ++ D by simp)
  clear hPT gW hnn
  go_upto_region 5 with fail
  go_region_held3 (fun _ => True) (trivial)
    (first
      | (go_at_call 185; with_reducible refine HCC.out.mono ?_; rintro e w6 ⟨u6, rfl, hown6, g6⟩; obtain ⟨va, vc, hvf⟩ := eown_form hown6; rw [HNN.out] at hvf; subst hvf; have HO6 := Lib.hid (eown_lower hown6 HW.out.size); have HG6 := Lib.hid (grown_trans HW.out g6); have HCd := Lib.hid (HCl.out _ (grown_trans HgW.out g6)); clear hown6 g6)
      | (go_at_call 112; with_reducible refine HCd.out.mono ?_; rintro e w7 ⟨u7, rfl, hown7, g7⟩; obtain ⟨vb, vd, hvf⟩ := eown_form hown7; subst hvf; have HO7 := Lib.hid (eown_lower hown7 HG6.out.size); have HNe := Lib.hid (eown_apart hown7 HO6.out (Nat.le_refl _)); have HO8 := Lib.hid (eown_grow HO6.out g7); have HG7 := Lib.hid (grown_trans HG6.out g7); clear hown7 g7)
      | fail)
  go_wp2_with fail
  go_ret2
  exact ⟨_, _, rfl, by rw [HT2.out] at HO8; exact HO8.out, HO7.out, HNe.out, HG7.out⟩
end Go.Proofs.YtefiiooibbkffaaGreat
