/- WalkWrites, walked out of what package walk says: it answers true, and nothing that was there has turned. -/
import Derived.Test.YtomkhdefjfjlnaaWWrFacts
import Derived.Deep.RegionWith
import Derived.BigRegion
namespace Go.Proofs.Ytomkhdefjfjlnaa
open Go.ChangeShapes Go.WideShapes Go.ChangeAt Go.RowKit Go.Deep
open Extern.Stop (cell)
set_option linter.unusedVariables false

theorem okI_0 : okI 0 := ⟨by decide, by decide⟩
theorem AskB.grow' {w w' : World} {y : Nat} {A : AskV} {r : Option Nat} (h : AskB w y A) (g : w.grownBy w' r) (hr : r ≠ some y) : AskB w' y A := h.grow g hr
theorem EntB.past {w w' : World} {y : Nat} {A B : Int} {r : Option Nat} (h : EntB w y A B) (g : w.grownBy w' r) (hr : r ≠ some y) : EntB w' y A B := (g.block _ h.lt (Ne.symm hr)).trans h

set_option maxRecDepth 100000 in
set_option maxHeartbeats 4000000 in
theorem writes_walk (HWalk : WalkOk) (HLook : LookOk) (w : World) (i0 f0 : Int) (A : AskV) (hi0 : okU i0) (hf0 : okU f0) (hA : okI A.root ∧ okI A.va ∧ okI A.a) :
    Calls Try.prog 6 #[.int .u64 i0, .int .u64 f0, .agg #[.int .i64 A.root, .int .i64 A.va, .int .i64 A.a, .bool A.u]] w fun e w' => e = .returned (.bool true) ∧ Below w.heap.size w w' := by
  obtain ⟨i1, i2⟩ := hi0
  obtain ⟨f1, f2⟩ := hf0
  have k0 : 0 ≤ i0 % 512 := by omega
  have k1 : i0 % 512 < 512 := by omega
  have g0 : 0 ≤ f0 % 256 := by omega
  have g1 : f0 % 256 < 256 := by omega
  obtain ⟨o1, o2, o3⟩ := one_words (i0 % 512) (f0 % 256) 3 ⟨k0, k1⟩
  obtain ⟨LL, hLL⟩ : ∃ LL, madeL noL (oneW (i0 % 512) (f0 % 256) 3) = LL := ⟨_, rfl⟩
  have hlen : LL.length = 8 * 4096 := hLL ▸ made_len noL noL_length _
  have hcl : Clean 8 LL := hLL ▸ clean_made _ _ clean_noL
  rw [hLL] at o1 o2 o3
  obtain ⟨L2, pw, pf, pa, F2, q1, q2, q3, q4, q5, q6⟩ := writes_facts (i0 % 512) (f0 % 256) A.a A.u ⟨k0, k1⟩ ⟨g0, g1⟩ LL o1 o2 hlen
  have hcl2 : Clean 8 L2 := q3 ▸ hcl.walk 0 _ _ _
  obtain ⟨wm1, wm2⟩ := want_mark (f0 % 256) A.a ⟨g0, g1⟩
  have HLv := Lib.hid (lives4 HWalk)
  unfold WalkOk at HWalk
  unfold LookOk at HLook
  have HWk := Lib.hid HWalk
  have HLk := Lib.hid HLook
  have Q1 := Lib.hid q1
  have Q2 := Lib.hid q2
  have Q3 := Lib.hid q3
  have Q4 := Lib.hid q4
  have Q5 := Lib.hid q5
  have HLL := Lib.hid hLL
  have HLen := Lib.hid hlen
  have HCl := Lib.hid hcl
  have HCl2 := Lib.hid hcl2
  have HOA := Lib.hid hA.2.2
  have HKI := Lib.hid (show okI (i0 % 512) from ⟨by omega, by omega⟩)
  have HVI := Lib.hid (show okI (i0 % 512 * 4096 + 5) from ⟨by omega, by omega⟩)
  have HMay := Lib.hid (may_ok (f0 % 256) 3 A.a A.u)
  clear HWalk HLook o1 o2 o3 q1 q2 q3 q4 q5 hLL hlen hcl hcl2 hA
  have HXB := Lib.hid (show AskB (w.alloc (.cells #[.int .i64 A.root, .int .i64 A.va, .int .i64 A.a, .bool A.u] 30)) w.heap.size A from heap_alloc_new w _)
  have HX0 := Lib.hid ((Below.refl _ w).alloc (Nat.le_refl _) (.cells #[.int .i64 A.root, .int .i64 A.va, .int .i64 A.a, .bool A.u] 30))
  have HXL := Lib.hid (show w.heap.size < (w.alloc (.cells #[.int .i64 A.root, .int .i64 A.va, .int .i64 A.a, .bool A.u] 30)).heap.size by simp)
  rcases q6 with ⟨hm, rfl, rfl, rfl, hF2⟩ | ⟨hm, hpw, hF2⟩
  · by_cases ha2 : A.a = 2
    · have hwant := wm1 ha2
      have e2 : (A.a == 2) = true := by simp [ha2]
      rw [hm] at HMay
      rw [← hF2] at hwant
      clear wm1 wm2 hm hF2 ha2
      go_enter Try.func6, Try.ntmps6
      go_wp2_with fail
      generalize i0 % 512 = k at *
      generalize f0 % 256 = fl at *
      refine (one_ok _ _ _ _).mono ?_
      rintro e w1 ⟨rfl, hw1, g1'⟩
      have hsz : (w.alloc (.cells #[.int .i64 A.root, .int .i64 A.va, .int .i64 A.a, .bool A.u] 30)).heap.size = w.heap.size + 1 := by simp
      rw [hsz] at hw1
      have HB1 := Lib.hid (HX0.out.trans (below_of_grown g1' HX0.out.size (by simp)))
      have HX1 := Lib.hid (HXB.out.grow g1' (by simp))
      have HXL1 := Lib.hid (Nat.lt_of_lt_of_le HXL.out g1'.size)
      have HW1 := Lib.hid hw1
      clear hw1 g1' hsz
      go_wp2_with fail
      with_reducible refine (made_ok w1 _ 3 3 _ HW1.out (by decide)).mono ?_
      rintro e w2 ⟨m, d, r, f, R, rfl, h2⟩
      rw [HLL.out] at h2
      have HS2 := Lib.hid (h2.st.lower HB1.out)
      have hX0d : w.heap.size ≠ d := by have := h2.st.dge; have := HXL1.out; omega
      have hX0m : w.heap.size ≠ m := by have := h2.st.mge; have := HXL1.out; omega
      have HX2 := Lib.hid (HX1.out.grow (grown_of_below h2.st.below none) (by simp))
      clear h2
      go_wp2_with fail
      have HP := Lib.hid (show Pages8 (w2.alloc (.cells #[.slice none 0 0, .slice none 0 0, .slice none 0 0, .slice none 0 0, .slice none 0 0, .slice none 0 0, .slice none 0 0, .slice none 0 0] 56)) w2.heap.size d 0 LL from ⟨_, heap_alloc_new w2 _, rfl, fun j hj => by omega⟩)
      have HS3 := Lib.hid (HS2.out.grow (World.grownBy_alloc w2 (.cells #[.slice none 0 0, .slice none 0 0, .slice none 0 0, .slice none 0 0, .slice none 0 0, .slice none 0 0, .slice none 0 0, .slice none 0 0] 56) none))
      have HX3 := Lib.hid (HX2.out.grow (World.grownBy_alloc w2 (.cells #[.slice none 0 0, .slice none 0 0, .slice none 0 0, .slice none 0 0, .slice none 0 0, .slice none 0 0, .slice none 0 0, .slice none 0 0] 56) none) (by simp))
      have hXd : w2.heap.size ≠ d := by have := HS2.out.dlt; omega
      have hXm : w2.heap.size ≠ m := by have := HS2.out.mlt; omega
      have hXX : w2.heap.size ≠ w.heap.size := by have := HXL.out; have := HS2.out.below.size; intro e; have := HX2.out; unfold AskB at this; rw [← e, Array.getElem?_eq_none (Nat.le_refl _)] at this; cases this
      have hXge : w.heap.size ≤ w2.heap.size := HS2.out.below.size
      generalize hXe : w2.heap.size = X at *
      clear hXe
      go_loopw [35] (fun kv wr => ∃ q : Nat, q ≤ 8 ∧ kv = .int .i64 q ∧ Hid (St w wr m d 8 LL) ∧ Hid (AskB wr w.heap.size A) ∧ Hid (Pages8 wr X d q LL)) (fun kv _ => 8 - (intOf kv).toNat)
      case atStart => exact ⟨0, by omega, rfl, HS3.out, HX3.out, HP.out⟩
      case round =>
        obtain ⟨q, hq, rfl, HS, HX, HPq⟩ := hrel
        by_cases hlt : q < 8
        · go_wp2_with fail
          refine (pageE HS.out _ q rfl hlt).mono ?_
          rintro e w6 ⟨rfl, h6, hG6, hp6⟩
          have hP6 := HPq.out.kept hXd (grown_none hG6)
          have hX6 := HX.out.grow hG6 (by simp)
          obtain ⟨⟨u, hc⟩, hf⟩ := hP6.spot q hlt
          have hw6 := hG6.size
          have hdv := HS.out.dlt
          have hXv := HPq.out.lt
          generalize hV : wr.heap.size = V at *
          clear hV
          have G7 := grown_setCells w6 X q [.slice (some ⟨V, 0, none⟩) 4096 4096]
          have HS7 : Hid (St w (w6.setCell ⟨X, q, none⟩ (.slice (some ⟨V, 0, none⟩) 4096 4096)) m d 8 LL) := h6.grow' G7 hXge hXm hXd
          have HX7 : Hid (AskB (w6.setCell ⟨X, q, none⟩ (.slice (some ⟨V, 0, none⟩) 4096 4096)) w.heap.size A) := hX6.grow G7 (by simpa using hXX)
          have HP7 := Lib.hid (hP6.put hlt (by omega) (by omega) hp6)
          clear h6 hG6 hp6 hP6 hX6 G7 hdv hXv hw6
          go_wp2_with fail
          go_roundw
          case rel => exact ⟨q + 1, by omega, by go_num, HS7.out, HX7.out, HP7.out⟩
          case measure => simp [intOf]; omega
        · obtain rfl : q = 8 := by omega
          go_wp2_with fail
          with_reducible refine (HLk.out w wr m d LL HS.out HCl.out 0 k okI_0 HKI.out).mono ?_
          rw [Q1.out]
          rintro e w7 ⟨rfl, g7⟩
          have ga := grown_trans g7 (World.grownBy_alloc w7 (.cells #[.int .i64 fl, .int .i64 3] 40) none)
          have HS8 := Lib.hid (HS.out.grow ga)
          have HX8 := Lib.hid (HX.out.grow ga (by simp))
          have HP8 := Lib.hid (HPq.out.kept hXd (grown_none ga))
          have HE8 := Lib.hid (show EntB (w7.alloc (.cells #[.int .i64 fl, .int .i64 3] 40)) w7.heap.size fl 3 from heap_alloc_new w7 _)
          have hEd : w7.heap.size ≠ d := by have := (HS.out.grow g7).dlt; omega
          clear g7 ga
          obtain ⟨x0, x1, x2, x3⟩ := HX8.out.at
          go_wp2_with fail
          generalize w7.heap.size = Y at *
          with_reducible refine (HWk.out w _ m d LL HS8.out HCl.out 0 (k * 4096 + 5) A.a A.u okI_0 HVI.out HOA.out).mono ?_
          rw [Q2.out, Q3.out]
          rintro e w9 ⟨rfl, h9, g9⟩
          have HS9 := Lib.hid h9
          have HX9 := Lib.hid (HX8.out.grow g9 (by simpa using Ne.symm hX0d))
          have HP9 := Lib.hid (HP8.out.kept hXd g9)
          have HE9 := Lib.hid (HE8.out.past g9 (by simpa using Ne.symm hEd))
          clear h9 g9 x0 x1 x2 x3
          go_wp2_with fail
          with_reducible refine (HLk.out w w9 m d L2 HS9.out HCl2.out 0 k okI_0 HKI.out).mono ?_
          rw [Q4.out]
          rintro e w10 ⟨rfl, g10⟩
          have ga := grown_trans g10 (World.grownBy_alloc w10 (.cells #[.int .i64 F2, .int .i64 3] 40) none)
          have HS11 := Lib.hid (HS9.out.grow ga)
          have HX11 := Lib.hid (HX9.out.grow ga (by simp))
          have HP11 := Lib.hid (HP9.out.kept hXd (grown_none ga))
          have HE11 := Lib.hid (HE9.out.past ga (by simp))
          have HD11 := Lib.hid (show EntB (w10.alloc (.cells #[.int .i64 F2, .int .i64 3] 40)) w10.heap.size F2 3 from heap_alloc_new w10 _)
          clear g10 ga
          obtain ⟨x0, x1, x2, x3⟩ := HX11.out.at
          obtain ⟨y0, y1⟩ := HE11.out.at
          obtain ⟨z0, z1⟩ := HD11.out.at
          go_wp2_with fail
          refine (HMay.out _).mono ?_
          rintro e w12 ⟨rfl, h12⟩
          have g12 := grown_of_below' h12
          have HS12 := Lib.hid (HS11.out.grow g12)
          have HP12 := Lib.hid (HP11.out.kept hXd (grown_none g12))
          have HE12 := Lib.hid (HE11.out.past g12 (by simp))
          clear h12 g12 x0 x1 x2 x3 y0 y1 z0 z1
          obtain ⟨y0, y1⟩ := HE12.out.at
          go_wp2_with fail
          refine (ref_encode_ok _ _ _).mono ?_
          rintro e w13 ⟨rfl, h13⟩
          have g13 := grown_of_below' h13
          have HS13 := Lib.hid (HS12.out.grow g13)
          have HP13 := Lib.hid (HP12.out.kept hXd (grown_none g13))
          clear h13 g13 y0 y1
          go_wp2_with fail
          with_reducible refine (setWordE' HS13.out 2 k (encOf fl 3) (by decide) ⟨k0, k1⟩ (okU_encOf _ _)).mono ?_
          rw [Q5.out]
          rintro e w14 ⟨rfl, h14, g14⟩
          have HS14 := Lib.hid h14
          have HP14 := Lib.hid (HP13.out.kept hXd g14)
          clear h14 g14
          go_wp2_with fail
          go_loopw [125] (fun kv wx => ∃ t : Nat, t ≤ 8 ∧ kv = .int .i64 t ∧ Hid (St w wx m d 8 LL) ∧ Hid (Pages8 wx X d 8 LL)) (fun kv _ => 8 - (intOf kv).toNat)
          case atStart => exact ⟨0, by omega, rfl, HS14.out, HP14.out⟩
          case round =>
            obtain ⟨t, ht, rfl, HSt, HPt⟩ := hrel
            by_cases htl : t < 8
            · have HSD := Lib.hid (HSt.out.grow (grown_drew wr))
              have HPD := Lib.hid (HPt.out.kept hXd (grown_none (grown_drew wr)))
              obtain ⟨p, hpd, hpc, hpp⟩ := HPD.out.told t htl
              have HPP := Lib.hid hpp
              have HPL := Lib.hid (pageOf_length HLen.out t htl)
              have hk : wr.drew.cell? ⟨X, t, none⟩ = some (.slice (some ⟨p, 0, none⟩) 4096 4096) := hpc
              clear hpp hpc
              go_wp2_with fail
              go_region_held3 (fun w' => w'.cell? ⟨X, t, none⟩ = some (.slice (some ⟨p, 0, none⟩) 4096 4096)) (exact hk)
                (first
                  | (go_at_call 21; with_reducible refine ((pageE HSD.out _ t rfl htl).mono ?_); rintro e w15 ⟨rfl, h15, g15, hp15⟩; replace hk := grown_cell hk g15; have HA15 := Lib.hid (src_len (src_block hp15) HPL.out); have HB15 := Lib.hid (src_len (src_block (blk_kept HPP.out g15 (by simp))) HPL.out); have HS15 := Lib.hid h15; have HP15 := Lib.hid (HPD.out.kept hXd (grown_none g15)); clear h15 g15 hp15)
                  | (go_at_call 25; refine ((bytesEq HA15.out HB15.out _ _ true (by simp)).mono ?_); rintro e w16 ⟨rfl, rfl⟩))
              all_goals
                go_wp2_with fail
                go_roundw
                case rel => exact ⟨t + 1, by omega, by go_num, HS15.out, HP15.out⟩
                case measure => simp [intOf]; omega
            · go_wp2_with fail
              refine (HLv.out _).mono ?_
              rintro e w17 ⟨rfl, g17⟩
              have HB := Lib.hid (HSt.out.below.trans (below_of_grown g17 HSt.out.below.size (by simp)))
              clear g17
              go_wp2_with fail
              go_ret
              exact ⟨rfl, HB.out⟩
    · have hwant := wm2 ha2
      have e2 : (A.a == 2) = false := by simp [ha2]
      rw [hm] at HMay
      rw [← hF2] at hwant
      clear wm1 wm2 hm hF2 ha2
      go_enter Try.func6, Try.ntmps6
      go_wp2_with fail
      generalize i0 % 512 = k at *
      generalize f0 % 256 = fl at *
      refine (one_ok _ _ _ _).mono ?_
      rintro e w1 ⟨rfl, hw1, g1'⟩
      have hsz : (w.alloc (.cells #[.int .i64 A.root, .int .i64 A.va, .int .i64 A.a, .bool A.u] 30)).heap.size = w.heap.size + 1 := by simp
      rw [hsz] at hw1
      have HB1 := Lib.hid (HX0.out.trans (below_of_grown g1' HX0.out.size (by simp)))
      have HX1 := Lib.hid (HXB.out.grow g1' (by simp))
      have HXL1 := Lib.hid (Nat.lt_of_lt_of_le HXL.out g1'.size)
      have HW1 := Lib.hid hw1
      clear hw1 g1' hsz
      go_wp2_with fail
      with_reducible refine (made_ok w1 _ 3 3 _ HW1.out (by decide)).mono ?_
      rintro e w2 ⟨m, d, r, f, R, rfl, h2⟩
      rw [HLL.out] at h2
      have HS2 := Lib.hid (h2.st.lower HB1.out)
      have hX0d : w.heap.size ≠ d := by have := h2.st.dge; have := HXL1.out; omega
      have hX0m : w.heap.size ≠ m := by have := h2.st.mge; have := HXL1.out; omega
      have HX2 := Lib.hid (HX1.out.grow (grown_of_below h2.st.below none) (by simp))
      clear h2
      go_wp2_with fail
      have HP := Lib.hid (show Pages8 (w2.alloc (.cells #[.slice none 0 0, .slice none 0 0, .slice none 0 0, .slice none 0 0, .slice none 0 0, .slice none 0 0, .slice none 0 0, .slice none 0 0] 56)) w2.heap.size d 0 LL from ⟨_, heap_alloc_new w2 _, rfl, fun j hj => by omega⟩)
      have HS3 := Lib.hid (HS2.out.grow (World.grownBy_alloc w2 (.cells #[.slice none 0 0, .slice none 0 0, .slice none 0 0, .slice none 0 0, .slice none 0 0, .slice none 0 0, .slice none 0 0, .slice none 0 0] 56) none))
      have HX3 := Lib.hid (HX2.out.grow (World.grownBy_alloc w2 (.cells #[.slice none 0 0, .slice none 0 0, .slice none 0 0, .slice none 0 0, .slice none 0 0, .slice none 0 0, .slice none 0 0, .slice none 0 0] 56) none) (by simp))
      have hXd : w2.heap.size ≠ d := by have := HS2.out.dlt; omega
      have hXm : w2.heap.size ≠ m := by have := HS2.out.mlt; omega
      have hXX : w2.heap.size ≠ w.heap.size := by have := HXL.out; have := HS2.out.below.size; intro e; have := HX2.out; unfold AskB at this; rw [← e, Array.getElem?_eq_none (Nat.le_refl _)] at this; cases this
      have hXge : w.heap.size ≤ w2.heap.size := HS2.out.below.size
      generalize hXe : w2.heap.size = X at *
      clear hXe
      go_loopw [35] (fun kv wr => ∃ q : Nat, q ≤ 8 ∧ kv = .int .i64 q ∧ Hid (St w wr m d 8 LL) ∧ Hid (AskB wr w.heap.size A) ∧ Hid (Pages8 wr X d q LL)) (fun kv _ => 8 - (intOf kv).toNat)
      case atStart => exact ⟨0, by omega, rfl, HS3.out, HX3.out, HP.out⟩
      case round =>
        obtain ⟨q, hq, rfl, HS, HX, HPq⟩ := hrel
        by_cases hlt : q < 8
        · go_wp2_with fail
          refine (pageE HS.out _ q rfl hlt).mono ?_
          rintro e w6 ⟨rfl, h6, hG6, hp6⟩
          have hP6 := HPq.out.kept hXd (grown_none hG6)
          have hX6 := HX.out.grow hG6 (by simp)
          obtain ⟨⟨u, hc⟩, hf⟩ := hP6.spot q hlt
          have hw6 := hG6.size
          have hdv := HS.out.dlt
          have hXv := HPq.out.lt
          generalize hV : wr.heap.size = V at *
          clear hV
          have G7 := grown_setCells w6 X q [.slice (some ⟨V, 0, none⟩) 4096 4096]
          have HS7 : Hid (St w (w6.setCell ⟨X, q, none⟩ (.slice (some ⟨V, 0, none⟩) 4096 4096)) m d 8 LL) := h6.grow' G7 hXge hXm hXd
          have HX7 : Hid (AskB (w6.setCell ⟨X, q, none⟩ (.slice (some ⟨V, 0, none⟩) 4096 4096)) w.heap.size A) := hX6.grow G7 (by simpa using hXX)
          have HP7 := Lib.hid (hP6.put hlt (by omega) (by omega) hp6)
          clear h6 hG6 hp6 hP6 hX6 G7 hdv hXv hw6
          go_wp2_with fail
          go_roundw
          case rel => exact ⟨q + 1, by omega, by go_num, HS7.out, HX7.out, HP7.out⟩
          case measure => simp [intOf]; omega
        · obtain rfl : q = 8 := by omega
          go_wp2_with fail
          with_reducible refine (HLk.out w wr m d LL HS.out HCl.out 0 k okI_0 HKI.out).mono ?_
          rw [Q1.out]
          rintro e w7 ⟨rfl, g7⟩
          have ga := grown_trans g7 (World.grownBy_alloc w7 (.cells #[.int .i64 fl, .int .i64 3] 40) none)
          have HS8 := Lib.hid (HS.out.grow ga)
          have HX8 := Lib.hid (HX.out.grow ga (by simp))
          have HP8 := Lib.hid (HPq.out.kept hXd (grown_none ga))
          have HE8 := Lib.hid (show EntB (w7.alloc (.cells #[.int .i64 fl, .int .i64 3] 40)) w7.heap.size fl 3 from heap_alloc_new w7 _)
          have hEd : w7.heap.size ≠ d := by have := (HS.out.grow g7).dlt; omega
          clear g7 ga
          obtain ⟨x0, x1, x2, x3⟩ := HX8.out.at
          go_wp2_with fail
          generalize w7.heap.size = Y at *
          with_reducible refine (HWk.out w _ m d LL HS8.out HCl.out 0 (k * 4096 + 5) A.a A.u okI_0 HVI.out HOA.out).mono ?_
          rw [Q2.out, Q3.out]
          rintro e w9 ⟨rfl, h9, g9⟩
          have HS9 := Lib.hid h9
          have HX9 := Lib.hid (HX8.out.grow g9 (by simpa using Ne.symm hX0d))
          have HP9 := Lib.hid (HP8.out.kept hXd g9)
          have HE9 := Lib.hid (HE8.out.past g9 (by simpa using Ne.symm hEd))
          clear h9 g9 x0 x1 x2 x3
          go_wp2_with fail
          with_reducible refine (HLk.out w w9 m d L2 HS9.out HCl2.out 0 k okI_0 HKI.out).mono ?_
          rw [Q4.out]
          rintro e w10 ⟨rfl, g10⟩
          have ga := grown_trans g10 (World.grownBy_alloc w10 (.cells #[.int .i64 F2, .int .i64 3] 40) none)
          have HS11 := Lib.hid (HS9.out.grow ga)
          have HX11 := Lib.hid (HX9.out.grow ga (by simp))
          have HP11 := Lib.hid (HP9.out.kept hXd (grown_none ga))
          have HE11 := Lib.hid (HE9.out.past ga (by simp))
          have HD11 := Lib.hid (show EntB (w10.alloc (.cells #[.int .i64 F2, .int .i64 3] 40)) w10.heap.size F2 3 from heap_alloc_new w10 _)
          clear g10 ga
          obtain ⟨x0, x1, x2, x3⟩ := HX11.out.at
          obtain ⟨y0, y1⟩ := HE11.out.at
          obtain ⟨z0, z1⟩ := HD11.out.at
          go_wp2_with fail
          refine (HMay.out _).mono ?_
          rintro e w12 ⟨rfl, h12⟩
          have g12 := grown_of_below' h12
          have HS12 := Lib.hid (HS11.out.grow g12)
          have HP12 := Lib.hid (HP11.out.kept hXd (grown_none g12))
          have HE12 := Lib.hid (HE11.out.past g12 (by simp))
          clear h12 g12 x0 x1 x2 x3 y0 y1 z0 z1
          obtain ⟨y0, y1⟩ := HE12.out.at
          go_wp2_with fail
          refine (ref_encode_ok _ _ _).mono ?_
          rintro e w13 ⟨rfl, h13⟩
          have g13 := grown_of_below' h13
          have HS13 := Lib.hid (HS12.out.grow g13)
          have HP13 := Lib.hid (HP12.out.kept hXd (grown_none g13))
          clear h13 g13 y0 y1
          go_wp2_with fail
          with_reducible refine (setWordE' HS13.out 2 k (encOf fl 3) (by decide) ⟨k0, k1⟩ (okU_encOf _ _)).mono ?_
          rw [Q5.out]
          rintro e w14 ⟨rfl, h14, g14⟩
          have HS14 := Lib.hid h14
          have HP14 := Lib.hid (HP13.out.kept hXd g14)
          clear h14 g14
          go_wp2_with fail
          go_loopw [125] (fun kv wx => ∃ t : Nat, t ≤ 8 ∧ kv = .int .i64 t ∧ Hid (St w wx m d 8 LL) ∧ Hid (Pages8 wx X d 8 LL)) (fun kv _ => 8 - (intOf kv).toNat)
          case atStart => exact ⟨0, by omega, rfl, HS14.out, HP14.out⟩
          case round =>
            obtain ⟨t, ht, rfl, HSt, HPt⟩ := hrel
            by_cases htl : t < 8
            · have HSD := Lib.hid (HSt.out.grow (grown_drew wr))
              have HPD := Lib.hid (HPt.out.kept hXd (grown_none (grown_drew wr)))
              obtain ⟨p, hpd, hpc, hpp⟩ := HPD.out.told t htl
              have HPP := Lib.hid hpp
              have HPL := Lib.hid (pageOf_length HLen.out t htl)
              have hk : wr.drew.cell? ⟨X, t, none⟩ = some (.slice (some ⟨p, 0, none⟩) 4096 4096) := hpc
              clear hpp hpc
              go_wp2_with fail
              go_region_held3 (fun w' => w'.cell? ⟨X, t, none⟩ = some (.slice (some ⟨p, 0, none⟩) 4096 4096)) (exact hk)
                (first
                  | (go_at_call 21; with_reducible refine ((pageE HSD.out _ t rfl htl).mono ?_); rintro e w15 ⟨rfl, h15, g15, hp15⟩; replace hk := grown_cell hk g15; have HA15 := Lib.hid (src_len (src_block hp15) HPL.out); have HB15 := Lib.hid (src_len (src_block (blk_kept HPP.out g15 (by simp))) HPL.out); have HS15 := Lib.hid h15; have HP15 := Lib.hid (HPD.out.kept hXd (grown_none g15)); clear h15 g15 hp15)
                  | (go_at_call 25; refine ((bytesEq HA15.out HB15.out _ _ true (by simp)).mono ?_); rintro e w16 ⟨rfl, rfl⟩))
              all_goals
                go_wp2_with fail
                go_roundw
                case rel => exact ⟨t + 1, by omega, by go_num, HS15.out, HP15.out⟩
                case measure => simp [intOf]; omega
            · go_wp2_with fail
              refine (HLv.out _).mono ?_
              rintro e w17 ⟨rfl, g17⟩
              have HB := Lib.hid (HSt.out.below.trans (below_of_grown g17 HSt.out.below.size (by simp)))
              clear g17
              go_wp2_with fail
              go_ret
              exact ⟨rfl, HB.out⟩
  · have epw : (pw == 0) = false := by simp [hpw]
    rw [hm] at HMay
    subst hF2
    clear wm1 wm2 hm hpw
    go_enter Try.func6, Try.ntmps6
    go_wp2_with fail
    generalize i0 % 512 = k at *
    generalize f0 % 256 = fl at *
    refine (one_ok _ _ _ _).mono ?_
    rintro e w1 ⟨rfl, hw1, g1'⟩
    have hsz : (w.alloc (.cells #[.int .i64 A.root, .int .i64 A.va, .int .i64 A.a, .bool A.u] 30)).heap.size = w.heap.size + 1 := by simp
    rw [hsz] at hw1
    have HB1 := Lib.hid (HX0.out.trans (below_of_grown g1' HX0.out.size (by simp)))
    have HX1 := Lib.hid (HXB.out.grow g1' (by simp))
    have HXL1 := Lib.hid (Nat.lt_of_lt_of_le HXL.out g1'.size)
    have HW1 := Lib.hid hw1
    clear hw1 g1' hsz
    go_wp2_with fail
    with_reducible refine (made_ok w1 _ 3 3 _ HW1.out (by decide)).mono ?_
    rintro e w2 ⟨m, d, r, f, R, rfl, h2⟩
    rw [HLL.out] at h2
    have HS2 := Lib.hid (h2.st.lower HB1.out)
    have hX0d : w.heap.size ≠ d := by have := h2.st.dge; have := HXL1.out; omega
    have hX0m : w.heap.size ≠ m := by have := h2.st.mge; have := HXL1.out; omega
    have HX2 := Lib.hid (HX1.out.grow (grown_of_below h2.st.below none) (by simp))
    clear h2
    go_wp2_with fail
    have HP := Lib.hid (show Pages8 (w2.alloc (.cells #[.slice none 0 0, .slice none 0 0, .slice none 0 0, .slice none 0 0, .slice none 0 0, .slice none 0 0, .slice none 0 0, .slice none 0 0] 56)) w2.heap.size d 0 LL from ⟨_, heap_alloc_new w2 _, rfl, fun j hj => by omega⟩)
    have HS3 := Lib.hid (HS2.out.grow (World.grownBy_alloc w2 (.cells #[.slice none 0 0, .slice none 0 0, .slice none 0 0, .slice none 0 0, .slice none 0 0, .slice none 0 0, .slice none 0 0, .slice none 0 0] 56) none))
    have HX3 := Lib.hid (HX2.out.grow (World.grownBy_alloc w2 (.cells #[.slice none 0 0, .slice none 0 0, .slice none 0 0, .slice none 0 0, .slice none 0 0, .slice none 0 0, .slice none 0 0, .slice none 0 0] 56) none) (by simp))
    have hXd : w2.heap.size ≠ d := by have := HS2.out.dlt; omega
    have hXm : w2.heap.size ≠ m := by have := HS2.out.mlt; omega
    have hXX : w2.heap.size ≠ w.heap.size := by have := HXL.out; have := HS2.out.below.size; intro e; have := HX2.out; unfold AskB at this; rw [← e, Array.getElem?_eq_none (Nat.le_refl _)] at this; cases this
    have hXge : w.heap.size ≤ w2.heap.size := HS2.out.below.size
    generalize hXe : w2.heap.size = X at *
    clear hXe
    go_loopw [35] (fun kv wr => ∃ q : Nat, q ≤ 8 ∧ kv = .int .i64 q ∧ Hid (St w wr m d 8 LL) ∧ Hid (AskB wr w.heap.size A) ∧ Hid (Pages8 wr X d q LL)) (fun kv _ => 8 - (intOf kv).toNat)
    case atStart => exact ⟨0, by omega, rfl, HS3.out, HX3.out, HP.out⟩
    case round =>
      obtain ⟨q, hq, rfl, HS, HX, HPq⟩ := hrel
      by_cases hlt : q < 8
      · go_wp2_with fail
        refine (pageE HS.out _ q rfl hlt).mono ?_
        rintro e w6 ⟨rfl, h6, hG6, hp6⟩
        have hP6 := HPq.out.kept hXd (grown_none hG6)
        have hX6 := HX.out.grow hG6 (by simp)
        obtain ⟨⟨u, hc⟩, hf⟩ := hP6.spot q hlt
        have hw6 := hG6.size
        have hdv := HS.out.dlt
        have hXv := HPq.out.lt
        generalize hV : wr.heap.size = V at *
        clear hV
        have G7 := grown_setCells w6 X q [.slice (some ⟨V, 0, none⟩) 4096 4096]
        have HS7 : Hid (St w (w6.setCell ⟨X, q, none⟩ (.slice (some ⟨V, 0, none⟩) 4096 4096)) m d 8 LL) := h6.grow' G7 hXge hXm hXd
        have HX7 : Hid (AskB (w6.setCell ⟨X, q, none⟩ (.slice (some ⟨V, 0, none⟩) 4096 4096)) w.heap.size A) := hX6.grow G7 (by simpa using hXX)
        have HP7 := Lib.hid (hP6.put hlt (by omega) (by omega) hp6)
        clear h6 hG6 hp6 hP6 hX6 G7 hdv hXv hw6
        go_wp2_with fail
        go_roundw
        case rel => exact ⟨q + 1, by omega, by go_num, HS7.out, HX7.out, HP7.out⟩
        case measure => simp [intOf]; omega
      · obtain rfl : q = 8 := by omega
        go_wp2_with fail
        with_reducible refine (HLk.out w wr m d LL HS.out HCl.out 0 k okI_0 HKI.out).mono ?_
        rw [Q1.out]
        rintro e w7 ⟨rfl, g7⟩
        have ga := grown_trans g7 (World.grownBy_alloc w7 (.cells #[.int .i64 fl, .int .i64 3] 40) none)
        have HS8 := Lib.hid (HS.out.grow ga)
        have HX8 := Lib.hid (HX.out.grow ga (by simp))
        have HP8 := Lib.hid (HPq.out.kept hXd (grown_none ga))
        have HE8 := Lib.hid (show EntB (w7.alloc (.cells #[.int .i64 fl, .int .i64 3] 40)) w7.heap.size fl 3 from heap_alloc_new w7 _)
        have hEd : w7.heap.size ≠ d := by have := (HS.out.grow g7).dlt; omega
        clear g7 ga
        obtain ⟨x0, x1, x2, x3⟩ := HX8.out.at
        go_wp2_with fail
        generalize w7.heap.size = Y at *
        with_reducible refine (HWk.out w _ m d LL HS8.out HCl.out 0 (k * 4096 + 5) A.a A.u okI_0 HVI.out HOA.out).mono ?_
        rw [Q2.out, Q3.out]
        rintro e w9 ⟨rfl, h9, g9⟩
        have HS9 := Lib.hid h9
        have HX9 := Lib.hid (HX8.out.grow g9 (by simpa using Ne.symm hX0d))
        have HP9 := Lib.hid (HP8.out.kept hXd g9)
        have HE9 := Lib.hid (HE8.out.past g9 (by simpa using Ne.symm hEd))
        clear h9 g9 x0 x1 x2 x3
        go_wp2_with fail
        with_reducible refine (HLk.out w w9 m d L2 HS9.out HCl2.out 0 k okI_0 HKI.out).mono ?_
        rw [Q4.out]
        rintro e w10 ⟨rfl, g10⟩
        have ga := grown_trans g10 (World.grownBy_alloc w10 (.cells #[.int .i64 fl, .int .i64 3] 40) none)
        have HS11 := Lib.hid (HS9.out.grow ga)
        have HX11 := Lib.hid (HX9.out.grow ga (by simp))
        have HP11 := Lib.hid (HP9.out.kept hXd (grown_none ga))
        have HE11 := Lib.hid (HE9.out.past ga (by simp))
        have HD11 := Lib.hid (show EntB (w10.alloc (.cells #[.int .i64 fl, .int .i64 3] 40)) w10.heap.size fl 3 from heap_alloc_new w10 _)
        clear g10 ga
        obtain ⟨x0, x1, x2, x3⟩ := HX11.out.at
        obtain ⟨y0, y1⟩ := HE11.out.at
        obtain ⟨z0, z1⟩ := HD11.out.at
        go_wp2_with fail
        refine (HMay.out _).mono ?_
        rintro e w12 ⟨rfl, h12⟩
        have g12 := grown_of_below' h12
        have HS12 := Lib.hid (HS11.out.grow g12)
        have HP12 := Lib.hid (HP11.out.kept hXd (grown_none g12))
        have HE12 := Lib.hid (HE11.out.past g12 (by simp))
        clear h12 g12 x0 x1 x2 x3 y0 y1 z0 z1
        obtain ⟨y0, y1⟩ := HE12.out.at
        go_wp2_with fail
        refine (ref_encode_ok _ _ _).mono ?_
        rintro e w13 ⟨rfl, h13⟩
        have g13 := grown_of_below' h13
        have HS13 := Lib.hid (HS12.out.grow g13)
        have HP13 := Lib.hid (HP12.out.kept hXd (grown_none g13))
        clear h13 g13 y0 y1
        go_wp2_with fail
        with_reducible refine (setWordE' HS13.out 2 k (encOf fl 3) (by decide) ⟨k0, k1⟩ (okU_encOf _ _)).mono ?_
        rw [Q5.out]
        rintro e w14 ⟨rfl, h14, g14⟩
        have HS14 := Lib.hid h14
        have HP14 := Lib.hid (HP13.out.kept hXd g14)
        clear h14 g14
        go_wp2_with fail
        go_loopw [125] (fun kv wx => ∃ t : Nat, t ≤ 8 ∧ kv = .int .i64 t ∧ Hid (St w wx m d 8 LL) ∧ Hid (Pages8 wx X d 8 LL)) (fun kv _ => 8 - (intOf kv).toNat)
        case atStart => exact ⟨0, by omega, rfl, HS14.out, HP14.out⟩
        case round =>
          obtain ⟨t, ht, rfl, HSt, HPt⟩ := hrel
          by_cases htl : t < 8
          · have HSD := Lib.hid (HSt.out.grow (grown_drew wr))
            have HPD := Lib.hid (HPt.out.kept hXd (grown_none (grown_drew wr)))
            obtain ⟨p, hpd, hpc, hpp⟩ := HPD.out.told t htl
            have HPP := Lib.hid hpp
            have HPL := Lib.hid (pageOf_length HLen.out t htl)
            have hk : wr.drew.cell? ⟨X, t, none⟩ = some (.slice (some ⟨p, 0, none⟩) 4096 4096) := hpc
            clear hpp hpc
            go_wp2_with fail
            go_region_held3 (fun w' => w'.cell? ⟨X, t, none⟩ = some (.slice (some ⟨p, 0, none⟩) 4096 4096)) (exact hk)
              (first
                | (go_at_call 21; with_reducible refine ((pageE HSD.out _ t rfl htl).mono ?_); rintro e w15 ⟨rfl, h15, g15, hp15⟩; replace hk := grown_cell hk g15; have HA15 := Lib.hid (src_len (src_block hp15) HPL.out); have HB15 := Lib.hid (src_len (src_block (blk_kept HPP.out g15 (by simp))) HPL.out); have HS15 := Lib.hid h15; have HP15 := Lib.hid (HPD.out.kept hXd (grown_none g15)); clear h15 g15 hp15)
                | (go_at_call 25; refine ((bytesEq HA15.out HB15.out _ _ true (by simp)).mono ?_); rintro e w16 ⟨rfl, rfl⟩))
            all_goals
              go_wp2_with fail
              go_roundw
              case rel => exact ⟨t + 1, by omega, by go_num, HS15.out, HP15.out⟩
              case measure => simp [intOf]; omega
          · go_wp2_with fail
            refine (HLv.out _).mono ?_
            rintro e w17 ⟨rfl, g17⟩
            have HB := Lib.hid (HSt.out.below.trans (below_of_grown g17 HSt.out.below.size (by simp)))
            clear g17
            go_wp2_with fail
            go_ret
            exact ⟨rfl, HB.out⟩
end Go.Proofs.Ytomkhdefjfjlnaa
