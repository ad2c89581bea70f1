/- VmapRight, walked out of what package vmap says. Written by wip/genvlaw.py and what is behind it. -/
import Derived.Test.YtamkmmhjmpjibaaVmpMore
import Derived.OwnWalk
namespace Go.Proofs.Ytamkmmhjmpjibaa
open Go.ChangeShapes Go.WideShapes Go.ChangeAt Go.RowKit Go.Deep
set_option linter.unusedVariables false
set_option linter.unusedSimpArgs false
set_option linter.unusedSimpArgs false

set_option maxRecDepth 100000 in
set_option maxHeartbeats 32000000 in
theorem right_walk (W : World) (s : Option Addr) (l c : Nat) (As : List VAct) (hA : VActsAre W s l As) :
    Calls Try.prog 4 #[.slice s l c] W fun e w' => e = .returned (.bool true) ∧ W.grownBy w' none := by
  have HAs := Lib.hid hA
  have HLv := Lib.hid (fun wx => lives_ok wx)
  have HNw := Lib.hid (fun wx => new_ok wx)
  by_cases hl : 60 < l
  · have b0 : decide ((l : Int) > 60) = true := decide_eq_true (by omega)
    clear hA
    go_enter Try.func4, Try.ntmps4
    go_wp2_with fail
    refine (HLv.out _).mono ?_
    rintro e w1 ⟨rfl, g1⟩
    have HG1 := Lib.hid g1
    clear g1
    go_wp2_with fail
    go_ret
    exact ⟨rfl, HG1.out⟩
  · have b0 : decide ((l : Int) > 60) = false := decide_eq_false (by omega)
    have HBs := Lib.hid (grown_refl W none)
    clear hA
    go_enter Try.func4, Try.ntmps4
    go_wp2_with fail
    refine (HNw.out _).mono ?_
    rintro e w1 ⟨rfl, k1, g1⟩
    have HSt := Lib.hid (Nat.le_refl W.heap.size)
    have HI := Lib.hid (show VM w1 W.heap.size (.slice none 0 0) (foldV [] (As.take 0)) from k1)
    have HG1 := Lib.hid g1
    clear k1 g1
    go_wp2_with fail
    go_loopw [3, 21] (fun mv iv wr => ∃ (q r : Nat) (v : Value), q ≤ l ∧ mv = .pointer (some ⟨r, 0, none⟩) ∧ iv = .int .i64 q ∧ W.heap.size ≤ r ∧ Hid (VM wr r v (foldV [] (As.take q))) ∧ Hid (W.grownBy wr none)) (fun _ iv _ => l - (intOf iv).toNat)
    case atStart => exact ⟨0, _, _, by omega, rfl, rfl, HSt.out, HI, HG1⟩
    case round =>
      clear HI HG1 HSt
      obtain ⟨q, r, v, hq, rfl, rfl, hr, HV, HG⟩ := hrel
      by_cases hlt : q < l
      · obtain ⟨A, hAq⟩ : ∃ A, As[q]? = some A := ⟨_, List.getElem?_eq_getElem (by rw [HAs.out.len]; exact hlt)⟩
        obtain ⟨b, o, hs, hc⟩ := HAs.out.at (grown_trans HBs.out HG.out) hAq
        subst hs
        obtain ⟨c0, c1, c2, c3, c4, c5, c6, c7, c8, c9, c10, c11, c12, c13, c14⟩ := hc
        have HFt := Lib.hid (fold_take16 [] hAq)
        obtain ⟨hM, hMl⟩ := fold_did (As.take q) mapL_nil
        obtain ⟨L, hL⟩ : ∃ L, foldV [] (As.take q) = L := ⟨_, rfl⟩
        rw [hL] at hM hMl HV HFt
        have hMl2 : L.length ≤ 300 := by
          rw [List.length_take] at hMl
          simp at hMl
          omega
        obtain ⟨hMN, hNl, hNg, hNr, hNe⟩ := step_did hM A
        have hNk := step_fork (L := L) (A := A)
        have HGb := Lib.hid (World.grownBy_alloc wr (.cells #[.int .i64 A.k, .int .i64 A.lo, .int .i64 A.n, .int .i64 A.how, .int .i64 A.x.s, .int .i64 A.x.e, .int .i64 A.x.f, .int .i64 A.x.o, .bool A.x.sh, .int .i64 A.x.p, .int .i64 A.x.m, .int .i64 A.x.i, .int .i64 A.x.a, .bool A.x.wi, .bool A.on] 33) none)
        have HBx := Lib.hid (VBox.new wr A)
        have HVb := Lib.hid (HV.out.grow HGb.out)
        have HOk := Lib.hid (HAs.out.ok A (List.mem_of_getElem? hAq))
        have HAc := Lib.hid (fun (W' : World) (g : (wr.alloc (.cells #[.int .i64 A.k, .int .i64 A.lo, .int .i64 A.n, .int .i64 A.how, .int .i64 A.x.s, .int .i64 A.x.e, .int .i64 A.x.f, .int .i64 A.x.o, .bool A.x.sh, .int .i64 A.x.p, .int .i64 A.x.m, .int .i64 A.x.i, .int .i64 A.x.a, .bool A.x.wi, .bool A.on] 33)).grownBy W' none) => act_ok (HVb.out.grow g) hM (by omega) A HOk.out)
        have HEn := Lib.hid (entries_ok HVb.out (by omega))
        have HFk := Lib.hid (fun (W' : World) (g : (wr.alloc (.cells #[.int .i64 A.k, .int .i64 A.lo, .int .i64 A.n, .int .i64 A.how, .int .i64 A.x.s, .int .i64 A.x.e, .int .i64 A.x.f, .int .i64 A.x.o, .bool A.x.sh, .int .i64 A.x.p, .int .i64 A.x.m, .int .i64 A.x.i, .int .i64 A.x.a, .bool A.x.wi, .bool A.on] 33)).grownBy W' none) => fork_ok (HVb.out.grow g) hM (by omega))
        have hfl := fork_len L
        obtain ⟨Lc, hLc⟩ : ∃ Lc, forkV L = Lc := ⟨_, rfl⟩
        rw [hLc] at HFk hfl
        obtain ⟨N, hN⟩ : ∃ N, stepV L A = N := ⟨_, rfl⟩
        rw [hN] at HAc hMN hNl hNe hNk HFt
        have hrt : rightB N.l = true := (right_iff N.l).2 hMN.rf
        have HRt := Lib.hid (fun (W' : World) s' c' (h : ERow W' (.slice s' N.l.length c') N.l) => right_ok c' h (fun x hx => (rf_good hMN.rf x hx).1.ok) (by omega))
        have HMg := Lib.hid (fun (W' : World) s' c' (h : ERow W' (.slice s' N.l.length c') N.l) => merge_ok c' h hMN.rf (by omega))
        rw [hrt] at HRt
        rw [hMN.mg] at HMg
        have hnn : ((N.l.length : Int) != (N.l.length : Int)) = false := by simp
        have hsl : (wr.alloc (.cells #[.int .i64 A.k, .int .i64 A.lo, .int .i64 A.n, .int .i64 A.how, .int .i64 A.x.s, .int .i64 A.x.e, .int .i64 A.x.f, .int .i64 A.x.o, .bool A.x.sh, .int .i64 A.x.p, .int .i64 A.x.m, .int .i64 A.x.i, .int .i64 A.x.a, .bool A.x.wi, .bool A.on] 33)).heap.size = wr.heap.size + 1 := World.size_alloc _ _
        have hnn2 : ((N.l.length : Int) == (N.l.length : Int)) = true := by simp
        clear hAq hM hMl hNg hNr hMN hrt hL hLc hN
        go_wp2_with fail
        generalize wr.alloc (.cells #[.int .i64 A.k, .int .i64 A.lo, .int .i64 A.n, .int .i64 A.how, .int .i64 A.x.s, .int .i64 A.x.e, .int .i64 A.x.f, .int .i64 A.x.o, .bool A.x.sh, .int .i64 A.x.p, .int .i64 A.x.m, .int .i64 A.x.i, .int .i64 A.x.a, .bool A.x.wi, .bool A.on] 33) = wb at *
        clear c0 c1 c2 c3 c4 c5 c6 c7 c8 c9 c10 c11 c12 c13 c14
        refine HEn.out.mono ?_
        rintro e w1 ⟨u1, rfl, k1, g1⟩
        obtain ⟨a1, c1, hvf⟩ := OwnOf.form k1
        subst hvf
        have HO1 := Lib.hid k1
        have HF1 := Lib.hid (HFk.out w1 g1)
        have HG1 := Lib.hid g1
        have hg1 := g1.size
        clear k1 g1 HEn HFk
        go_wp2_with fail
        refine HF1.out.mono ?_
        rintro e w2 ⟨rc, vc, rfl, hrc, k2, kb, g2⟩
        have HC2 := Lib.hid k2
        have HG2 := Lib.hid (grown_trans HG1.out g2)
        have HO2 := Lib.hid (HO1.out.grow g2)
        have HE2 := Lib.hid (entries_ok HC2.out (by omega))
        have hg2 := g2.size
        clear k2 kb g2 HF1 HO1 HG1
        go_wp2_with fail
        refine HE2.out.mono ?_
        rintro e w3 ⟨u3, rfl, k3, g3⟩
        obtain ⟨a3, c3, hvf⟩ := OwnOf.form k3
        subst hvf
        have HS3 := Lib.hid k3
        have HC3 := Lib.hid (HC2.out.grow g3)
        have HO3 := Lib.hid (HO2.out.grow g3)
        have HG3 := Lib.hid (grown_trans HG2.out g3)
        have HB3 := Lib.hid (HBx.out.grow HG3.out)
        have HA3 := Lib.hid (HAc.out w3 HG3.out)
        have hg3 := g3.size
        clear k3 g3 HE2 HC2 HO2 HG2
        obtain ⟨b0, b1, b2, b3, b4, b5, b6, b7, b8, b9, b10, b11, b12, b13, b14⟩ := HB3.out.at
        simp only [Nat.zero_add] at b0 b1 b2 b3 b4 b5 b6 b7 b8 b9 b10 b11 b12 b13 b14
        go_wp2_with fail
        refine HA3.out.mono ?_
        rintro e w4 ⟨r', u4, v', rfl, -, k2, k3, k5, -, t4⟩
        have hlow : ∀ b, b ∈ r :: blkL v → b < wr.heap.size := HV.out.rv
        have HGD := Lib.hid (turn_up (grown_trans HG.out (grown_trans HGb.out HG3.out)) hr (own_up HV.out hr) t4)
        have HVD := Lib.hid k2
        have HC5 := Lib.hid (HC3.out.past (n := wr.heap.size) t4 (by omega) hlow)
        have HSD := Lib.hid (eown_row (EOwn.past HS3.out t4 fun b hb => by have := hlow b hb; omega))
        have HOD := Lib.hid (eown_row (EOwn.past HO3.out t4 fun b hb => by have := hlow b hb; omega))
        have hr2 : W.heap.size ≤ r' := by
          rcases k3 with e | e
          · omega
          · have := HG.out.size
            omega
        clear k2 k3 t4 b0 b1 b2 b3 b4 b5 b6 b7 b8 b9 b10 b11 b12 b13 b14 HA3 HB3 HC3 HS3 HO3 HAc HV HVb hlow
        by_cases he : N.err = 0
        · have a0 : (N.err != 0) = false := by simpa using he
          have a1 : (N.err == 0) = true := by simpa using he
          clear HOD k5 hNe hNk
          have HE5 := Lib.hid (entries_ok HC5.out (by omega))
          go_wp2_with fail
          refine HE5.out.mono ?_
          rintro e w5 ⟨u5, rfl, k5, g5⟩
          obtain ⟨a5, c5, hvf⟩ := OwnOf.form k5
          subst hvf
          have HG5 := Lib.hid (grown_trans HGD.out g5)
          have HV5 := Lib.hid (HVD.out.grow g5)
          have HS5 := Lib.hid (same_ok c5 c3 (eown_row k5) (erow_grow HSD.out g5) (by omega) true (by simp))
          clear k5 g5 HE5
          go_wp2_with fail
          refine HS5.out.mono ?_
          rintro e w6 ⟨rfl, g6⟩
          have HGE := Lib.hid (grown_trans HG5.out g6)
          have HV6 := Lib.hid (HV5.out.grow g6)
          have HEn7 := Lib.hid (fun (W' : World) (g : w6.grownBy W' none) => entries_ok (HV6.out.grow g) (by omega))
          clear g6 HS5 HG5 HV5 HGD HVD HSD
          have HE7 := Lib.hid (HEn7.out _ (grown_refl _ none))
          go_wp2_with fail
          refine HE7.out.mono ?_
          rintro e w7 ⟨u7, rfl, k7, g7⟩
          obtain ⟨a7, c7, hvf⟩ := OwnOf.form k7
          subst hvf
          have HG7 := Lib.hid (grown_trans HGE.out g7)
          have HR7 := Lib.hid (HRt.out w7 a7 c7 (eown_row k7))
          have HL7 := Lib.hid (eown_row k7)
          have HV7 := Lib.hid (HV6.out.grow g7)
          clear k7 g7 HE7
          go_wp2_with fail
          refine HR7.out.mono ?_
          rintro e w8 ⟨rfl, g8⟩
          have HG8 := Lib.hid (grown_trans HG7.out g8)
          have HM8 := Lib.hid (HMg.out w8 a7 c7 (erow_grow HL7.out g8))
          have HV8 := Lib.hid (HV7.out.grow g8)
          clear g8
          go_wp2_with fail
          refine HM8.out.mono ?_
          rintro e w9 ⟨u9, rfl, k9, g9⟩
          obtain ⟨a9, c9, hvf⟩ := OwnOf.form k9
          subst hvf
          have HG9 := Lib.hid (grown_trans HG8.out g9)
          have HV9 := Lib.hid (HV8.out.grow g9)
          clear k9 g9
          go_wp2_with fail
          go_roundw
          case rel => exact ⟨q + 1, r', v', by omega, rfl, by go_num, hr2, by rw [HFt.out]; exact HV9, HG9⟩
          case measure => simp [intOf]; omega

        · have a0 : (N.err != 0) = true := by simpa using he
          have a1 : (N.err == 0) = false := by simpa using he
          obtain rfl : r' = r := k5 (hNk he)
          have hNL : N.l = L := by rw [hNe he]
          rw [hNL] at HVD HFt HRt HMg hnn hnn2 hNl
          clear hNL
          have HEx := Lib.hid (entries_ok HVD.out (by omega))
          clear k5 hNe hNk
          go_wp2_with fail
          refine HEx.out.mono ?_
          rintro e x5 ⟨y5, rfl, k5, g5⟩
          obtain ⟨z5, d5, hvf⟩ := OwnOf.form k5
          subst hvf
          have HGx := Lib.hid (grown_trans HGD.out g5)
          have HVx := Lib.hid (HVD.out.grow g5)
          have HCx := Lib.hid (HC5.out.grow g5)
          have HSx := Lib.hid (erow_grow HSD.out g5)
          have HZ := Lib.hid (same_ok d5 c1 (eown_row k5) (erow_grow HOD.out g5) (by omega) true (by simp))
          clear k5 g5 HEx HGD HVD HC5 HSD HOD
          go_wp2_with fail
          refine HZ.out.mono ?_
          rintro e x6 ⟨rfl, g6⟩
          have HGD := Lib.hid (grown_trans HGx.out g6)
          have HVD := Lib.hid (HVx.out.grow g6)
          have HC5 := Lib.hid (HCx.out.grow g6)
          have HSD := Lib.hid (erow_grow HSx.out g6)
          clear g6 HZ HGx HVx HCx HSx
          have HE5 := Lib.hid (entries_ok HC5.out (by omega))
          go_wp2_with fail
          refine HE5.out.mono ?_
          rintro e w5 ⟨u5, rfl, k5, g5⟩
          obtain ⟨a5, c5, hvf⟩ := OwnOf.form k5
          subst hvf
          have HG5 := Lib.hid (grown_trans HGD.out g5)
          have HV5 := Lib.hid (HVD.out.grow g5)
          have HS5 := Lib.hid (same_ok c5 c3 (eown_row k5) (erow_grow HSD.out g5) (by omega) true (by simp))
          clear k5 g5 HE5
          go_wp2_with fail
          refine HS5.out.mono ?_
          rintro e w6 ⟨rfl, g6⟩
          have HGE := Lib.hid (grown_trans HG5.out g6)
          have HV6 := Lib.hid (HV5.out.grow g6)
          have HEn7 := Lib.hid (fun (W' : World) (g : w6.grownBy W' none) => entries_ok (HV6.out.grow g) (by omega))
          clear g6 HS5 HG5 HV5 HGD HVD HSD
          have HE7 := Lib.hid (HEn7.out _ (grown_refl _ none))
          go_wp2_with fail
          refine HE7.out.mono ?_
          rintro e w7 ⟨u7, rfl, k7, g7⟩
          obtain ⟨a7, c7, hvf⟩ := OwnOf.form k7
          subst hvf
          have HG7 := Lib.hid (grown_trans HGE.out g7)
          have HR7 := Lib.hid (HRt.out w7 a7 c7 (eown_row k7))
          have HL7 := Lib.hid (eown_row k7)
          have HV7 := Lib.hid (HV6.out.grow g7)
          clear k7 g7 HE7
          go_wp2_with fail
          refine HR7.out.mono ?_
          rintro e w8 ⟨rfl, g8⟩
          have HG8 := Lib.hid (grown_trans HG7.out g8)
          have HM8 := Lib.hid (HMg.out w8 a7 c7 (erow_grow HL7.out g8))
          have HV8 := Lib.hid (HV7.out.grow g8)
          clear g8
          go_wp2_with fail
          refine HM8.out.mono ?_
          rintro e w9 ⟨u9, rfl, k9, g9⟩
          obtain ⟨a9, c9, hvf⟩ := OwnOf.form k9
          subst hvf
          have HG9 := Lib.hid (grown_trans HG8.out g9)
          have HV9 := Lib.hid (HV8.out.grow g9)
          clear k9 g9
          go_wp2_with fail
          go_roundw
          case rel => exact ⟨q + 1, r', v', by omega, rfl, by go_num, hr2, by rw [HFt.out]; exact HV9, HG9⟩
          case measure => simp [intOf]; omega

      · obtain rfl : q = l := by omega
        go_wp2_with fail
        refine (HLv.out _).mono ?_
        rintro e w2 ⟨rfl, g2⟩
        have HG2 := Lib.hid (grown_trans HG.out g2)
        clear g2
        go_wp2_with fail
        go_ret
        exact ⟨rfl, HG2.out⟩

theorem right_say (W : World) (s : Option Addr) (l c : Nat) (As : List VAct) (hA : VActsAre W s l As) :
    Calls Try.prog 4 #[.slice s l c] W fun e w' => e = .returned (.bool true) ∧ Below W.heap.size W w' :=
  said (right_walk W s l c As hA)
end Go.Proofs.Ytamkmmhjmpjibaa
