/- VmapForks, walked out of what package vmap says. Written by wip/genvlaw.py and what is behind it. -/
import Derived.Test.YtamkmmhjmpjibaaVmpSay
import Derived.OwnWalk
namespace Go.Proofs.Ytamkmmhjmpjibaa
open Go.ChangeShapes Go.WideShapes Go.ChangeAt Go.RowKit Go.Deep
set_option linter.unusedVariables false
set_option linter.unusedSimpArgs false
set_option linter.unusedSimpArgs false

/-- What the law asks of an entry that a page has and its child's: written out. -/
theorem at_good {L : List En} {b0 pg : Int} {x : En} (h : RF b0 L) (hx : atV L pg = some x) : GoodE x := rf_at h (at_mem hx).1
set_option maxRecDepth 100000 in
set_option maxHeartbeats 16000000 in
theorem forks_walk (W : World) (s : Option Addr) (l c : Nat) (As : List VAct) (hA : VActsAre W s l As) (pg : Int) :
    Calls Try.prog 6 #[.slice s l c, .int .i64 pg] W fun e w' => e = .returned (.bool true) ∧ W.grownBy w' none := by
  have HAs := Lib.hid hA
  have HLv := Lib.hid (fun wx => lives_ok wx)
  have HNw := Lib.hid (fun wx => new_ok wx)
  by_cases hl : 60 < l
  · have b0 : decide ((l : Int) > 60) = true := decide_eq_true (by omega)
    clear hA
    go_enter Try.func6, Try.ntmps6
    go_wp2_with fail
    refine (HLv.out _).mono ?_
    rintro e w1 ⟨rfl, g1⟩
    have HG1 := Lib.hid g1
    clear g1
    go_wp2_with fail
    go_ret
    exact ⟨rfl, HG1.out⟩
  · have b0 : decide ((l : Int) > 60) = false := decide_eq_false (by omega)
    have HBs := Lib.hid (grown_refl W none)
    clear hA
    go_enter Try.func6, Try.ntmps6
    go_wp2_with fail
    refine (HNw.out _).mono ?_
    rintro e w1 ⟨rfl, k1, g1⟩
    have HSt := Lib.hid (Nat.le_refl W.heap.size)
    have HI := Lib.hid (show VM w1 W.heap.size (.slice none 0 0) (foldV [] (As.take 0)) from k1)
    have HG1 := Lib.hid g1
    clear k1 g1
    go_wp2_with fail
    go_loopw [5, 20] (fun mv iv wr => ∃ (q r : Nat) (v : Value), q ≤ l ∧ mv = .pointer (some ⟨r, 0, none⟩) ∧ iv = .int .i64 q ∧ W.heap.size ≤ r ∧ Hid (VM wr r v (foldV [] (As.take q))) ∧ Hid (W.grownBy wr none)) (fun _ iv _ => l - (intOf iv).toNat)
    case atStart => exact ⟨0, _, _, by omega, rfl, rfl, HSt.out, HI, HG1⟩
    case round =>
      clear HI HG1 HSt
      obtain ⟨q, r, v, hq, rfl, rfl, hr, HV, HG⟩ := hrel
      by_cases hlt : q < l
      · obtain ⟨A, hAq⟩ : ∃ A, As[q]? = some A := ⟨_, List.getElem?_eq_getElem (by rw [HAs.out.len]; exact hlt)⟩
        obtain ⟨b, o, hs, hc⟩ := HAs.out.at (grown_trans HBs.out HG.out) hAq
        subst hs
        obtain ⟨c0, c1, c2, c3, c4, c5, c6, c7, c8, c9, c10, c11, c12, c13, c14⟩ := hc
        have HFt := Lib.hid (fold_take16 [] hAq)
        obtain ⟨hM, hMl⟩ := fold_did (As.take q) mapL_nil
        have hMl2 : (foldV [] (As.take q)).length ≤ 900 := by
          rw [List.length_take] at hMl
          simp at hMl
          omega
        have HGb := Lib.hid (World.grownBy_alloc wr (.cells #[.int .i64 A.k, .int .i64 A.lo, .int .i64 A.n, .int .i64 A.how, .int .i64 A.x.s, .int .i64 A.x.e, .int .i64 A.x.f, .int .i64 A.x.o, .bool A.x.sh, .int .i64 A.x.p, .int .i64 A.x.m, .int .i64 A.x.i, .int .i64 A.x.a, .bool A.x.wi, .bool A.on] 33) none)
        have HVb := Lib.hid (HV.out.grow HGb.out)
        have HAc := Lib.hid (act_ok HVb.out hM hMl2 A (HAs.out.ok A (List.mem_of_getElem? hAq)))
        clear hAq hM hMl hMl2
        go_wp2_with fail
        refine HAc.out.mono ?_
        rintro e w2 ⟨r', u, v', rfl, -, k2, k3, -, k4, t2⟩
        have HV2 := Lib.hid k2
        have HG2 := Lib.hid (turn_up (grown_trans HG.out HGb.out) hr (own_up HV.out hr) t2)
        have hr2 : W.heap.size ≤ r' := by
          rcases k3 with e | e
          · omega
          · have := HG.out.size
            have := HGb.out.size
            omega
        clear k2 k3 k4 t2 c0 c1 c2 c3 c4 c5 c6 c7 c8 c9 c10 c11 c12 c13 c14
        go_wp2_with fail
        go_roundw
        case rel => exact ⟨q + 1, r', v', by omega, rfl, by go_num, hr2, by rw [HFt.out]; exact HV2, HG2⟩
        case measure => simp [intOf]; omega
      · obtain rfl : q = l := by omega
        have HVf := HV.out
        rw [List.take_of_length_le (by rw [HAs.out.len]; exact Nat.le_refl _)] at HVf
        obtain ⟨hM, hMl⟩ := fold_did As mapL_nil
        simp only [List.length_nil, HAs.out.len] at hMl
        obtain ⟨Lm, hLm⟩ : ∃ Lm, foldV [] As = Lm := ⟨_, rfl⟩
        rw [hLm] at HVf hM hMl
        have HVL := Lib.hid HVf
        have HM := Lib.hid hM
        have hLl : Lm.length ≤ 200 := by omega
        clear HVf hM hMl HV hLm HNw
        have HFk := Lib.hid (fork_ok HVL.out HM.out (by omega))
        have HAt := Lib.hid (fun W' (g : wr.grownBy W' none) x hx d hd => at_ok (HVL.out.grow g) HM.out.rf (by omega) pg x hx d hd)
        have hMf := mapL_fork HM.out
        have hfl := fork_len Lm
        have hfa := fork_at HM.out pg
        have hgd := fun x (hx : atV Lm pg = some x) => at_good HM.out.rf hx
        have hgd2 := fun y (hy : atV (forkV Lm) pg = some y) => at_good hMf.rf hy
        obtain ⟨Lc, hLc⟩ : ∃ Lc, forkV Lm = Lc := ⟨_, rfl⟩
        rw [hLc] at HFk hMf hfl hfa hgd2
        have HMf := Lib.hid hMf
        have hrt : rightB Lc = true := (right_iff Lc).2 hMf.rf
        have HRt := Lib.hid (fun (W' : World) s' c' (h : ERow W' (.slice s' Lc.length c') Lc) => right_ok c' h (fun x hx => (rf_good hMf.rf x hx).1.ok) (by omega))
        have HMg := Lib.hid (fun (W' : World) s' c' (h : ERow W' (.slice s' Lc.length c') Lc) => merge_ok c' h hMf.rf (by omega))
        rw [hrt] at HRt
        rw [hMf.mg] at HMg
        clear hMf hrt hLc
        go_wp2_with fail
        refine HFk.out.mono ?_
        rintro e w3 ⟨rc, vc, rfl, hrc, k2, -, g3⟩
        have HVc := Lib.hid k2
        have HG3 := Lib.hid (grown_trans HG.out g3)
        have hg3 := Lib.hid g3
        have HAc := Lib.hid (fun W' (g : w3.grownBy W' none) y hy d hd => at_ok (HVc.out.grow g) HMf.out.rf (by omega) pg y hy d hd)
        clear k2 g3
        obtain ⟨x, hx⟩ : ∃ x, atE Lm pg = x := ⟨_, rfl⟩
        obtain ⟨d, hd⟩ : ∃ d, (atV Lm pg).isSome = d := ⟨_, rfl⟩
        obtain ⟨y, hy⟩ : ∃ y, atE Lc pg = y := ⟨_, rfl⟩
        obtain ⟨f, hf⟩ : ∃ f, (atV Lc pg).isSome = f := ⟨_, rfl⟩
        have HA1 := Lib.hid (HAt.out w3 hg3.out x hx d hd)
        go_wp2_with fail
        refine HA1.out.mono ?_
        rintro e w4 ⟨rfl, g4⟩
        have HG4 := Lib.hid (grown_trans HG3.out g4)
        have HBx := Lib.hid (EnB.new w4 x)
        have HGx := Lib.hid (World.grownBy_alloc w4 (.cells #[.int .i64 x.s, .int .i64 x.e, .int .i64 x.f, .int .i64 x.o, .bool x.sh, .int .i64 x.p, .int .i64 x.m, .int .i64 x.i, .int .i64 x.a, .bool x.wi] 31) none)
        have HA2 := Lib.hid (HAc.out _ (grown_trans g4 HGx.out) y hy f hf)
        have hg4 := Lib.hid g4
        clear g4
        go_wp2_with fail
        refine HA2.out.mono ?_
        rintro e w5 ⟨rfl, g5⟩
        have HG5 := Lib.hid (grown_trans HG4.out (grown_trans HGx.out g5))
        have HBy := Lib.hid (EnB.new w5 y)
        have HGy := Lib.hid (World.grownBy_alloc w5 (.cells #[.int .i64 y.s, .int .i64 y.e, .int .i64 y.f, .int .i64 y.o, .bool y.sh, .int .i64 y.p, .int .i64 y.m, .int .i64 y.i, .int .i64 y.a, .bool y.wi] 31) none)
        have HBx2 := Lib.hid ((HBx.out.grow g5).grow HGy.out)
        have HVe := Lib.hid (HVc.out.grow (grown_trans hg4.out (grown_trans HGx.out (grown_trans g5 HGy.out))))
        have HG6 := Lib.hid (grown_trans HG5.out HGy.out)
        have HEn := Lib.hid (fun W' (g : (w5.alloc (.cells #[.int .i64 y.s, .int .i64 y.e, .int .i64 y.f, .int .i64 y.o, .bool y.sh, .int .i64 y.p, .int .i64 y.m, .int .i64 y.i, .int .i64 y.a, .bool y.wi] 31)).grownBy W' none) => entries_ok (HVe.out.grow g) (by omega))
        obtain ⟨x0, x1, x2, x3, x4, x5, x6, x7, x8, x9⟩ := HBx2.out.all
        obtain ⟨y0, y1, y2, y3, y4, y5, y6, y7, y8, y9⟩ := HBy.out.all
        clear g5 HA1 HA2 HAt HAc HFk
        cases hat : atV Lm pg with
        | none =>
          rw [hat] at hd hfa
          simp only at hfa
          rw [hfa] at hf
          subst hd hf
          clear hx hy hgd hgd2 hfa hat
          go_wp2_with fail
          refine (HEn.out _ (grown_refl _ none)).mono ?_
          rintro e w7 ⟨u7, rfl, k7, g7⟩
          obtain ⟨a7, c7, hvf⟩ := OwnOf.form k7
          subst hvf
          have HG7 := Lib.hid (grown_trans HG6.out g7)
          have hgg7 := Lib.hid g7
          have HR7 := Lib.hid (HRt.out w7 a7 c7 (eown_row k7))
          clear k7 g7
          go_wp2_with fail
          refine HR7.out.mono ?_
          rintro e w8 ⟨rfl, g8⟩
          have HG8 := Lib.hid (grown_trans HG7.out g8)
          have hgg8 := Lib.hid (grown_trans hgg7.out g8)
          have HE8 := Lib.hid (HEn.out w8 hgg8.out)
          clear g8
          go_wp2_with fail
          refine HE8.out.mono ?_
          rintro e w9 ⟨u9, rfl, k9, g9⟩
          obtain ⟨a9, c9, hvf⟩ := OwnOf.form k9
          subst hvf
          have HG9 := Lib.hid (grown_trans HG8.out g9)
          have hgg9 := Lib.hid (grown_trans hgg8.out g9)
          have HM9 := Lib.hid (HMg.out w9 a9 c9 (eown_row k9))
          clear k9 g9
          go_wp2_with fail
          refine HM9.out.mono ?_
          rintro e w10 ⟨u10, rfl, k10, g10⟩
          obtain ⟨a10, c10, hvf⟩ := OwnOf.form k10
          subst hvf
          have HG10 := Lib.hid (grown_trans HG9.out g10)
          have hgg10 := Lib.hid (grown_trans hgg9.out g10)
          have HE10 := Lib.hid (HEn.out w10 hgg10.out)
          clear k10 g10
          go_wp2_with fail
          refine HE10.out.mono ?_
          rintro e w11 ⟨u11, rfl, k11, g11⟩
          obtain ⟨a11, c11, hvf⟩ := OwnOf.form k11
          subst hvf
          have HG11 := Lib.hid (grown_trans HG10.out g11)
          clear k11 g11
          go_wp2_with fail
          refine (HLv.out w11).mono ?_
          rintro e w12 ⟨rfl, g12⟩
          have HG12 := Lib.hid (grown_trans HG11.out g12)
          clear g12
          go_wp2_with fail
          go_ret
          exact ⟨rfl, HG12.out⟩

        | some z =>
          have hzx : z = x := by rw [← hx]; unfold atE; rw [hat]; rfl
          subst hzx
          rw [hat] at hd hfa
          simp only at hfa
          by_cases hi : z.i = 2
          · rw [if_pos hi] at hfa
            rw [hfa] at hf
            subst hd hf
            have b1 : (z.i == 2) = true := by simpa using hi
            clear hx hy hgd hgd2 hfa hat hi
            go_wp2_with fail
            refine (HEn.out _ (grown_refl _ none)).mono ?_
            rintro e w7 ⟨u7, rfl, k7, g7⟩
            obtain ⟨a7, c7, hvf⟩ := OwnOf.form k7
            subst hvf
            have HG7 := Lib.hid (grown_trans HG6.out g7)
            have hgg7 := Lib.hid g7
            have HR7 := Lib.hid (HRt.out w7 a7 c7 (eown_row k7))
            clear k7 g7
            go_wp2_with fail
            refine HR7.out.mono ?_
            rintro e w8 ⟨rfl, g8⟩
            have HG8 := Lib.hid (grown_trans HG7.out g8)
            have hgg8 := Lib.hid (grown_trans hgg7.out g8)
            have HE8 := Lib.hid (HEn.out w8 hgg8.out)
            clear g8
            go_wp2_with fail
            refine HE8.out.mono ?_
            rintro e w9 ⟨u9, rfl, k9, g9⟩
            obtain ⟨a9, c9, hvf⟩ := OwnOf.form k9
            subst hvf
            have HG9 := Lib.hid (grown_trans HG8.out g9)
            have hgg9 := Lib.hid (grown_trans hgg8.out g9)
            have HM9 := Lib.hid (HMg.out w9 a9 c9 (eown_row k9))
            clear k9 g9
            go_wp2_with fail
            refine HM9.out.mono ?_
            rintro e w10 ⟨u10, rfl, k10, g10⟩
            obtain ⟨a10, c10, hvf⟩ := OwnOf.form k10
            subst hvf
            have HG10 := Lib.hid (grown_trans HG9.out g10)
            have hgg10 := Lib.hid (grown_trans hgg9.out g10)
            have HE10 := Lib.hid (HEn.out w10 hgg10.out)
            clear k10 g10
            go_wp2_with fail
            refine HE10.out.mono ?_
            rintro e w11 ⟨u11, rfl, k11, g11⟩
            obtain ⟨a11, c11, hvf⟩ := OwnOf.form k11
            subst hvf
            have HG11 := Lib.hid (grown_trans HG10.out g11)
            clear k11 g11
            go_wp2_with fail
            refine (HLv.out w11).mono ?_
            rintro e w12 ⟨rfl, g12⟩
            have HG12 := Lib.hid (grown_trans HG11.out g12)
            clear g12
            go_wp2_with fail
            go_ret
            exact ⟨rfl, HG12.out⟩

          · rw [if_neg hi] at hfa
            obtain ⟨y', hy1, e1, e2, e3, e4, e5, e6, e7⟩ := hfa
            have hyy : y' = y := by rw [← hy]; unfold atE; rw [hy1]; rfl
            subst hyy
            rw [hy1] at hf
            subst hd hf
            have g1 := hgd z hat
            have g2 := hgd2 y' hy1
            have b1 : (z.i == 2) = false := by simpa using hi
            have b3 : (z.i != 2) = true := by unfold bne; rw [b1]; rfl
            have n1 := g1.o0
            have n2 := g1.s0
            have n3 := g1.e1
            have n4 := g1.lt
            have n5 := g2.o0
            have n6 := g2.s0
            have n7 := g2.e1
            have n8 := g2.lt
            obtain ⟨ys, ye, yf, yo, ysh, yp, ym, yi, ya, ywi⟩ := y'
            simp only at *
            subst e1 e2 e3 e4 e5 e6
            by_cases hfp : z.f > 0
            · have b2 : decide (z.f > 0) = true := decide_eq_true hfp
              have n9 : z.o ≤ 4096 := by have := g1.oe hfp; omega
              have e8 := e7 hfp
              have n10 : yo ≤ 8192 + 67108864 := by omega
              clear hx hy hgd hgd2 hat hi g1 g2 e7 hy1
              go_wp2_with fail
              refine (HEn.out _ (grown_refl _ none)).mono ?_
              rintro e w7 ⟨u7, rfl, k7, g7⟩
              obtain ⟨a7, c7, hvf⟩ := OwnOf.form k7
              subst hvf
              have HG7 := Lib.hid (grown_trans HG6.out g7)
              have hgg7 := Lib.hid g7
              have HR7 := Lib.hid (HRt.out w7 a7 c7 (eown_row k7))
              clear k7 g7
              go_wp2_with fail
              refine HR7.out.mono ?_
              rintro e w8 ⟨rfl, g8⟩
              have HG8 := Lib.hid (grown_trans HG7.out g8)
              have hgg8 := Lib.hid (grown_trans hgg7.out g8)
              have HE8 := Lib.hid (HEn.out w8 hgg8.out)
              clear g8
              go_wp2_with fail
              refine HE8.out.mono ?_
              rintro e w9 ⟨u9, rfl, k9, g9⟩
              obtain ⟨a9, c9, hvf⟩ := OwnOf.form k9
              subst hvf
              have HG9 := Lib.hid (grown_trans HG8.out g9)
              have hgg9 := Lib.hid (grown_trans hgg8.out g9)
              have HM9 := Lib.hid (HMg.out w9 a9 c9 (eown_row k9))
              clear k9 g9
              go_wp2_with fail
              refine HM9.out.mono ?_
              rintro e w10 ⟨u10, rfl, k10, g10⟩
              obtain ⟨a10, c10, hvf⟩ := OwnOf.form k10
              subst hvf
              have HG10 := Lib.hid (grown_trans HG9.out g10)
              have hgg10 := Lib.hid (grown_trans hgg9.out g10)
              have HE10 := Lib.hid (HEn.out w10 hgg10.out)
              clear k10 g10
              go_wp2_with fail
              refine HE10.out.mono ?_
              rintro e w11 ⟨u11, rfl, k11, g11⟩
              obtain ⟨a11, c11, hvf⟩ := OwnOf.form k11
              subst hvf
              have HG11 := Lib.hid (grown_trans HG10.out g11)
              clear k11 g11
              go_wp2_with fail
              refine (HLv.out w11).mono ?_
              rintro e w12 ⟨rfl, g12⟩
              have HG12 := Lib.hid (grown_trans HG11.out g12)
              clear g12
              go_wp2_with fail
              go_ret
              exact ⟨rfl, HG12.out⟩

            · have b2 : decide (z.f > 0) = false := decide_eq_false hfp
              clear hx hy hgd hgd2 hat hi g1 g2 e7 hy1
              go_wp2_with fail
              refine (HEn.out _ (grown_refl _ none)).mono ?_
              rintro e w7 ⟨u7, rfl, k7, g7⟩
              obtain ⟨a7, c7, hvf⟩ := OwnOf.form k7
              subst hvf
              have HG7 := Lib.hid (grown_trans HG6.out g7)
              have hgg7 := Lib.hid g7
              have HR7 := Lib.hid (HRt.out w7 a7 c7 (eown_row k7))
              clear k7 g7
              go_wp2_with fail
              refine HR7.out.mono ?_
              rintro e w8 ⟨rfl, g8⟩
              have HG8 := Lib.hid (grown_trans HG7.out g8)
              have hgg8 := Lib.hid (grown_trans hgg7.out g8)
              have HE8 := Lib.hid (HEn.out w8 hgg8.out)
              clear g8
              go_wp2_with fail
              refine HE8.out.mono ?_
              rintro e w9 ⟨u9, rfl, k9, g9⟩
              obtain ⟨a9, c9, hvf⟩ := OwnOf.form k9
              subst hvf
              have HG9 := Lib.hid (grown_trans HG8.out g9)
              have hgg9 := Lib.hid (grown_trans hgg8.out g9)
              have HM9 := Lib.hid (HMg.out w9 a9 c9 (eown_row k9))
              clear k9 g9
              go_wp2_with fail
              refine HM9.out.mono ?_
              rintro e w10 ⟨u10, rfl, k10, g10⟩
              obtain ⟨a10, c10, hvf⟩ := OwnOf.form k10
              subst hvf
              have HG10 := Lib.hid (grown_trans HG9.out g10)
              have hgg10 := Lib.hid (grown_trans hgg9.out g10)
              have HE10 := Lib.hid (HEn.out w10 hgg10.out)
              clear k10 g10
              go_wp2_with fail
              refine HE10.out.mono ?_
              rintro e w11 ⟨u11, rfl, k11, g11⟩
              obtain ⟨a11, c11, hvf⟩ := OwnOf.form k11
              subst hvf
              have HG11 := Lib.hid (grown_trans HG10.out g11)
              clear k11 g11
              go_wp2_with fail
              refine (HLv.out w11).mono ?_
              rintro e w12 ⟨rfl, g12⟩
              have HG12 := Lib.hid (grown_trans HG11.out g12)
              clear g12
              go_wp2_with fail
              go_ret
              exact ⟨rfl, HG12.out⟩

theorem forks_say (W : World) (s : Option Addr) (l c : Nat) (As : List VAct) (hA : VActsAre W s l As) (pg : Int) :
    Calls Try.prog 6 #[.slice s l c, .int .i64 pg] W fun e w' => e = .returned (.bool true) ∧ Below W.heap.size W w' :=
  said (forks_walk W s l c As hA pg)
end Go.Proofs.Ytamkmmhjmpjibaa
