/- VmapPages, walked out of what package vmap says. Written by wip/genvlaw.py and what is behind it. -/
import Derived.Test.YtamkmmhjmpjibaaVmpPagesP
import Derived.OwnWalk
namespace Go.Proofs.Ytamkmmhjmpjibaa
open Go.ChangeShapes Go.WideShapes Go.ChangeAt Go.RowKit Go.Deep
set_option linter.unusedVariables false
set_option linter.unusedSimpArgs false
set_option linter.unusedSimpArgs false

set_option maxRecDepth 100000 in
set_option maxHeartbeats 32000000 in
theorem pages_walk (W : World) (s : Option Addr) (l c : Nat) (As : List VAct) (hA : VActsAre W s l As) (B : VAct) (pg : Int) (hB : B.Ok) (hpg : okI pg) :
    Calls Try.prog 5 #[.slice s l c, .agg #[.int .i64 B.k, .int .i64 B.lo, .int .i64 B.n, .int .i64 B.how, .int .i64 B.x.s, .int .i64 B.x.e, .int .i64 B.x.f, .int .i64 B.x.o, .bool B.x.sh, .int .i64 B.x.p, .int .i64 B.x.m, .int .i64 B.x.i, .int .i64 B.x.a, .bool B.x.wi, .bool B.on], .int .i64 pg] W fun e w' => e = .returned (.bool true) ∧ W.grownBy w' none := by
  have HAs := Lib.hid hA
  have HLv := Lib.hid (fun wx => lives_ok wx)
  have HNw := Lib.hid (fun wx => new_ok wx)
  have HO := Lib.hid hB
  have HBs := Lib.hid (World.grownBy_alloc W (.cells #[.int .i64 B.k, .int .i64 B.lo, .int .i64 B.n, .int .i64 B.how, .int .i64 B.x.s, .int .i64 B.x.e, .int .i64 B.x.f, .int .i64 B.x.o, .bool B.x.sh, .int .i64 B.x.p, .int .i64 B.x.m, .int .i64 B.x.i, .int .i64 B.x.a, .bool B.x.wi, .bool B.on] 33) none)
  have HX := Lib.hid (VBox.new W B)
  obtain ⟨X, hX⟩ : ∃ X, W.heap.size = X := ⟨_, rfl⟩
  have hXs : (W.alloc (.cells #[.int .i64 B.k, .int .i64 B.lo, .int .i64 B.n, .int .i64 B.how, .int .i64 B.x.s, .int .i64 B.x.e, .int .i64 B.x.f, .int .i64 B.x.o, .bool B.x.sh, .int .i64 B.x.p, .int .i64 B.x.m, .int .i64 B.x.i, .int .i64 B.x.a, .bool B.x.wi, .bool B.on] 33)).heap.size = X + 1 := by rw [World.size_alloc, hX]
  rw [hX] at HX
  clear hA
  by_cases hl : 60 < l
  · have b0 : decide ((l : Int) > 60) = true := decide_eq_true (by omega)
    go_enter Try.func5, Try.ntmps5
    go_wp2_with fail
    refine (HLv.out _).mono ?_
    rintro e w1 ⟨rfl, g1⟩
    have HG1 := Lib.hid (grown_trans HBs.out g1)
    clear g1
    go_wp2_with fail
    go_ret
    exact ⟨rfl, HG1.out⟩
  · have b0 : decide ((l : Int) > 60) = false := decide_eq_false (by omega)
    by_cases hk1 : B.k < 1
    · have b1 : decide (B.k < 1) = true := decide_eq_true hk1
      go_enter Try.func5, Try.ntmps5
      go_wp2_with fail
      refine (HLv.out _).mono ?_
      rintro e w1 ⟨rfl, g1⟩
      have HG1 := Lib.hid (grown_trans HBs.out g1)
      clear g1
      go_wp2_with fail
      go_ret
      exact ⟨rfl, HG1.out⟩
    · have b1 : decide (B.k < 1) = false := decide_eq_false hk1
      by_cases hk5 : B.k > 5
      · have b2 : decide (B.k > 5) = true := decide_eq_true hk5
        go_enter Try.func5, Try.ntmps5
        go_wp2_with fail
        refine (HLv.out _).mono ?_
        rintro e w1 ⟨rfl, g1⟩
        have HG1 := Lib.hid (grown_trans HBs.out g1)
        clear g1
        go_wp2_with fail
        go_ret
        exact ⟨rfl, HG1.out⟩
      · have b2 : decide (B.k > 5) = false := decide_eq_false hk5
        have h1 : 1 ≤ B.k := by omega
        have h5 : B.k ≤ 5 := by omega
        clear hk1 hk5
        go_enter Try.func5, Try.ntmps5
        go_wp2_with fail
        generalize W.alloc (.cells #[.int .i64 B.k, .int .i64 B.lo, .int .i64 B.n, .int .i64 B.how, .int .i64 B.x.s, .int .i64 B.x.e, .int .i64 B.x.f, .int .i64 B.x.o, .bool B.x.sh, .int .i64 B.x.p, .int .i64 B.x.m, .int .i64 B.x.i, .int .i64 B.x.a, .bool B.x.wi, .bool B.on] 33) = Wb at *
        refine (HNw.out _).mono ?_
        rintro e w1 ⟨rfl, k1, g1⟩
        rw [hXs] at k1
        have HSt := Lib.hid (Nat.le_of_eq hXs)
        have HI := Lib.hid (show VM w1 (X + 1) (.slice none 0 0) (foldV [] (As.take 0)) from k1)
        have HG1 := Lib.hid g1
        clear k1 g1
        go_wp2_with fail
        go_loopw [7, 38] (fun mv iv wr => ∃ (q r : Nat) (v : Value), q ≤ l ∧ mv = .pointer (some ⟨r, 0, none⟩) ∧ iv = .int .i64 q ∧ Wb.heap.size ≤ r ∧ Hid (VM wr r v (foldV [] (As.take q))) ∧ Hid (Wb.grownBy wr none)) (fun _ iv _ => l - (intOf iv).toNat)
        case atStart => exact ⟨0, _, _, by omega, rfl, rfl, HSt.out, HI, HG1⟩
        case round =>
          clear HI HG1 HSt
          obtain ⟨q, r, v, hq, rfl, rfl, hr, HV, HG⟩ := hrel
          by_cases hlt : q < l
          · obtain ⟨A, hAq⟩ : ∃ A, As[q]? = some A := ⟨_, List.getElem?_eq_getElem (by rw [HAs.out.len]; exact hlt)⟩
            obtain ⟨b, o, hs, hc⟩ := HAs.out.at (grown_trans HBs.out HG.out) hAq
            subst hs
            obtain ⟨c0, c1, c2, c3, c4, c5, c6, c7, c8, c9, c10, c11, c12, c13, c14⟩ := hc
            have HFt := Lib.hid (fold_take16 [] hAq)
            obtain ⟨hM, hMl⟩ := fold_did (As.take q) mapL_nil
            have hMl2 : (foldV [] (As.take q)).length ≤ 900 := by
              rw [List.length_take] at hMl
              simp at hMl
              omega
            have HGb := Lib.hid (World.grownBy_alloc wr (.cells #[.int .i64 A.k, .int .i64 A.lo, .int .i64 A.n, .int .i64 A.how, .int .i64 A.x.s, .int .i64 A.x.e, .int .i64 A.x.f, .int .i64 A.x.o, .bool A.x.sh, .int .i64 A.x.p, .int .i64 A.x.m, .int .i64 A.x.i, .int .i64 A.x.a, .bool A.x.wi, .bool A.on] 33) none)
            have HVb := Lib.hid (HV.out.grow HGb.out)
            have HAc := Lib.hid (act_ok HVb.out hM hMl2 A (HAs.out.ok A (List.mem_of_getElem? hAq)))
            clear hAq hM hMl hMl2
            go_wp2_with fail
            refine HAc.out.mono ?_
            rintro e w2 ⟨r', u, v', rfl, -, k2, k3, -, k4, t2⟩
            have HV2 := Lib.hid k2
            have HG2 := Lib.hid (turn_up (grown_trans HG.out HGb.out) hr (own_up HV.out hr) t2)
            have hr2 : Wb.heap.size ≤ r' := by
              rcases k3 with e | e
              · omega
              · have := HG.out.size
                have := HGb.out.size
                omega
            clear k2 k3 k4 t2 c0 c1 c2 c3 c4 c5 c6 c7 c8 c9 c10 c11 c12 c13 c14
            go_wp2_with fail
            go_roundw
            case rel => exact ⟨q + 1, r', v', by omega, rfl, by go_num, hr2, by rw [HFt.out]; exact HV2, HG2⟩
            case measure => simp [intOf]; omega
          · obtain rfl : q = l := by omega
            have HVf := HV.out
            rw [List.take_of_length_le (by rw [HAs.out.len]; exact Nat.le_refl _)] at HVf
            obtain ⟨hM, hMl⟩ := fold_did As mapL_nil
            simp only [List.length_nil, HAs.out.len] at hMl
            obtain ⟨Lm, hLm⟩ : ∃ Lm, foldV [] As = Lm := ⟨_, rfl⟩
            rw [hLm] at HVf hM hMl
            have HVL := Lib.hid HVf
            have HM := Lib.hid hM
            have hLl : Lm.length ≤ 200 := by omega
            clear HVf hM hMl HV hLm HNw
            --TAIL
            have HXr := Lib.hid (HX.out.grow HG.out)
            obtain ⟨x, hx⟩ : ∃ x, atE Lm pg = x := ⟨_, rfl⟩
            obtain ⟨d, hd⟩ : ∃ d, (atV Lm pg).isSome = d := ⟨_, rfl⟩
            have HA1 := Lib.hid (at_ok HVL.out HM.out.rf (by omega) pg x hx d hd)
            obtain ⟨hMN, hNl, hNg, hNr, hNe⟩ := step_did HM.out B
            obtain ⟨y, hy⟩ : ∃ y, atE (stepV Lm B).l pg = y := ⟨_, rfl⟩
            obtain ⟨f, hf⟩ : ∃ f, (atV (stepV Lm B).l pg).isSome = f := ⟨_, rfl⟩
            have HPo := Lib.hid (fun hn => pout HM.out h1 h5 (B := B) (pg := pg) hn hx hd hy hf)
            have HPu := Lib.hid (fun h1 hn => pun HM.out (B := B) h1 (pg := pg) hn hd hf)
            have HPs := Lib.hid (fun h2 hn => pset HM.out h2 h5 (B := B) (pg := pg) hn hx hd hy hf)
            have HRg := Lib.hid (range_of (L := Lm) h1 h5)
            have HIn := Lib.hid (show ∀ q, q = inV Lm B pg → q = ((stepV Lm B).err = 0 ∧ B.lo ≤ pg ∧ pg - B.lo < B.n) from fun q e => e)
            obtain ⟨P, hP⟩ : ∃ P, inV Lm B pg = P := ⟨_, rfl⟩
            rw [hP] at HPo HPu HPs
            have HAc := Lib.hid (fun (W' : World) (g : wr.grownBy W' none) => act_ok (HVL.out.grow g) HM.out (by omega) B HO.out)
            have hIn := HIn.out P hP.symm
            obtain ⟨N, hN⟩ : ∃ N, stepV Lm B = N := ⟨_, rfl⟩
            rw [hN] at HAc hMN hNl hNg hNr hNe HPu HRg hIn hy hf
            have HMN := Lib.hid hMN
            have HNr := Lib.hid hNr
            clear hMN hNr hNe HIn hx hd hP hN
            go_wp2_with fail
            refine HA1.out.mono ?_
            rintro e w3 ⟨rfl, g3⟩
            have HBx := Lib.hid (EnB.new w3 x)
            have HGx := Lib.hid (grown_trans g3 (World.grownBy_alloc w3 (.cells #[.int .i64 x.s, .int .i64 x.e, .int .i64 x.f, .int .i64 x.o, .bool x.sh, .int .i64 x.p, .int .i64 x.m, .int .i64 x.i, .int .i64 x.a, .bool x.wi] 31) none))
            have HX4 := Lib.hid (HXr.out.grow HGx.out)
            have hg3 := g3.size
            have HAd := Lib.hid (HAc.out _ HGx.out)
            obtain ⟨c0, c1, c2, c3, c4, c5, c6, c7, c8, c9, c10, c11, c12, c13, c14⟩ := HX4.out.at
            simp only [Nat.zero_add] at c0 c1 c2 c3 c4 c5 c6 c7 c8 c9 c10 c11 c12 c13 c14
            clear g3 HA1 HAc
            go_wp2_with fail
            refine HAd.out.mono ?_
            rintro e w5 ⟨r', u, v', rfl, k2, k3, -, k4, -, t2⟩
            obtain rfl : r' = r := k4 (by omega)
            obtain ⟨ga, gc, hvf⟩ := OwnOf.form k2
            subst hvf
            have hrlt := HVL.out.lt
            have hob : ∀ b, v.ownBlock = some b → r' < b ∧ b < wr.heap.size := fun b hb => by have := OwnOf.lt HVL.out.own hb; omega
            have HV5 := Lib.hid k3
            have HO5 := Lib.hid k2
            have HG5 := Lib.hid (turn_up (grown_trans HG.out HGx.out) hr (own_up HVL.out hr) t2)
            have HB5 := Lib.hid (HBx.out.turn t2 (fun hm => by
              rcases List.mem_cons.1 hm with e | e
              · omega
              · have := hob _ (mem_blk.1 e); omega))
            have HX5 := Lib.hid (HX4.out.turn t2 (fun hm => by
              rcases List.mem_cons.1 hm with e | e
              · omega
              · have := own_up HVL.out hr _ (mem_blk.1 e); omega))
            clear k2 k3 k4 t2 c0 c1 c2 c3 c4 c5 c6 c7 c8 c9 c10 c11 c12 c13 c14 HAd
            have HA2 := Lib.hid (at_ok HV5.out HMN.out.rf (by omega) pg y hy f hf)
            clear hy hf
            go_wp2_with fail
            refine HA2.out.mono ?_
            rintro e w6 ⟨rfl, g6⟩
            have HG6 := Lib.hid (grown_trans HG5.out g6)
            have hg6 := g6.size
            have hg5 := HG5.out.size
            have HBy := Lib.hid (EnB.new w6 y)
            have HGy := Lib.hid (grown_trans g6 (World.grownBy_alloc w6 (.cells #[.int .i64 y.s, .int .i64 y.e, .int .i64 y.f, .int .i64 y.o, .bool y.sh, .int .i64 y.p, .int .i64 y.m, .int .i64 y.i, .int .i64 y.a, .bool y.wi] 31) none))
            have HB7 := Lib.hid (HB5.out.grow HGy.out)
            have HX7 := Lib.hid (HX5.out.grow HGy.out)
            have HO7 := Lib.hid (HO5.out.grow HGy.out)
            obtain ⟨c0, c1, c2, c3, c4, c5, c6, c7, c8, c9, c10, c11, c12, c13, c14⟩ := HX7.out.at
            simp only [Nat.zero_add] at c0 c1 c2 c3 c4 c5 c6 c7 c8 c9 c10 c11 c12 c13 c14
            obtain ⟨x0, x1, x2, x3, x4, x5, x6, x7, x8, x9⟩ := HB7.out.all
            have f0 := HB7.out.frozen 0
            have f1 := HB7.out.frozen 1
            have f3 := HB7.out.frozen 3
            clear HA2 g6
            have hb5 := HB5.out.lt
            have hx5 := HX5.out.lt
            have hwb := HG.out.size
            have HB8 := Lib.hid (box_same HB7.out y.s y.e y.o)
            have T8 := Lib.hid (same_turn (w6.alloc (.cells #[.int .i64 y.s, .int .i64 y.e, .int .i64 y.f, .int .i64 y.o, .bool y.sh, .int .i64 y.p, .int .i64 y.m, .int .i64 y.i, .int .i64 y.a, .bool y.wi] 31)) w3.heap.size y.s y.e y.o)
            have HY8 := Lib.hid (HBy.out.turn T8.out (by simp; omega))
            have HX8 := Lib.hid (HX7.out.turn T8.out (by simp; omega))
            have HO8 := Lib.hid (EOwn.turned HO7.out T8.out (fun b hb => by have := (OwnOf.lt HO7.out hb).1; rw [World.size_alloc] at this; omega))
            have HG8 := Lib.hid (Turn.noGrown ((Turn.grown (O := [w3.heap.size]) (grown_trans HG6.out (World.grownBy_alloc w6 (.cells #[.int .i64 y.s, .int .i64 y.e, .int .i64 y.f, .int .i64 y.o, .bool y.sh, .int .i64 y.p, .int .i64 y.m, .int .i64 y.i, .int .i64 y.a, .bool y.wi] 31) none))).trans' T8.out) fun b hb => by
              have : b = w3.heap.size := by simpa using hb
              omega)
            clear HG6 HB7 HX7 HO7 HBy HX5 HB5 HBx HX4 HXr HO5 HV5 HVL hob T8
            by_cases he : N.err = 0
            · have a0 : (N.err == 0) = true := by simpa using he
              have a1 : decide (N.err = 0) = true := decide_eq_true he
              obtain ⟨rg1, rg2, rg3, rg4⟩ := range_iff.1 (HRg.out he)
              by_cases hlo : B.lo ≤ pg
              · have a2 : decide (pg ≥ B.lo) = true := decide_eq_true hlo
                by_cases hhi : pg - B.lo < B.n
                · have a3 : decide (pg - B.lo < B.n) = true := decide_eq_true hhi
                  have hp : P := by rw [hIn]; exact ⟨he, hlo, hhi⟩
                  obtain ⟨pg1, pg2⟩ := hpg
                  by_cases hk : B.k = 1
                  · have h1k : B.k = 1 := hk
                    obtain ⟨e1, e2⟩ := HPu.out h1k hp
                    subst e1
                    clear HPo HPu HPs hIn hp HRg
                    go_wp2_with fail
                    go_region
                    generalize ((((w6.alloc (.cells #[.int .i64 y.s, .int .i64 y.e, .int .i64 y.f, .int .i64 y.o, .bool y.sh, .int .i64 y.p, .int .i64 y.m, .int .i64 y.i, .int .i64 y.a, .bool y.wi] 31)).setCell ⟨w3.heap.size, 0, none⟩ (.int .i64 y.s)).setCell ⟨w3.heap.size, 1, none⟩ (.int .i64 y.e)).setCell ⟨w3.heap.size, 3, none⟩ (.int .i64 y.o)).drew = w8 at *
                    clear c0 c1 c2 c3 c4 c5 c6 c7 c8 c9 c10 c11 c12 c13 c14 x0 x1 x2 x3 x4 x5 x6 x7 x8 x9 f0 f1 f3
                    obtain ⟨c0, -, -, -, -, -, -, -, -, -, -, -, -, -, -⟩ := HX8.out.at
                    rw [h1k] at c0
                    obtain ⟨kf, hkf⟩ : ∃ kf, findK N.gone pg = kf := ⟨_, rfl⟩
                    have HF := Lib.hid (find_ok gc (eown_row HO8.out) HNr.out (by omega) pg kf hkf d e2)
                    clear e2 hkf HX8 HB8 HY8
                    go_wp2_with fail
                    refine HF.out.mono ?_
                    rintro e w9 ⟨rfl, g9⟩
                    have HG9 := Lib.hid (grown_trans HG8.out g9)
                    clear g9
                    cases d with
                    | false =>
                      go_wp2_with fail
                      refine (HLv.out _).mono ?_
                      rintro e w10 ⟨rfl, g10⟩
                      have HG10 := Lib.hid (grown_trans HBs.out (grown_trans HG9.out g10))
                      clear g10
                      go_wp2_with fail
                      go_ret
                      exact ⟨rfl, HG10.out⟩
                    | true =>
                      go_wp2_with fail
                      refine (HLv.out _).mono ?_
                      rintro e w10 ⟨rfl, g10⟩
                      have HG10 := Lib.hid (grown_trans HBs.out (grown_trans HG9.out g10))
                      clear g10
                      go_wp2_with fail
                      go_ret
                      exact ⟨rfl, HG10.out⟩

                  · by_cases hk : B.k = 2
                    · obtain ⟨e1, e2, e3⟩ := HPs.out (by omega) hp
                      subst e1 e2
                      unfold setA setV at e3
                      rw [if_pos hk] at e3
                      clear HPo HPu HPs hIn hp HO8 HRg
                      go_wp2_with fail
                      go_region
                      generalize ((((w6.alloc (.cells #[.int .i64 y.s, .int .i64 y.e, .int .i64 y.f, .int .i64 y.o, .bool y.sh, .int .i64 y.p, .int .i64 y.m, .int .i64 y.i, .int .i64 y.a, .bool y.wi] 31)).setCell ⟨w3.heap.size, 0, none⟩ (.int .i64 y.s)).setCell ⟨w3.heap.size, 1, none⟩ (.int .i64 y.e)).setCell ⟨w3.heap.size, 3, none⟩ (.int .i64 y.o)).drew = w8 at *
                      clear c0 c1 c2 c3 c4 c5 c6 c7 c8 c9 c10 c11 c12 c13 c14 x0 x1 x2 x3 x4 x5 x6 x7 x8 x9 f0 f1 f3
                      obtain ⟨c0, -, -, c3, -, -, -, -, -, -, -, -, -, -, c14⟩ := HX8.out.at
                      simp only [Nat.zero_add] at c3 c14
                      rw [hk] at c0
                      have heq := fun wx => eql_en wx ⟨y.s, y.e, x.f, y.o, x.sh, B.how, x.m, x.i, x.a, x.wi⟩ y true (decide_eq_true e3)
                      simp only at heq
                      obtain ⟨x0, x1, x2, x3, x4, x5, x6, x7, x8, x9⟩ := HB8.out.all
                      obtain ⟨y0, y1, y2, y3, y4, y5, y6, y7, y8, y9⟩ := HY8.out.all
                      simp only at x0 x1 x2 x3 x4 x5 x6 x7 x8 x9
                      have f5 := HB8.out.frozen 5
                      have HG8b := Lib.hid (set_new 5 (.int .i64 B.how) HG8.out (show Wb.heap.size ≤ w3.heap.size by omega))
                      have hne : ¬ w3.heap.size = w6.heap.size := by omega
                      have hne2 : ¬ w6.heap.size = w3.heap.size := by omega
                      clear e3 HX8 HB8 HY8
                      go_wp2_with fail
                      refine (HLv.out _).mono ?_
                      rintro e w9 ⟨rfl, g9⟩
                      have HG9 := Lib.hid (grown_trans HBs.out (grown_trans HG8b.out g9))
                      clear g9
                      go_wp2_with fail
                      go_ret
                      exact ⟨rfl, HG9.out⟩

                    · by_cases hk : B.k = 3
                      · obtain ⟨e1, e2, e3⟩ := HPs.out (by omega) hp
                        subst e1 e2
                        unfold setA setV at e3
                        rw [if_neg (by omega), if_pos hk] at e3
                        clear HPo HPu HPs hIn hp HO8 HRg
                        go_wp2_with fail
                        go_region
                        generalize ((((w6.alloc (.cells #[.int .i64 y.s, .int .i64 y.e, .int .i64 y.f, .int .i64 y.o, .bool y.sh, .int .i64 y.p, .int .i64 y.m, .int .i64 y.i, .int .i64 y.a, .bool y.wi] 31)).setCell ⟨w3.heap.size, 0, none⟩ (.int .i64 y.s)).setCell ⟨w3.heap.size, 1, none⟩ (.int .i64 y.e)).setCell ⟨w3.heap.size, 3, none⟩ (.int .i64 y.o)).drew = w8 at *
                        clear c0 c1 c2 c3 c4 c5 c6 c7 c8 c9 c10 c11 c12 c13 c14 x0 x1 x2 x3 x4 x5 x6 x7 x8 x9 f0 f1 f3
                        obtain ⟨c0, -, -, c3, -, -, -, -, -, -, -, -, -, -, c14⟩ := HX8.out.at
                        simp only [Nat.zero_add] at c3 c14
                        rw [hk] at c0
                        have heq := fun wx => eql_en wx ⟨y.s, y.e, x.f, y.o, x.sh, x.p, x.m, B.how, x.a, x.wi⟩ y true (decide_eq_true e3)
                        simp only at heq
                        obtain ⟨x0, x1, x2, x3, x4, x5, x6, x7, x8, x9⟩ := HB8.out.all
                        obtain ⟨y0, y1, y2, y3, y4, y5, y6, y7, y8, y9⟩ := HY8.out.all
                        simp only at x0 x1 x2 x3 x4 x5 x6 x7 x8 x9
                        have f7 := HB8.out.frozen 7
                        have HG8b := Lib.hid (set_new 7 (.int .i64 B.how) HG8.out (show Wb.heap.size ≤ w3.heap.size by omega))
                        have hne : ¬ w3.heap.size = w6.heap.size := by omega
                        have hne2 : ¬ w6.heap.size = w3.heap.size := by omega
                        clear e3 HX8 HB8 HY8
                        go_wp2_with fail
                        refine (HLv.out _).mono ?_
                        rintro e w9 ⟨rfl, g9⟩
                        have HG9 := Lib.hid (grown_trans HBs.out (grown_trans HG8b.out g9))
                        clear g9
                        go_wp2_with fail
                        go_ret
                        exact ⟨rfl, HG9.out⟩

                      · by_cases hk : B.k = 4
                        · obtain ⟨e1, e2, e3⟩ := HPs.out (by omega) hp
                          subst e1 e2
                          unfold setA setV at e3
                          rw [if_neg (by omega), if_neg (by omega), if_pos hk] at e3
                          clear HPo HPu HPs hIn hp HO8 HRg
                          go_wp2_with fail
                          go_region
                          generalize ((((w6.alloc (.cells #[.int .i64 y.s, .int .i64 y.e, .int .i64 y.f, .int .i64 y.o, .bool y.sh, .int .i64 y.p, .int .i64 y.m, .int .i64 y.i, .int .i64 y.a, .bool y.wi] 31)).setCell ⟨w3.heap.size, 0, none⟩ (.int .i64 y.s)).setCell ⟨w3.heap.size, 1, none⟩ (.int .i64 y.e)).setCell ⟨w3.heap.size, 3, none⟩ (.int .i64 y.o)).drew = w8 at *
                          clear c0 c1 c2 c3 c4 c5 c6 c7 c8 c9 c10 c11 c12 c13 c14 x0 x1 x2 x3 x4 x5 x6 x7 x8 x9 f0 f1 f3
                          obtain ⟨c0, -, -, c3, -, -, -, -, -, -, -, -, -, -, c14⟩ := HX8.out.at
                          simp only [Nat.zero_add] at c3 c14
                          rw [hk] at c0
                          have heq := fun wx => eql_en wx ⟨y.s, y.e, x.f, y.o, x.sh, x.p, x.m, x.i, B.how, x.wi⟩ y true (decide_eq_true e3)
                          simp only at heq
                          obtain ⟨x0, x1, x2, x3, x4, x5, x6, x7, x8, x9⟩ := HB8.out.all
                          obtain ⟨y0, y1, y2, y3, y4, y5, y6, y7, y8, y9⟩ := HY8.out.all
                          simp only at x0 x1 x2 x3 x4 x5 x6 x7 x8 x9
                          have f8 := HB8.out.frozen 8
                          have HG8b := Lib.hid (set_new 8 (.int .i64 B.how) HG8.out (show Wb.heap.size ≤ w3.heap.size by omega))
                          have hne : ¬ w3.heap.size = w6.heap.size := by omega
                          have hne2 : ¬ w6.heap.size = w3.heap.size := by omega
                          clear e3 HX8 HB8 HY8
                          go_wp2_with fail
                          refine (HLv.out _).mono ?_
                          rintro e w9 ⟨rfl, g9⟩
                          have HG9 := Lib.hid (grown_trans HBs.out (grown_trans HG8b.out g9))
                          clear g9
                          go_wp2_with fail
                          go_ret
                          exact ⟨rfl, HG9.out⟩

                        · have hk : B.k = 5 := by omega
                          obtain ⟨e1, e2, e3⟩ := HPs.out (by omega) hp
                          subst e1 e2
                          unfold setA setV at e3
                          rw [if_neg (by omega), if_neg (by omega), if_neg (by omega)] at e3
                          clear HPo HPu HPs hIn hp HO8 HRg
                          go_wp2_with fail
                          go_region
                          generalize ((((w6.alloc (.cells #[.int .i64 y.s, .int .i64 y.e, .int .i64 y.f, .int .i64 y.o, .bool y.sh, .int .i64 y.p, .int .i64 y.m, .int .i64 y.i, .int .i64 y.a, .bool y.wi] 31)).setCell ⟨w3.heap.size, 0, none⟩ (.int .i64 y.s)).setCell ⟨w3.heap.size, 1, none⟩ (.int .i64 y.e)).setCell ⟨w3.heap.size, 3, none⟩ (.int .i64 y.o)).drew = w8 at *
                          clear c0 c1 c2 c3 c4 c5 c6 c7 c8 c9 c10 c11 c12 c13 c14 x0 x1 x2 x3 x4 x5 x6 x7 x8 x9 f0 f1 f3
                          obtain ⟨c0, -, -, c3, -, -, -, -, -, -, -, -, -, -, c14⟩ := HX8.out.at
                          simp only [Nat.zero_add] at c3 c14
                          rw [hk] at c0
                          have heq := fun wx => eql_en wx ⟨y.s, y.e, x.f, y.o, x.sh, x.p, x.m, x.i, x.a, B.on⟩ y true (decide_eq_true e3)
                          simp only at heq
                          obtain ⟨x0, x1, x2, x3, x4, x5, x6, x7, x8, x9⟩ := HB8.out.all
                          obtain ⟨y0, y1, y2, y3, y4, y5, y6, y7, y8, y9⟩ := HY8.out.all
                          simp only at x0 x1 x2 x3 x4 x5 x6 x7 x8 x9
                          have f9 := HB8.out.frozen 9
                          have HG8b := Lib.hid (set_new 9 (.bool B.on) HG8.out (show Wb.heap.size ≤ w3.heap.size by omega))
                          have hne : ¬ w3.heap.size = w6.heap.size := by omega
                          have hne2 : ¬ w6.heap.size = w3.heap.size := by omega
                          clear e3 HX8 HB8 HY8
                          go_wp2_with fail
                          refine (HLv.out _).mono ?_
                          rintro e w9 ⟨rfl, g9⟩
                          have HG9 := Lib.hid (grown_trans HBs.out (grown_trans HG8b.out g9))
                          clear g9
                          go_wp2_with fail
                          go_ret
                          exact ⟨rfl, HG9.out⟩

                · have a3 : decide (pg - B.lo < B.n) = false := decide_eq_false hhi
                  obtain ⟨pg1, pg2⟩ := hpg
                  have hn : ¬ P := by rw [hIn]; intro hh; exact hhi hh.2.2
                  obtain ⟨e1, e2⟩ := HPo.out hn
                  clear HPo HPu HPs hIn HO8 HX8 hn HRg
                  go_wp2_with fail
                  go_region
                  generalize ((((w6.alloc (.cells #[.int .i64 y.s, .int .i64 y.e, .int .i64 y.f, .int .i64 y.o, .bool y.sh, .int .i64 y.p, .int .i64 y.m, .int .i64 y.i, .int .i64 y.a, .bool y.wi] 31)).setCell ⟨w3.heap.size, 0, none⟩ (.int .i64 y.s)).setCell ⟨w3.heap.size, 1, none⟩ (.int .i64 y.e)).setCell ⟨w3.heap.size, 3, none⟩ (.int .i64 y.o)).drew = w8 at *
                  clear c0 c1 c2 c3 c4 c5 c6 c7 c8 c9 c10 c11 c12 c13 c14 x0 x1 x2 x3 x4 x5 x6 x7 x8 x9 f0 f1 f3
                  subst e1
                  cases f with
                  | false =>
                    clear e2
                    go_wp2_with fail
                    refine (HLv.out _).mono ?_
                    rintro e w9 ⟨rfl, g9⟩
                    have HG9 := Lib.hid (grown_trans HBs.out (grown_trans HG8.out g9))
                    clear g9
                    go_wp2_with fail
                    go_ret
                    exact ⟨rfl, HG9.out⟩
                  | true =>
                    rw [e2 rfl] at HB8
                    have heq := fun wx => eql_en wx y y true (by simp)
                    obtain ⟨x0, x1, x2, x3, x4, x5, x6, x7, x8, x9⟩ := HB8.out.all
                    obtain ⟨y0, y1, y2, y3, y4, y5, y6, y7, y8, y9⟩ := HY8.out.all
                    clear e2
                    go_wp2_with fail
                    refine (HLv.out _).mono ?_
                    rintro e w9 ⟨rfl, g9⟩
                    have HG9 := Lib.hid (grown_trans HBs.out (grown_trans HG8.out g9))
                    clear g9
                    go_wp2_with fail
                    go_ret
                    exact ⟨rfl, HG9.out⟩

              · have a2 : decide (pg ≥ B.lo) = false := decide_eq_false hlo
                have hn : ¬ P := by rw [hIn]; intro hh; exact hlo hh.2.1
                obtain ⟨e1, e2⟩ := HPo.out hn
                clear HPo HPu HPs hIn HO8 HX8 hn HRg
                go_wp2_with fail
                go_region
                generalize ((((w6.alloc (.cells #[.int .i64 y.s, .int .i64 y.e, .int .i64 y.f, .int .i64 y.o, .bool y.sh, .int .i64 y.p, .int .i64 y.m, .int .i64 y.i, .int .i64 y.a, .bool y.wi] 31)).setCell ⟨w3.heap.size, 0, none⟩ (.int .i64 y.s)).setCell ⟨w3.heap.size, 1, none⟩ (.int .i64 y.e)).setCell ⟨w3.heap.size, 3, none⟩ (.int .i64 y.o)).drew = w8 at *
                clear c0 c1 c2 c3 c4 c5 c6 c7 c8 c9 c10 c11 c12 c13 c14 x0 x1 x2 x3 x4 x5 x6 x7 x8 x9 f0 f1 f3
                subst e1
                cases f with
                | false =>
                  clear e2
                  go_wp2_with fail
                  refine (HLv.out _).mono ?_
                  rintro e w9 ⟨rfl, g9⟩
                  have HG9 := Lib.hid (grown_trans HBs.out (grown_trans HG8.out g9))
                  clear g9
                  go_wp2_with fail
                  go_ret
                  exact ⟨rfl, HG9.out⟩
                | true =>
                  rw [e2 rfl] at HB8
                  have heq := fun wx => eql_en wx y y true (by simp)
                  obtain ⟨x0, x1, x2, x3, x4, x5, x6, x7, x8, x9⟩ := HB8.out.all
                  obtain ⟨y0, y1, y2, y3, y4, y5, y6, y7, y8, y9⟩ := HY8.out.all
                  clear e2
                  go_wp2_with fail
                  refine (HLv.out _).mono ?_
                  rintro e w9 ⟨rfl, g9⟩
                  have HG9 := Lib.hid (grown_trans HBs.out (grown_trans HG8.out g9))
                  clear g9
                  go_wp2_with fail
                  go_ret
                  exact ⟨rfl, HG9.out⟩

            · have a0 : (N.err == 0) = false := by simpa using he
              have a1 : decide (N.err = 0) = false := decide_eq_false he
              have hn : ¬ P := by rw [hIn]; intro hh; exact he hh.1
              obtain ⟨e1, e2⟩ := HPo.out hn
              clear HPo HPu HPs hIn HO8 HX8 hn HRg
              go_wp2_with fail
              go_region
              generalize ((((w6.alloc (.cells #[.int .i64 y.s, .int .i64 y.e, .int .i64 y.f, .int .i64 y.o, .bool y.sh, .int .i64 y.p, .int .i64 y.m, .int .i64 y.i, .int .i64 y.a, .bool y.wi] 31)).setCell ⟨w3.heap.size, 0, none⟩ (.int .i64 y.s)).setCell ⟨w3.heap.size, 1, none⟩ (.int .i64 y.e)).setCell ⟨w3.heap.size, 3, none⟩ (.int .i64 y.o)).drew = w8 at *
              clear c0 c1 c2 c3 c4 c5 c6 c7 c8 c9 c10 c11 c12 c13 c14 x0 x1 x2 x3 x4 x5 x6 x7 x8 x9 f0 f1 f3
              subst e1
              cases f with
              | false =>
                clear e2
                go_wp2_with fail
                refine (HLv.out _).mono ?_
                rintro e w9 ⟨rfl, g9⟩
                have HG9 := Lib.hid (grown_trans HBs.out (grown_trans HG8.out g9))
                clear g9
                go_wp2_with fail
                go_ret
                exact ⟨rfl, HG9.out⟩
              | true =>
                rw [e2 rfl] at HB8
                have heq := fun wx => eql_en wx y y true (by simp)
                obtain ⟨x0, x1, x2, x3, x4, x5, x6, x7, x8, x9⟩ := HB8.out.all
                obtain ⟨y0, y1, y2, y3, y4, y5, y6, y7, y8, y9⟩ := HY8.out.all
                clear e2
                go_wp2_with fail
                refine (HLv.out _).mono ?_
                rintro e w9 ⟨rfl, g9⟩
                have HG9 := Lib.hid (grown_trans HBs.out (grown_trans HG8.out g9))
                clear g9
                go_wp2_with fail
                go_ret
                exact ⟨rfl, HG9.out⟩

theorem pages_say (W : World) (s : Option Addr) (l c : Nat) (As : List VAct) (hA : VActsAre W s l As) (B : VAct) (pg : Int) (hB : B.Ok) (hpg : okI pg) :
    Calls Try.prog 5 #[.slice s l c, .agg #[.int .i64 B.k, .int .i64 B.lo, .int .i64 B.n, .int .i64 B.how, .int .i64 B.x.s, .int .i64 B.x.e, .int .i64 B.x.f, .int .i64 B.x.o, .bool B.x.sh, .int .i64 B.x.p, .int .i64 B.x.m, .int .i64 B.x.i, .int .i64 B.x.a, .bool B.x.wi, .bool B.on], .int .i64 pg] W fun e w' => e = .returned (.bool true) ∧ Below W.heap.size W w' :=
  said (pages_walk W s l c As hA B pg hB hpg)
end Go.Proofs.Ytamkmmhjmpjibaa
