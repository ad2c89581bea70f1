/- VmapFixed, walked out of what package vmap says. Written by wip/genvlaw.py and what is behind it. -/
import Derived.Test.YtamkmmhjmpjibaaVmpMore
import Derived.OwnWalk
namespace Go.Proofs.Ytamkmmhjmpjibaa
open Go.ChangeShapes Go.WideShapes Go.ChangeAt Go.RowKit Go.Deep
set_option linter.unusedVariables false
set_option linter.unusedSimpArgs false
set_option linter.unusedSimpArgs false

/-- What stands at a page of what was mapped. -/
theorem fix_page {L : List En} (h : MapL L) {M G : List En} {x : En} {a : Int} {m : Nat} (on : Bool) (hM : RF 0 M) (hG : RF 0 G)
    (h1 : ∀ pg, pageOf M pg = if a ≤ pg ∧ pg < a + m then some (normE (moveE x a) pg) else pageOf L pg) (h2 : ∀ pg, a ≤ pg → pg < a + m → pageOf G pg = pageOf L pg ∧ (on = false → pageOf L pg = none)) (p : Int) (p1 : a ≤ p) (p2 : p < a + m) :
    ∃ y d, atE M p = y ∧ (atV M p).isSome = true ∧ GoodE y ∧ y.s ≤ p ∧ p < y.e ∧ y.f = x.f ∧ y.p = x.p ∧ y.wi = x.wi ∧ (0 < x.f → y.o - y.s = x.o - a) ∧ hasB L p = d ∧ hasB G p = d ∧ (on = false → d = false) := by
  have q := h1 p
  rw [if_pos ⟨p1, p2⟩, at_page] at q
  cases e : atV M p with
  | none => rw [e] at q; cases q
  | some y =>
    rw [e] at q
    have q1 : normE y p = normE (moveE x a) p := Option.some.inj q
    obtain ⟨n1, -, n2, -, -, -, n3, n4⟩ := norm_off q1
    obtain ⟨m1, m2, m3⟩ := at_mem e
    obtain ⟨k1, k2⟩ := h2 p p1 p2
    refine ⟨y, hasB L p, by unfold atE; rw [e]; rfl, rfl, rf_at hM m1, m2, m3, n1, n2, n3, fun hf => ?_, rfl, by rw [hasB_page, k1, hasB_page], fun ho => by rw [hasB_page, k2 ho]; rfl⟩
    exact n4 (by rw [n1]; exact hf)

set_option maxRecDepth 100000 in
set_option maxHeartbeats 32000000 in
theorem fixed_walk (W : World) (s : Option Addr) (l c : Nat) (As : List VAct) (hA : VActsAre W s l As) (B : VAct) (hB : B.Ok) :
    Calls Try.prog 8 #[.slice s l c, .agg #[.int .i64 B.k, .int .i64 B.lo, .int .i64 B.n, .int .i64 B.how, .int .i64 B.x.s, .int .i64 B.x.e, .int .i64 B.x.f, .int .i64 B.x.o, .bool B.x.sh, .int .i64 B.x.p, .int .i64 B.x.m, .int .i64 B.x.i, .int .i64 B.x.a, .bool B.x.wi, .bool B.on]] W fun e w' => e = .returned (.bool true) ∧ W.grownBy w' none := by
  have HAs := Lib.hid hA
  have HLv := Lib.hid (fun wx => lives_ok wx)
  have HNw := Lib.hid (fun wx => new_ok wx)
  have HO := Lib.hid hB
  have HBs := Lib.hid (World.grownBy_alloc W (.cells #[.int .i64 B.k, .int .i64 B.lo, .int .i64 B.n, .int .i64 B.how, .int .i64 B.x.s, .int .i64 B.x.e, .int .i64 B.x.f, .int .i64 B.x.o, .bool B.x.sh, .int .i64 B.x.p, .int .i64 B.x.m, .int .i64 B.x.i, .int .i64 B.x.a, .bool B.x.wi, .bool B.on] 33) none)
  have HX := Lib.hid (VBox.new W B)
  obtain ⟨X, hX⟩ : ∃ X, W.heap.size = X := ⟨_, rfl⟩
  have hXs : (W.alloc (.cells #[.int .i64 B.k, .int .i64 B.lo, .int .i64 B.n, .int .i64 B.how, .int .i64 B.x.s, .int .i64 B.x.e, .int .i64 B.x.f, .int .i64 B.x.o, .bool B.x.sh, .int .i64 B.x.p, .int .i64 B.x.m, .int .i64 B.x.i, .int .i64 B.x.a, .bool B.x.wi, .bool B.on] 33)).heap.size = X + 1 := by rw [World.size_alloc, hX]
  rw [hX] at HX
  clear hA
  by_cases hl : 40 < l
  · have b0 : decide ((l : Int) > 40) = true := decide_eq_true (by omega)
    go_enter Try.func8, Try.ntmps8
    go_wp2_with fail
    refine (HLv.out _).mono ?_
    rintro e w1 ⟨rfl, g1⟩
    have HG1 := Lib.hid (grown_trans HBs.out g1)
    clear g1
    go_wp2_with fail
    go_ret
    exact ⟨rfl, HG1.out⟩
  · have b0 : decide ((l : Int) > 40) = false := decide_eq_false (by omega)
    go_enter Try.func8, Try.ntmps8
    go_wp2_with fail
    generalize W.alloc (.cells #[.int .i64 B.k, .int .i64 B.lo, .int .i64 B.n, .int .i64 B.how, .int .i64 B.x.s, .int .i64 B.x.e, .int .i64 B.x.f, .int .i64 B.x.o, .bool B.x.sh, .int .i64 B.x.p, .int .i64 B.x.m, .int .i64 B.x.i, .int .i64 B.x.a, .bool B.x.wi, .bool B.on] 33) = Wb at *
    refine (HNw.out _).mono ?_
    rintro e w1 ⟨rfl, k1, g1⟩
    rw [hXs] at k1
    have HSt := Lib.hid (Nat.le_of_eq hXs)
    have HI := Lib.hid (show VM w1 (X + 1) (.slice none 0 0) (foldV [] (As.take 0)) from k1)
    have HG1 := Lib.hid g1
    clear k1 g1
    go_wp2_with fail
    go_loopw [5, 28] (fun mv iv wr => ∃ (q r : Nat) (v : Value), q ≤ l ∧ mv = .pointer (some ⟨r, 0, none⟩) ∧ iv = .int .i64 q ∧ Wb.heap.size ≤ r ∧ Hid (VM wr r v (foldV [] (As.take q))) ∧ Hid (Wb.grownBy wr none)) (fun _ iv _ => l - (intOf iv).toNat)
    case atStart => exact ⟨0, _, _, by omega, rfl, rfl, HSt.out, HI, HG1⟩
    case round =>
      clear HI HG1 HSt
      obtain ⟨q, r, v, hq, rfl, rfl, hr, HV, HG⟩ := hrel
      by_cases hlt : q < l
      · obtain ⟨A, hAq⟩ : ∃ A, As[q]? = some A := ⟨_, List.getElem?_eq_getElem (by rw [HAs.out.len]; exact hlt)⟩
        obtain ⟨b, o, hs, hc⟩ := HAs.out.at (grown_trans HBs.out HG.out) hAq
        subst hs
        obtain ⟨c0, c1, c2, c3, c4, c5, c6, c7, c8, c9, c10, c11, c12, c13, c14⟩ := hc
        have HFt := Lib.hid (fold_take16 [] hAq)
        obtain ⟨hM, hMl⟩ := fold_did (As.take q) mapL_nil
        have hMl2 : (foldV [] (As.take q)).length ≤ 900 := by
          rw [List.length_take] at hMl
          simp at hMl
          omega
        have HGb := Lib.hid (World.grownBy_alloc wr (.cells #[.int .i64 A.k, .int .i64 A.lo, .int .i64 A.n, .int .i64 A.how, .int .i64 A.x.s, .int .i64 A.x.e, .int .i64 A.x.f, .int .i64 A.x.o, .bool A.x.sh, .int .i64 A.x.p, .int .i64 A.x.m, .int .i64 A.x.i, .int .i64 A.x.a, .bool A.x.wi, .bool A.on] 33) none)
        have HVb := Lib.hid (HV.out.grow HGb.out)
        have HAc := Lib.hid (act_ok HVb.out hM hMl2 A (HAs.out.ok A (List.mem_of_getElem? hAq)))
        clear hAq hM hMl hMl2
        go_wp2_with fail
        refine HAc.out.mono ?_
        rintro e w2 ⟨r', u, v', rfl, -, k2, k3, -, k4, t2⟩
        have HV2 := Lib.hid k2
        have HG2 := Lib.hid (turn_up (grown_trans HG.out HGb.out) hr (own_up HV.out hr) t2)
        have hr2 : Wb.heap.size ≤ r' := by
          rcases k3 with e | e
          · omega
          · have := HG.out.size
            have := HGb.out.size
            omega
        clear k2 k3 k4 t2 c0 c1 c2 c3 c4 c5 c6 c7 c8 c9 c10 c11 c12 c13 c14
        go_wp2_with fail
        go_roundw
        case rel => exact ⟨q + 1, r', v', by omega, rfl, by go_num, hr2, by rw [HFt.out]; exact HV2, HG2⟩
        case measure => simp [intOf]; omega
      · obtain rfl : q = l := by omega
        have HVf := HV.out
        rw [List.take_of_length_le (by rw [HAs.out.len]; exact Nat.le_refl _)] at HVf
        obtain ⟨hM, hMl⟩ := fold_did As mapL_nil
        simp only [List.length_nil, HAs.out.len] at hMl
        obtain ⟨Lm, hLm⟩ : ∃ Lm, foldV [] As = Lm := ⟨_, rfl⟩
        rw [hLm] at HVf hM hMl
        have HVL := Lib.hid HVf
        have HM := Lib.hid hM
        have hLl : Lm.length ≤ 200 := by omega
        clear HVf hM hMl HV hLm HNw
        have HXr := Lib.hid (HX.out.grow HG.out)
        obtain ⟨hb1, -, -, hb2⟩ := HO.out
        obtain ⟨hMN, hNl, hNg, hNr, hNe⟩ := map_did HM.out B.lo B.x B.on
        have HEn := Lib.hid (entries_ok HVL.out (by omega))
        have HMp := Lib.hid (fun (W' : World) (h : VM W' r v Lm) => map_ok h HM.out (by omega) B.lo B.x B.on hb1 hb2)
        go_wp2_with fail
        refine HEn.out.mono ?_
        rintro e x1 ⟨u1, rfl, k1, g1⟩
        obtain ⟨a1, z1, hvf⟩ := OwnOf.form k1
        subst hvf
        have HG1 := Lib.hid (grown_trans HG.out g1)
        have HV1 := Lib.hid (HVL.out.grow g1)
        have HX1 := Lib.hid (HXr.out.grow g1)
        have HU1 := Lib.hid k1
        have HMq := Lib.hid (HMp.out x1 HV1.out)
        have hrv := HVL.out.rv
        obtain ⟨c0, c1, c2, c3, c4, c5, c6, c7, c8, c9, c10, c11, c12, c13, c14⟩ := HX1.out.at
        simp only [Nat.zero_add] at c0 c1 c2 c3 c4 c5 c6 c7 c8 c9 c10 c11 c12 c13 c14
        clear k1 g1 HEn HMp HVL HXr
        by_cases he : (mapV Lm B.lo B.x B.on).err = 0
        · obtain ⟨a, hn, ha0, ha1, hs0, hs1, hs2, hg, hfa, hfg, hpg, hgo⟩ := page_map16 HM.out he
          obtain ⟨m, hm⟩ : ∃ m : Nat, B.x.e - B.x.s = (m : Int) := Int.eq_ofNat_of_zero_le (by omega)
          rw [hm] at hpg hgo ha1 hs2
          have hm1 : 1 ≤ m := by omega
          obtain ⟨N, hN⟩ : ∃ N, mapV Lm B.lo B.x B.on = N := ⟨_, rfl⟩
          rw [hN] at hMN hNl hNg hNr hNe hn he hfg hpg hgo HMq
          have HFx := Lib.hid (fun p p1 p2 => fix_page HM.out B.on hMN.rf hNr hpg hgo p p1 p2)
          have HWl := Lib.hid ((whole_pages hMN.rf m a).2 fun i hi => by rw [hasB_page, hpg, if_pos ⟨by omega, by omega⟩]; rfl)
          have HMN := Lib.hid hMN
          have HNr := Lib.hid hNr
          rw [hn, he] at HMq
          have go0 := hg.o0
          have goe := hg.oe
          simp only [moveE] at go0 goe
          clear hMN hNr hNe hn he hpg hgo hN hg
          go_wp2_with fail
          refine HMq.out.mono ?_
          rintro e x2 ⟨u2, v2, rfl, ku, kv, -, t2⟩
          obtain ⟨a2, z2, hvf⟩ := OwnOf.form ku
          subst hvf
          have HG2 := Lib.hid (turn_up HG1.out hr (own_up HV1.out hr) t2)
          have HU2 := Lib.hid (eown_row (EOwn.past HU1.out t2 hrv))
          have HD2 := Lib.hid (eown_row ku)
          have HV2 := Lib.hid kv
          have HX2 := Lib.hid (HX1.out.turn t2 (fun hm => by
            rcases List.mem_cons.1 hm with e | e
            · omega
            · have := own_up HV1.out hr _ (mem_blk.1 e); omega))
          clear ku kv t2 HMq HU1 HV1 HX1 HG1 c0 c1 c2 c3 c4 c5 c6 c7 c8 c9 c10 c11 c12 c13 c14
          obtain ⟨c0, c1, c2, c3, c4, c5, c6, c7, c8, c9, c10, c11, c12, c13, c14⟩ := HX2.out.at
          simp only [Nat.zero_add] at c0 c1 c2 c3 c4 c5 c6 c7 c8 c9 c10 c11 c12 c13 c14
          go_wp2_with fail
          have HP := Lib.hid (show ∀ i : Nat, i < 3 → ∃ p, (x2.alloc (.cells #[.int .i64 a, .int .i64 (a + ↑m - 1), .int .i64 (a + ↑m / 2)] 3 (0, 0))).cell? ⟨x2.heap.size, i, none⟩ = some (.int .i64 p) ∧ a ≤ p ∧ p < a + m from fun i hi => by
            have hb := heap_alloc_new x2 (.cells #[.int .i64 a, .int .i64 (a + ↑m - 1), .int .i64 (a + ↑m / 2)] 3 (0, 0))
            have hi3 : i = 0 ∨ i = 1 ∨ i = 2 := by omega
            rcases hi3 with rfl | rfl | rfl
            · exact ⟨a, by rw [cell_of_row _ _ _ _ _ _ hb]; rfl, by omega, by omega⟩
            · exact ⟨a + ↑m - 1, by rw [cell_of_row _ _ _ _ _ _ hb]; rfl, by omega, by omega⟩
            · exact ⟨a + ↑m / 2, by rw [cell_of_row _ _ _ _ _ _ hb]; rfl, by omega, by omega⟩)
          have hga := World.grownBy_alloc x2 (.cells #[.int .i64 a, .int .i64 (a + ↑m - 1), .int .i64 (a + ↑m / 2)] 3 (0, 0)) none
          have HG3 := Lib.hid (grown_trans HG2.out hga)
          have HV3 := Lib.hid (HV2.out.grow hga)
          have HX3 := Lib.hid (HX2.out.grow hga)
          have HU3 := Lib.hid (erow_grow HU2.out hga)
          have HD3 := Lib.hid (erow_grow HD2.out hga)
          clear hga HG2 HV2 HX2 HU2 HD2 c0 c1 c2 c3 c4 c5 c6 c7 c8 c9 c10 c11 c12 c13 c14
          generalize x2.alloc (.cells #[.int .i64 a, .int .i64 (a + ↑m - 1), .int .i64 (a + ↑m / 2)] 3 (0, 0)) = x3 at *
          have HSz := Lib.hid (grown_refl x3 none)
          go_loopw [91] (fun iv wz => ∃ i : Nat, i ≤ 3 ∧ iv = .int .i64 i ∧ Hid (x3.grownBy wz none)) (fun iv _ => 3 - (intOf iv).toNat)
          case atStart => exact ⟨0, by omega, rfl, HSz⟩
          case round =>
            clear HSz
            obtain ⟨i, hi3, rfl, HGz⟩ := hrel
            by_cases hlt : i < 3
            · obtain ⟨p, hp0, p1, p2⟩ := HP.out i hlt
              have hp1 := HGz.out.cell hp0 (by simp)
              clear hp0
              obtain ⟨y, d, hy, hs, yg, y1, y2, y3, y4, y5, y6, y7, y8, y9⟩ := HFx.out p p1 p2
              obtain ⟨ys, ye, yf, yo, ysh, yp, ym, yi, ya, ywi⟩ := y
              simp only at y1 y2 y3 y4 y5 y6
              subst y3 y4 y5
              have HA := Lib.hid (at_ok (HV3.out.grow HGz.out) HMN.out.rf (by omega) p _ hy true hs)
              dsimp only at HA
              obtain ⟨kf, hkf⟩ : ∃ kf, findK Lm p = kf := ⟨_, rfl⟩
              obtain ⟨kg, hkg⟩ : ∃ kg, findK N.gone p = kg := ⟨_, rfl⟩
              have HF1 := Lib.hid (fun (W' : World) (g : x3.grownBy W' none) => find_ok z1 (erow_grow HU3.out g) HM.out.rf (by omega) p kf hkf d y7)
              have HF2 := Lib.hid (fun (W' : World) (g : x3.grownBy W' none) => find_ok z2 (erow_grow HD3.out g) HNr.out (by omega) p kg hkg d y8)
              have yo0 := yg.o0
              have yoe := yg.oe
              have ys0 := yg.s0
              have ye1 := yg.e1
              simp only at yo0 yoe ys0 ye1
              clear hy hs y7 y8 hkf hkg yg
              go_wp2_with fail
              refine HA.out.mono ?_
              rintro e h1 ⟨rfl, g1⟩
              have HGy := Lib.hid (grown_trans HGz.out (grown_trans g1 (World.grownBy_alloc h1 (.cells #[.int .i64 ys, .int .i64 ye, .int .i64 B.x.f, .int .i64 yo, .bool ysh, .int .i64 B.x.p, .int .i64 ym, .int .i64 yi, .int .i64 ya, .bool B.x.wi] 31) none)))
              have HFy := Lib.hid (HF1.out _ HGy.out)
              obtain ⟨c0, c1, c2, c3, c4, c5, c6, c7, c8, c9, c10, c11, c12, c13, c14⟩ := (HX3.out.grow HGy.out).at
              simp only [Nat.zero_add] at c0 c1 c2 c3 c4 c5 c6 c7 c8 c9 c10 c11 c12 c13 c14
              clear g1 HA HF1
              by_cases hf : B.x.f > 0
              · have bf : decide (B.x.f > 0) = true := decide_eq_true hf
                have yox := yoe hf
                have xo := goe hf
                have eqo : yo + p - ys = B.x.o + p - a := by have := y6 hf; omega
                clear y6 yoe goe
                go_wp2_with fail
                refine HFy.out.mono ?_
                rintro e h2 ⟨rfl, g2⟩
                have HG5 := Lib.hid (grown_trans HGy.out g2)
                have HFz := Lib.hid (HF2.out _ HG5.out)
                clear g2 HFy HF2 HGy c0 c1 c2 c3 c4 c5 c6 c7 c8 c9 c10 c11 c12 c13 c14
                go_wp2_with fail
                refine HFz.out.mono ?_
                rintro e h3 ⟨rfl, g3⟩
                have HG6 := Lib.hid (grown_trans HG5.out g3)
                obtain ⟨-, -, -, -, -, -, -, -, -, -, -, -, -, -, c14⟩ := (HX3.out.grow HG6.out).at
                simp only [Nat.zero_add] at c14
                clear g3 HFz HG5
                cases d with
                | false =>
                  clear y9
                  go_wp2_with fail
                  go_roundw
                  case rel => exact ⟨i + 1, by omega, by go_num, HG6⟩
                  case measure => simp [intOf]; omega
                | true =>
                  have hon : B.on = true := by
                    by_cases hb : B.on = true
                    · exact hb
                    · exact absurd (y9 (by simpa using hb)) (by simp)
                  rw [hon] at c14
                  clear hon y9
                  go_wp2_with fail
                  go_roundw
                  case rel => exact ⟨i + 1, by omega, by go_num, HG6⟩
                  case measure => simp [intOf]; omega
              · have bf : decide (B.x.f > 0) = false := decide_eq_false hf
                clear y6 yoe goe
                go_wp2_with fail
                refine HFy.out.mono ?_
                rintro e h2 ⟨rfl, g2⟩
                have HG5 := Lib.hid (grown_trans HGy.out g2)
                have HFz := Lib.hid (HF2.out _ HG5.out)
                clear g2 HFy HF2 HGy c0 c1 c2 c3 c4 c5 c6 c7 c8 c9 c10 c11 c12 c13 c14
                go_wp2_with fail
                refine HFz.out.mono ?_
                rintro e h3 ⟨rfl, g3⟩
                have HG6 := Lib.hid (grown_trans HG5.out g3)
                obtain ⟨-, -, -, -, -, -, -, -, -, -, -, -, -, -, c14⟩ := (HX3.out.grow HG6.out).at
                simp only [Nat.zero_add] at c14
                clear g3 HFz HG5
                cases d with
                | false =>
                  clear y9
                  go_wp2_with fail
                  go_roundw
                  case rel => exact ⟨i + 1, by omega, by go_num, HG6⟩
                  case measure => simp [intOf]; omega
                | true =>
                  have hon : B.on = true := by
                    cases hb : B.on with
                    | true => rfl
                    | false => exact Bool.noConfusion (y9 hb)
                  rw [hon] at c14
                  clear hon y9
                  go_wp2_with fail
                  go_roundw
                  case rel => exact ⟨i + 1, by omega, by go_num, HG6⟩
                  case measure => simp [intOf]; omega
            · obtain rfl : i = 3 := by omega
              have HEn := Lib.hid (entries_ok (HV3.out.grow HGz.out) (by omega))
              obtain ⟨c0, c1, c2, c3, c4, c5, c6, c7, c8, c9, c10, c11, c12, c13, c14⟩ := (HX3.out.grow HGz.out).at
              simp only [Nat.zero_add] at c0 c1 c2 c3 c4 c5 c6 c7 c8 c9 c10 c11 c12 c13 c14
              obtain ⟨on, hon⟩ : ∃ on, B.on = on := ⟨_, rfl⟩
              rw [hon] at c14 hfa hfg
              clear hon
              cases on with
              | true =>
                have e1 := hfa rfl
                have e2 : (a == B.lo) = true := by simpa using e1
                have e3 : decide (a = B.lo) = true := decide_eq_true e1
                clear e1 hfa hfg
                go_wp2_with fail
                refine HEn.out.mono ?_
                rintro e h1 ⟨u1, rfl, k1, g1⟩
                obtain ⟨a5, z5, hvf⟩ := OwnOf.form k1
                subst hvf
                have HG5 := Lib.hid (grown_trans HGz.out g1)
                have HW5 := Lib.hid (whole_ok (EOwn.ec k1) HMN.out.rf (by omega) a (a + m) true HWl.out)
                clear k1 g1 HEn c0 c1 c2 c3 c4 c5 c6 c7 c8 c9 c10 c11 c12 c13 c14
                go_wp2_with fail
                refine HW5.out.mono ?_
                rintro e h2 ⟨rfl, g2⟩
                have HG6 := Lib.hid (grown_trans HG5.out g2)
                clear g2 HW5
                go_wp2_with fail
                refine (HLv.out h2).mono ?_
                rintro e h3 ⟨rfl, g3⟩
                have HG7 := Lib.hid (grown_trans HBs.out (grown_trans HG3.out (grown_trans HG6.out g3)))
                clear g3
                go_wp2_with fail
                go_ret
                exact ⟨rfl, HG7.out⟩
              | false =>
                have hgl : N.gone.length = 0 := by rw [hfg rfl]; rfl
                clear hfa hfg
                go_wp2_with fail
                refine HEn.out.mono ?_
                rintro e h1 ⟨u1, rfl, k1, g1⟩
                obtain ⟨a5, z5, hvf⟩ := OwnOf.form k1
                subst hvf
                have HG5 := Lib.hid (grown_trans HGz.out g1)
                have HW5 := Lib.hid (whole_ok (EOwn.ec k1) HMN.out.rf (by omega) a (a + m) true HWl.out)
                clear k1 g1 HEn c0 c1 c2 c3 c4 c5 c6 c7 c8 c9 c10 c11 c12 c13 c14
                go_wp2_with fail
                refine HW5.out.mono ?_
                rintro e h2 ⟨rfl, g2⟩
                have HG6 := Lib.hid (grown_trans HG5.out g2)
                clear g2 HW5
                go_wp2_with fail
                refine (HLv.out h2).mono ?_
                rintro e h3 ⟨rfl, g3⟩
                have HG7 := Lib.hid (grown_trans HBs.out (grown_trans HG3.out (grown_trans HG6.out g3)))
                clear g3
                go_wp2_with fail
                go_ret
                exact ⟨rfl, HG7.out⟩
        · obtain ⟨er, hEr⟩ : ∃ er, (mapV Lm B.lo B.x B.on).err = er := ⟨_, rfl⟩
          have hN := hNe he
          rw [hEr] at hN he
          rw [hN] at HMq
          simp only at HMq
          have d0 : (er != 0) = true := by simpa using he
          have d1 : (er == 0) = false := by simpa using he
          clear hMN hNl hNg hNr hNe hEr hN
          go_wp2_with fail
          refine HMq.out.mono ?_
          rintro e x2 ⟨u2, v2, rfl, ku, kv, -, t2⟩
          obtain ⟨a2, z2, hvf⟩ := OwnOf.form ku
          subst hvf
          have HG2 := Lib.hid (turn_up HG1.out hr (own_up HV1.out hr) t2)
          have HU2 := Lib.hid (EOwn.past HU1.out t2 hrv)
          have HE2 := Lib.hid (entries_ok kv (by omega))
          clear ku kv t2 HMq HU1 HV1 HX1 HG1 c0 c1 c2 c3 c4 c5 c6 c7 c8 c9 c10 c11 c12 c13 c14
          go_wp2_with fail
          refine HE2.out.mono ?_
          rintro e x3 ⟨u3, rfl, k3, g3⟩
          obtain ⟨a3, z3, hvf⟩ := OwnOf.form k3
          subst hvf
          have HG3 := Lib.hid (grown_trans HG2.out g3)
          have HS3 := Lib.hid (same_ok z3 z1 (eown_row k3) (erow_grow (eown_row HU2.out) g3) (by omega) true (by simp))
          clear k3 g3 HE2 HU2 HG2
          go_wp2_with fail
          refine HS3.out.mono ?_
          rintro e x4 ⟨rfl, g4⟩
          have HG4 := Lib.hid (grown_trans HG3.out g4)
          clear g4 HS3 HG3
          go_wp2_with fail
          refine (HLv.out x4).mono ?_
          rintro e x5 ⟨rfl, g5⟩
          have HG5 := Lib.hid (grown_trans HBs.out (grown_trans HG4.out g5))
          clear g5
          go_wp2_with fail
          go_ret
          exact ⟨rfl, HG5.out⟩

theorem fixed_say (W : World) (s : Option Addr) (l c : Nat) (As : List VAct) (hA : VActsAre W s l As) (B : VAct) (hB : B.Ok) :
    Calls Try.prog 8 #[.slice s l c, .agg #[.int .i64 B.k, .int .i64 B.lo, .int .i64 B.n, .int .i64 B.how, .int .i64 B.x.s, .int .i64 B.x.e, .int .i64 B.x.f, .int .i64 B.x.o, .bool B.x.sh, .int .i64 B.x.p, .int .i64 B.x.m, .int .i64 B.x.i, .int .i64 B.x.a, .bool B.x.wi, .bool B.on]] W fun e w' => e = .returned (.bool true) ∧ Below W.heap.size W w' :=
  said (fixed_walk W s l c As hA B hB)
end Go.Proofs.Ytamkmmhjmpjibaa
