/- The laws of layer 15: an entry is inserted just if it may be, and none of its pages has one. -/
import Derived.Test.YtklmlimfhgonjaaEyLawA
namespace Go.Proofs.Ytklmlimfhgonjaa
open Go.ChangeShapes Go.WideShapes Go.ChangeAt Go.RowKit Go.Deep Go.Sort
set_option linter.unusedVariables false

def apartB (z y : En) : Bool := decide (y.e ≤ z.s) || decide (z.e ≤ y.s)
def allF (L : List En) (z : En) (q : Nat) : Bool := (L.take q).all (apartB z)
theorem allF_succ {L : List En} {z y : En} {q : Nat} (hy : L[q]? = some y) : allF L z (q + 1) = (allF L z q && apartB z y) := by
  unfold allF
  rw [takel_at hy, List.all_append]
  simp
theorem allF_end {L : List En} {z : En} {b : Int} (h : RF b L) (hz : z.s < z.e) : allF L z L.length = freeB L z := by
  have key : allF L z L.length = true ↔ freeB L z = true := by
    rw [free_iff h hz]
    unfold allF apartB
    rw [List.take_length, List.all_eq_true]
    simp
  cases h1 : freeB L z with
  | true => exact key.2 h1
  | false =>
    cases h2 : allF L z L.length with
    | false => rfl
    | true => rw [key.1 h2] at h1; cases h1
set_option maxRecDepth 100000 in
set_option maxHeartbeats 8000000 in
theorem inserts_law (W : World) {s : Option Addr} {c : Nat} {L : List En} (h : EC W (.slice s L.length c) L) (hk : ∀ x, x ∈ L → OkE x) (z : En) (hz : OkE z) :
    Calls Try.prog 10 #[.slice s L.length c, .agg #[.int .i64 z.s, .int .i64 z.e, .int .i64 z.f, .int .i64 z.o, .bool z.sh, .int .i64 z.p, .int .i64 z.m, .int .i64 z.i, .int .i64 z.a, .bool z.wi]] W fun e w' => e = .returned (.bool true) ∧ W.grownBy w' none := by
  have hlv := lives_ok
  have HLv := Lib.hid hlv
  have hg1 : W.grownBy (W.alloc (.cells #[.int .i64 z.s, .int .i64 z.e, .int .i64 z.f, .int .i64 z.o, .bool z.sh, .int .i64 z.p, .int .i64 z.m, .int .i64 z.i, .int .i64 z.a, .bool z.wi] 25)) none := World.grownBy_alloc _ _ _
  cases hR : (decide (L.length ≤ 100) && rightB L) with
  | false =>
    have HRt := Lib.hid (lawRight_ok c (erow_grow h.1 hg1) hk false hR)
    have HG1 := Lib.hid hg1
    clear h hk hR hg1 hlv
    go_enter Try.func10, Try.ntmps10
    go_wp2_with fail
    refine HRt.out.mono ?_
    rintro e w2 ⟨rfl, g2⟩
    have HG2 := Lib.hid (grown_trans HG1.out g2)
    clear g2
    go_wp2_with fail
    refine (HLv.out _).mono ?_
    rintro e w4 ⟨rfl, g4⟩
    have HB4 := Lib.hid (grown_trans HG2.out g4)
    clear g4
    go_wp2_with fail
    go_ret
    exact ⟨rfl, HB4.out⟩
  | true =>
    obtain ⟨hl, hr⟩ := right_parts hR
    have HRt := Lib.hid (lawRight_ok c (erow_grow h.1 hg1) hk true hR)
    have h1 := fun w' (g : W.grownBy w' none) => insert_ok (h.grow g) hr (by omega) z hz
    have h2 := fun w' => good_ok z hz w'
    have HX := Lib.hid h
    have HR := Lib.hid hr
    have HG1 := Lib.hid hg1
    have HBz := Lib.hid (EnB.new W z)
    cases hgd : goodB z with
    | false =>
      rw [ins_bad hgd] at h1
      rw [hgd] at h2
      have H1 := Lib.hid h1
      have H2 := Lib.hid h2
      clear h hk hR hg1 hlv h1 h2 hr hz hgd
      go_enter Try.func10, Try.ntmps10
      go_wp2_with fail
      refine HRt.out.mono ?_
      rintro e w2 ⟨rfl, g2⟩
      have HG2 := Lib.hid (grown_trans HG1.out g2)
      have HB2 := Lib.hid (HBz.out.grow g2)
      obtain ⟨z0, z1, z2, z3, z4, z5, z6, z7, z8, z9⟩ := (HBz.out.grow g2).all
      have HA := Lib.hid (H1.out w2 HG2.out)
      clear g2
      go_wp2_with fail
      refine HA.out.mono ?_
      rintro e w3 ⟨u, rfl, hown, g3⟩
      obtain ⟨a3, c3, hvf⟩ := eown_form hown
      subst hvf
      have HO3 := Lib.hid (eown_row hown)
      have HG3 := Lib.hid (grown_trans HG2.out g3)
      obtain ⟨y0, y1, y2, y3, y4, y5, y6, y7, y8, y9⟩ := (HB2.out.grow g3).all
      clear g3 hown z0 z1 z2 z3 z4 z5 z6 z7 z8 z9
      go_wp2_with fail
      refine (H2.out w3).mono ?_
      rintro e w4 ⟨rfl, g4⟩
      have HG4 := Lib.hid (grown_trans HG3.out g4)
      have HS := Lib.hid (same_ok c3 c (erow_grow HO3.out g4) (erow_grow HX.out.1 HG4.out) (by omega) true (by simp))
      clear g4 y0 y1 y2 y3 y4 y5 y6 y7 y8 y9
      go_wp2_with fail
      refine HS.out.mono ?_
      rintro e w5 ⟨rfl, g5⟩
      have HG5 := Lib.hid (grown_trans HG4.out g5)
      clear g5
      go_wp2_with fail
      refine (HLv.out _).mono ?_
      rintro e w6 ⟨rfl, g6⟩
      have HG6 := Lib.hid (grown_trans HG5.out g6)
      clear g6
      go_wp2_with fail
      go_ret
      exact ⟨rfl, HG6.out⟩
    | true =>
      have hgz := (goodB_iff z).1 hgd
      rw [hgd] at h2
      have HGz := Lib.hid hgz
      have hall := allF_end hr hgz.lt
      have HAl := Lib.hid hall
      obtain ⟨f, hf⟩ : ∃ f, freeB L z = f := ⟨_, rfl⟩
      obtain ⟨In, hIn⟩ : ∃ In, insE L z = (In, f) := by
        cases f with
        | true => exact ⟨_, ins_yes hgd hf⟩
        | false => exact ⟨_, ins_no hf⟩
      rw [hIn] at h1
      simp only at h1
      have H1 := Lib.hid h1
      have H2 := Lib.hid h2
      have HIn := Lib.hid hIn
      have HF := Lib.hid hf
      have HGd := Lib.hid hgd
      have HL := Lib.hid hl
      clear h hk hR hg1 hlv h1 h2 hr hz hgd hgz hall hIn hf
      go_enter Try.func10, Try.ntmps10
      go_wp2_with fail
      refine HRt.out.mono ?_
      rintro e w2 ⟨rfl, g2⟩
      have HG2 := Lib.hid (grown_trans HG1.out g2)
      have HB2 := Lib.hid (HBz.out.grow g2)
      obtain ⟨z0, z1, z2, z3, z4, z5, z6, z7, z8, z9⟩ := (HBz.out.grow g2).all
      have HA := Lib.hid (H1.out w2 HG2.out)
      clear g2
      go_wp2_with fail
      refine HA.out.mono ?_
      rintro e w3 ⟨u, rfl, hown, g3⟩
      obtain ⟨a3, c3, hvf⟩ := eown_form hown
      subst hvf
      have HO3 := Lib.hid (EOwn.ec hown)
      have HG3 := Lib.hid (grown_trans HG2.out g3)
      have HB3 := Lib.hid (HB2.out.grow g3)
      obtain ⟨y0, y1, y2, y3, y4, y5, y6, y7, y8, y9⟩ := (HB2.out.grow g3).all
      clear g3 hown z0 z1 z2 z3 z4 z5 z6 z7 z8 z9
      go_wp2_with fail
      refine (H2.out w3).mono ?_
      rintro e w4 ⟨rfl, g4⟩
      have HG4 := Lib.hid (grown_trans HG3.out g4)
      have HB4 := Lib.hid (HB3.out.grow g4)
      have HO4 := Lib.hid (HO3.out.grow g4)
      have HX4 := Lib.hid (HX.out.grow HG4.out)
      clear g4 y0 y1 y2 y3 y4 y5 y6 y7 y8 y9
      go_wp2_with fail
      go_loopw [7, 37] (fun fv iv wr => ∃ (q : Nat) (b : Bool), q ≤ L.length ∧ fv = .bool b ∧ iv = .int .i64 q ∧ Hid (allF L z q = b) ∧ Hid (w4.grownBy wr none)) (fun _ iv _ => L.length - (intOf iv).toNat)
      case atStart => exact ⟨0, true, by omega, rfl, rfl, Lib.hid (by simp [allF]), grown_refl _ _⟩
      case round =>
        obtain ⟨q, b, hq, rfl, rfl, HE, HB⟩ := hrel
        by_cases hlt : q < L.length
        · obtain ⟨y, hy⟩ : ∃ y, L[q]? = some y := ⟨_, List.getElem?_eq_getElem hlt⟩
          obtain ⟨g, o, c5, hv1, ka0, ka1, ka2, ka3, ka4, ka5, ka6, ka7, ka8, ka9⟩ := en_cells (erow_grow HX4.out.1 HB.out) hy
          injection hv1 with e1 e2 e3
          subst e1 e3
          have hN := allF_succ (z := z) hy
          rw [HE.out] at hN
          have HB1 := Lib.hid (grown_trans HB.out (grown_box wr y))
          have hbz : (wr.alloc (.cells #[.int .i64 y.s, .int .i64 y.e, .int .i64 y.f, .int .i64 y.o, .bool y.sh, .int .i64 y.p, .int .i64 y.m, .int .i64 y.i, .int .i64 y.a, .bool y.wi] 25)).cell? ⟨W.heap.size, 0, none⟩ = some (.int .i64 z.s) ∧ (wr.alloc (.cells #[.int .i64 y.s, .int .i64 y.e, .int .i64 y.f, .int .i64 y.o, .bool y.sh, .int .i64 y.p, .int .i64 y.m, .int .i64 y.i, .int .i64 y.a, .bool y.wi] 25)).cell? ⟨W.heap.size, 1, none⟩ = some (.int .i64 z.e) ∧ (wr.alloc (.cells #[.int .i64 y.s, .int .i64 y.e, .int .i64 y.f, .int .i64 y.o, .bool y.sh, .int .i64 y.p, .int .i64 y.m, .int .i64 y.i, .int .i64 y.a, .bool y.wi] 25)).cell? ⟨W.heap.size, 2, none⟩ = some (.int .i64 z.f) ∧ (wr.alloc (.cells #[.int .i64 y.s, .int .i64 y.e, .int .i64 y.f, .int .i64 y.o, .bool y.sh, .int .i64 y.p, .int .i64 y.m, .int .i64 y.i, .int .i64 y.a, .bool y.wi] 25)).cell? ⟨W.heap.size, 3, none⟩ = some (.int .i64 z.o) ∧ (wr.alloc (.cells #[.int .i64 y.s, .int .i64 y.e, .int .i64 y.f, .int .i64 y.o, .bool y.sh, .int .i64 y.p, .int .i64 y.m, .int .i64 y.i, .int .i64 y.a, .bool y.wi] 25)).cell? ⟨W.heap.size, 4, none⟩ = some (.bool z.sh) ∧ (wr.alloc (.cells #[.int .i64 y.s, .int .i64 y.e, .int .i64 y.f, .int .i64 y.o, .bool y.sh, .int .i64 y.p, .int .i64 y.m, .int .i64 y.i, .int .i64 y.a, .bool y.wi] 25)).cell? ⟨W.heap.size, 5, none⟩ = some (.int .i64 z.p) ∧ (wr.alloc (.cells #[.int .i64 y.s, .int .i64 y.e, .int .i64 y.f, .int .i64 y.o, .bool y.sh, .int .i64 y.p, .int .i64 y.m, .int .i64 y.i, .int .i64 y.a, .bool y.wi] 25)).cell? ⟨W.heap.size, 6, none⟩ = some (.int .i64 z.m) ∧ (wr.alloc (.cells #[.int .i64 y.s, .int .i64 y.e, .int .i64 y.f, .int .i64 y.o, .bool y.sh, .int .i64 y.p, .int .i64 y.m, .int .i64 y.i, .int .i64 y.a, .bool y.wi] 25)).cell? ⟨W.heap.size, 7, none⟩ = some (.int .i64 z.i) ∧ (wr.alloc (.cells #[.int .i64 y.s, .int .i64 y.e, .int .i64 y.f, .int .i64 y.o, .bool y.sh, .int .i64 y.p, .int .i64 y.m, .int .i64 y.i, .int .i64 y.a, .bool y.wi] 25)).cell? ⟨W.heap.size, 8, none⟩ = some (.int .i64 z.a) ∧ (wr.alloc (.cells #[.int .i64 y.s, .int .i64 y.e, .int .i64 y.f, .int .i64 y.o, .bool y.sh, .int .i64 y.p, .int .i64 y.m, .int .i64 y.i, .int .i64 y.a, .bool y.wi] 25)).cell? ⟨W.heap.size, 9, none⟩ = some (.bool z.wi) := ((HB4.out.grow HB.out).grow (grown_box wr y)).all
          obtain ⟨z0, z1, z2, z3, z4, z5, z6, z7, z8, z9⟩ := hbz
          cases b with
          | false =>
            have HN := Lib.hid (show allF L z (q + 1) = false by rw [hN]; rfl)
            clear hy hN
            go_wp2_with fail
            go_roundw
            case rel => exact ⟨q + 1, false, by omega, rfl, by go_num, HN, HB1⟩
            case measure => simp [intOf]; omega
          | true =>
            by_cases k1 : y.e ≤ z.s
            · have b1 : decide (y.e ≤ z.s) = true := decide_eq_true k1
              have HN := Lib.hid (show allF L z (q + 1) = true by rw [hN]; unfold apartB; rw [b1]; rfl)
              clear hy hN k1
              go_wp2_with fail
              go_roundw
              case rel => exact ⟨q + 1, true, by omega, rfl, by go_num, HN, HB1⟩
              case measure => simp [intOf]; omega
            · have b1 : decide (y.e ≤ z.s) = false := decide_eq_false k1
              obtain ⟨r, hr2⟩ : ∃ r, decide (z.e ≤ y.s) = r := ⟨_, rfl⟩
              have HN := Lib.hid (show allF L z (q + 1) = r by rw [hN]; unfold apartB; rw [b1, hr2]; simp)
              clear hy hN k1
              go_wp2_with fail
              go_roundw
              case rel => exact ⟨q + 1, r, by omega, by first | rfl | (simp [hr2]; done), by go_num, HN, HB1⟩
              case measure => simp [intOf]; omega
        · obtain rfl : q = L.length := by omega
          obtain rfl : b = f := by rw [← HE.out, HAl.out, HF.out]
          have HG5 := Lib.hid (grown_trans HG4.out HB.out)
          cases b with
          | false =>
            have hI2 : In = L := by have := HIn.out; rw [ins_no HF.out] at this; cases this; rfl
            subst hI2
            have HS := Lib.hid (same_ok c3 c (erow_grow HO4.out.1 HB.out) (erow_grow HX.out.1 HG5.out) (by omega) true (by simp))
            go_wp2_with fail
            refine HS.out.mono ?_
            rintro e w5 ⟨rfl, g5⟩
            have HG6 := Lib.hid (grown_trans HG5.out g5)
            clear g5
            go_wp2_with fail
            refine (HLv.out _).mono ?_
            rintro e w6 ⟨rfl, g6⟩
            have HG7 := Lib.hid (grown_trans HG6.out g6)
            clear g6
            go_wp2_with fail
            go_ret
            exact ⟨rfl, HG7.out⟩
          | true =>
            have hI2 : In = putE L z := by have := HIn.out; rw [ins_yes HGd.out HF.out] at this; cases this; rfl
            have hrp := rf_put HR.out HGz.out HF.out
            have hlp := put_len L z
            have hat0 := put_at hrp HGz.out.lt
            rw [← hI2] at hrp hlp hat0
            obtain ⟨i, hi⟩ : ∃ i, findK In z.s = i := ⟨_, rfl⟩
            have hhb : hasB In z.s = true := by rw [hasB_at hat0]; exact decide_eq_true (Int.le_refl _)
            rw [hi] at hat0
            have hil := (List.getElem?_eq_some_iff.1 hat0).1
            have HFd := Lib.hid (find_ok c3 (erow_grow HO4.out.1 HB.out) hrp (by omega) z.s i hi true hhb)
            have h7 := fun w' (hh : ERow w' (.slice a3 In.length c3) In) => right_ok c3 hh (fun x hx => ((rf_good hrp x hx).1).ok) (by omega)
            rw [(right_iff In).2 hrp] at h7
            have H7 := Lib.hid h7
            obtain ⟨z0, z1, z2, z3, z4, z5, z6, z7, z8, z9⟩ := (HB4.out.grow HB.out).all
            have q1 : ((In.length : Int) == (L.length : Int) + 1) = true := by rw [hlp]; simp
            have q2 : decide ((i : Int) < (In.length : Int)) = true := decide_eq_true (by omega)
            have q3 : (0 : Int) ≤ (i : Int) := by omega
            have q4 : (i : Int) < (In.length : Int) := by omega
            have HAt := Lib.hid hat0
            have heq := fun wx => eql_en wx z z true (by simp)
            clear hI2 hrp hlp hat0 hi hhb h7
            go_wp2_with fail
            refine HFd.out.mono ?_
            rintro e w5 ⟨rfl, g5⟩
            have HG6 := Lib.hid (grown_trans HG5.out g5)
            have hB5 := ((HB4.out.grow HB.out).grow g5).all
            have hO5 := (HO4.out.grow HB.out).grow g5
            obtain ⟨g9, o9, c9, hv9, hat⟩ := en_cells hO5.1 HAt.out
            injection hv9 with e1 e2 e3
            subst e1 e3
            have HRow5 := Lib.hid hO5.1
            clear z0 z1 z2 z3 z4 z5 z6 z7 z8 z9 g5 hO5
            obtain ⟨k0, k1, k2, k3, k4, k5, k6, k7, k8, k9⟩ := hB5
            obtain ⟨m0, m1, m2, m3, m4, m5, m6, m7, m8, m9⟩ := hat
            have r0 := cell_regrown k0
            have r1 := cell_regrown k1
            have r2 := cell_regrown k2
            have r3 := cell_regrown k3
            have r4 := cell_regrown k4
            have r5 := cell_regrown k5
            have r6 := cell_regrown k6
            have r7 := cell_regrown k7
            have r8 := cell_regrown k8
            have r9 := cell_regrown k9
            have t0 := cell_regrown m0
            have t1 := cell_regrown m1
            have t2 := cell_regrown m2
            have t3 := cell_regrown m3
            have t4 := cell_regrown m4
            have t5 := cell_regrown m5
            have t6 := cell_regrown m6
            have t7 := cell_regrown m7
            have t8 := cell_regrown m8
            have t9 := cell_regrown m9
            have hc1 := Calls.regrown_g (w := w5) fun w' g => H7.out w' (erow_grow HRow5.out g)
            have hc2 := Calls.regrown_g (w := w5) fun w' _ => HLv.out w'
            go_upto_region 15 with fail
            refine wp_region_quiet_below (by kernel_rfl) (by kernel_rfl) ?_
            repeat (go_big_quiet_step (first | exact hc1 _ _ | exact hc2 _ _ | fail))
            refine wpQuiet_nil ?_
            intro _ hw'
            obtain ⟨⟨dq, osq⟩, hw''⟩ := hw'
            subst hw''
            have HG7 := Lib.hid (grown_trans HG6.out (regrown_grown w5 dq osq))
            go_wp2_with fail
            go_ret
            exact ⟨rfl, HG7.out⟩
end Go.Proofs.Ytklmlimfhgonjaa
