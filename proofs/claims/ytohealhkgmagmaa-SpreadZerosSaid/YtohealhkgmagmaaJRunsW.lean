/- SpreadRuns, walked out of what package spread says. -/
import Derived.Test.YtohealhkgmagmaaJBack
namespace Go.Proofs.Ytohealhkgmagmaa
open Go.ChangeShapes Go.WideShapes Go.ChangeAt Go.RowKit Go.Deep
set_option linter.unusedVariables false

theorem addJ_same (L : List Int) (lo hi by_ : Int) : (addJ L lo hi by_).2.2.length = L.length := by
  unfold addJ
  split
  · exact moreJ_len
  · rfl
theorem atJ_out {L : List Int} {i : Int} (h : ¬ (0 ≤ i ∧ i < L.length)) : atJ L i = -1 := if_neg h
/-- Counts of the law's own, and their runs as they were told. -/
structure RK (D : World → Nat → List Int → List Nat → Prop) (w wx : World) (p : Nat) (L : List Int) (O : List Nat) (u : Value) (R : List JR) : Prop where
  c : LJ D w wx p L O
  row : RowOf runCells 3 wx u R
theorem RK.grow {D : World → Nat → List Int → List Nat → Prop} (H : StOk D) {w wx w2 : World} {p : Nat} {L : List Int} {O : List Nat} {u : Value} {R : List JR} (h : RK D w wx p L O u R) (g : wx.grownBy w2 none) : RK D w w2 p L O u R := ⟨h.c.grow H g, rowOf_grow h.row g⟩
theorem drop_cons {α : Type} {R : List α} {i : Nat} {r : α} (hr : R[i]? = some r) : R.drop i = r :: R.drop (i + 1) := by
  have hk := (List.getElem?_eq_some_iff.1 hr).1
  rw [List.drop_eq_getElem_cons hk, (List.getElem?_eq_some_iff.1 hr).2]

set_option maxRecDepth 100000 in
set_option maxHeartbeats 8000000 in
theorem runs_walk11 {D : World → Nat → List Int → List Nat → Prop} (H : SpOk D) (w : World) (n0 : Int) (sa : Option Addr) (l c : Nat) (As : List JActV) (hA : JActsAre w sa l As) (hn : okU n0) :
    Calls Try.prog 4 #[.int .u64 n0, .slice sa l c] w fun e w' => e = .returned (.bool true) ∧ w.grownBy w' none := by
  have HLv := Lib.hid (fun wx => lives11 H wx)
  have HT := Lib.hid H
  have q1 := eql_ptr_nil
  have q2 := neq_ptr_nil
  obtain ⟨k, hk⟩ : ∃ k : Nat, n0 % 60 = k := Int.eq_ofNat_of_zero_le (by omega)
  have k1 : k < 60 := by omega
  have n1 := hn.1
  have n2 := hn.2
  have HA := Lib.hid hA
  have HN := Lib.hid (H.new k w (by omega))
  have HZ := Lib.hid (JOk.zeros (k := k) (by omega))
  have HLk := Lib.hid (show (List.replicate k (0 : Int)).length = k from List.length_replicate)
  clear H hA hn
  go_enter Try.func4, Try.ntmps4
  go_wp2_with fail
  refine HN.out.mono ?_
  rintro e w2 ⟨p, O, rfl, h2, g2, o2⟩
  have H2 := Lib.hid (show LJ D w w2 p (List.replicate k 0) O from ⟨h2, o2, g2, HZ.out⟩)
  generalize List.replicate k (0 : Int) = L0 at H2 HLk
  clear h2 g2 o2 HN HZ
  by_cases hc : l ≤ 60
  · have d1 : decide ((l : Int) > 60) = false := decide_eq_false (by omega)
    go_wp2_with fail
    clear q1 q2 d1
    go_loopw [34] (fun iv wr => ∃ (j : Nat) (L : List Int) (O : List Nat), j ≤ l ∧ iv = .int .i64 j ∧ Hid (LJ D w wr p L O) ∧ Hid (L.length = k)) (fun iv _ => l - (intOf iv).toNat)
    case atStart => exact ⟨0, L0, O, by omega, rfl, H2.out, HLk.out⟩
    case round =>
      clear H2 HLk
      obtain ⟨j, L, O2, hj2, rfl, HJ, HLk⟩ := hrel
      by_cases hlt : j < l
      · obtain ⟨B, hBj⟩ : ∃ B, As[j]? = some B := ⟨_, List.getElem?_eq_getElem (by rw [HA.out.len]; exact hlt)⟩
        have HOb := Lib.hid (HA.out.ok B (List.mem_of_getElem? hBj))
        obtain ⟨b, o, hs, a0, a1, a2, a3⟩ := HA.out.at HJ.out.grown hBj
        subst hs
        have ga := World.grownBy_alloc wr (.cells #[.int .i64 B.lo, .int .i64 B.hi, .int .i64 B.by_, .bool B.gr] 29 (0, 0)) none
        have hb2 := JActB.new wr B
        have HJ2 := Lib.hid (HJ.out.grow HT.out.toStOk ga)
        clear hBj
        obtain ⟨lo, hi, by_, gr⟩ := B
        simp only at a0 a1 a2 a3 hb2 HJ2 ga
        generalize hwB : wr.alloc (.cells #[.int .i64 lo, .int .i64 hi, .int .i64 by_, .bool gr] 29 (0, 0)) = wB at *
        obtain ⟨b0, b1, b2, b3⟩ := hb2.at
        simp only at b0 b1 b2 b3
        have HC := Lib.hid (HT.out.add HJ2.out.d HJ2.out.ok lo hi by_ HOb.out.lo HOb.out.hi HOb.out.by_)
        clear HJ hb2 ga
        go_wp2_with fail
        refine HC.out.mono ?_
        rintro e w5 ha
        obtain ⟨u5, rfl, -, -, h5⟩ := addA_open ha
        obtain ⟨O5, h5, -, -⟩ := HJ2.out.left h5 HJ2.out.ok.add
        have H5 := Lib.hid h5
        have HL5 := Lib.hid ((addJ_same L lo hi by_).trans HLk.out)
        clear ha h5 HC HJ2 a0 a1 a2 a3 b0 b1 b2 b3
        go_wp2_with fail
        go_roundw
        case rel => exact ⟨j + 1, _, O5, by omega, by go_num, H5, HL5⟩
        case measure => simp [intOf]; omega
      · obtain rfl : j = l := by omega
        have HK := Lib.hid HJ.out.ok
        have hRl := (runsJ_side L).len
        rw [HLk.out] at hRl
        have HC := Lib.hid (HT.out.runs HJ.out.d HK.out)
        have HSd := Lib.hid (runsJ_side L)
        generalize hR : runsJ L = R at HC HSd hRl
        clear hR
        go_wp2_with fail
        refine HC.out.mono ?_
        rintro e w8 ⟨u8, rfl, r8, -, g8⟩
        obtain ⟨s8, c8, e8⟩ := rowOf_form r8
        subst e8
        have H8 := Lib.hid (show RK D w w8 p L O2 (.slice s8 R.length c8) R from ⟨HJ.out.grow HT.out.toStOk g8, r8⟩)
        clear r8 g8 HJ HC
        rw [HLk.out] at HSd
        go_wp2_with fail
        go_loopw [9, 10, 51] (fun av sv iv wr => ∃ i m : Nat, i ≤ R.length ∧ m ≤ k ∧ av = .int .i64 m ∧ sv = .int .i64 (sumTo L m) ∧ iv = .int .i64 i ∧ Hid (Side L m (R.drop i) k) ∧ Hid (RK D w wr p L O2 (.slice s8 R.length c8) R)) (fun _ _ iv _ => R.length - (intOf iv).toNat)
        case atStart => exact ⟨0, 0, by omega, by omega, rfl, rfl, rfl, HSd, H8⟩
        case round =>
          clear H8
          obtain ⟨i, m, hi, hm, rfl, rfl, rfl, HS, HJ⟩ := hrel
          by_cases hlt2 : i < R.length
          · obtain ⟨r, hr⟩ : ∃ r, R[i]? = some r := ⟨_, List.getElem?_eq_getElem hlt2⟩
            obtain ⟨g, o, c', hv', k0, k1', k2⟩ := run_cells HJ.out.row hr
            injection hv' with e1 e2 e3
            subst e1 e3
            have hsd := HS.out
            rw [drop_cons hr] at hsd
            obtain ⟨f0, f1, f2, f3, f4⟩ := hsd
            have f5 := f4.le
            obtain ⟨d, hd⟩ : ∃ d : Nat, r.hi = (m : Int) + d := ⟨(r.hi - m).toNat, by omega⟩
            have hd0 : 0 < d := by omega
            have hdk : m + d ≤ k := by omega
            have hnb : 0 ≤ r.n ∧ r.n ≤ 1000000 := by
              have e1 := f2 m (by omega) (by omega)
              have e2 := getD_mem (L := L) (i := m) (by rw [HLk.out]; omega)
              rw [e1] at e2
              exact ⟨HK.out.lo _ e2, HK.out.hi _ e2⟩
            have HAt := Lib.hid (show ∀ j : Nat, m ≤ j → j < m + d → atJ L j = r.n from fun j h1 h2 => by
              unfold atJ
              rw [if_pos ⟨by omega, by rw [HLk.out]; omega⟩, Int.toNat_natCast]
              exact f2 j (by omega) (by omega))
            have HSum := Lib.hid (sumTo_run (L := L) (k := m) (m := d) (n := r.n) (by rw [HLk.out]; exact hdk) fun j h1 h2 => f2 j (by omega) (by omega))
            have HSb := Lib.hid (sumTo_bounds HK.out m (by rw [HLk.out]; omega))
            have HNx := Lib.hid (show Side L ((m + d : Nat) : Int) (R.drop (i + 1)) k by rw [show ((m + d : Nat) : Int) = r.hi by omega]; exact f4)
            have HPr := Lib.hid (show ∀ i', i = i' + 1 → ∃ t, R[i']? = some t ∧ t.n ≠ r.n from fun i' e => by
              subst e
              obtain ⟨t, ht⟩ : ∃ t, R[i']? = some t := ⟨_, List.getElem?_eq_getElem (by omega)⟩
              exact ⟨t, ht, ((HSd.out.next ht hr).1).symm⟩)
            have ga := World.grownBy_alloc wr (.cells #[.int .i64 r.lo, .int .i64 r.hi, .int .i64 r.n] 48) none
            have hb := RunB.new wr r
            have HJ2 := Lib.hid (HJ.out.grow HT.out.toStOk ga)
            obtain ⟨rl, rh, rn⟩ := r
            simp only at *
            subst f0
            subst hd
            obtain ⟨n3, n4⟩ := hnb
            generalize hwB : wr.alloc (.cells #[.int .i64 (m : Int), .int .i64 ((m : Int) + (d : Int)), .int .i64 rn] 48 (0, 0)) = wB at *
            obtain ⟨b0, b1, b2⟩ := hb.at
            simp only at b0 b1 b2
            have HB := Lib.hid hb
            generalize hY : wr.heap.size = Y at *
            have e1 : decide ((m : Int) + (d : Int) ≤ (m : Int)) = false := decide_eq_false (by omega)
            have e2 : decide ((m : Int) + (d : Int) > (k : Int)) = false := decide_eq_false (by omega)
            have e3 : decide (rn < 0) = false := decide_eq_false (by omega)
            clear hr hb ga f1 f2 f3 f4 f5 HS
            go_upto_region 15 with fail
            clear k0 k1' k2
            go_cut [92] from 56 to 92 (fun v wx => v = .bool false ∧ Hid (wB.grownBy wx none))
            case first =>
              rcases Nat.eq_zero_or_pos i with hi0 | hi0
              · have e4 : decide ((i : Int) > 0) = false := decide_eq_false (by omega)
                have e4b : decide (0 < i) = false := decide_eq_false (by omega)
                clear hi0
                go_quiet (fail)
                go_wp2_with fail
                go_meet
                case rel => exact ⟨rfl, grown_draws _ _⟩
              · obtain ⟨i', hi1⟩ : ∃ i', i = i' + 1 := ⟨i - 1, by omega⟩
                obtain ⟨t, ht, htn⟩ := HPr.out i' hi1
                have e4 : decide ((i : Int) > 0) = true := decide_eq_true (by omega)
                have e4b : decide (0 < i) = true := decide_eq_true (by omega)
                have e5 : (i : Int) - 1 = (i' : Int) := by omega
                have e6 : (i' : Int) < (R.length : Int) := by omega
                have e7 : (0 : Int) ≤ (i' : Int) := by omega
                have e8 : (t.n == rn) = false := by simpa using htn
                obtain ⟨g', o', c', hv', -, -, k2⟩ := run_cells HJ2.out.row ht
                injection hv' with e1' e2' e3'
                injection e1' with e1'
                injection e1' with e4' e5'
                subst e4' e5'
                clear ht htn hi1 hi0 e2' e3'
                go_quiet (fail)
                go_wp2_with fail
                go_meet
                case rel => exact ⟨rfl, grown_draws _ _⟩
            case rest =>
              obtain ⟨rfl, HGx⟩ := hcut
              have HJ3 := Lib.hid (HJ2.out.grow HT.out.toStOk HGx.out)
              have HB3 := Lib.hid (HB.out.grow HGx.out)
              obtain ⟨b0, b1, b2⟩ := HB3.out.at
              simp only at b0 b1 b2
              clear HJ2 HB HPr HGx e1 e2 e3
              go_wp2_with fail
              go_loopw [14] (fun jv wx => ∃ q : Nat, q ≤ d ∧ jv = .int .i64 ((m : Int) + (q : Int)) ∧ Hid (RK D w wx p L O2 (.slice (some ⟨g, o, none⟩) R.length c8) R) ∧ Hid (RunB wx Y ⟨m, (m : Int) + (d : Int), rn⟩)) (fun jv _ => ((m : Int) + (d : Int) - intOf jv).toNat)
              case atStart => exact ⟨0, by omega, by simp, HJ3, HB3⟩
              case round =>
                clear HJ3 HB3 b0 b1 b2
                obtain ⟨q, hq, rfl, HJ4, HB4⟩ := hrel
                obtain ⟨b0, b1, b2⟩ := HB4.out.at
                simp only at b0 b1 b2
                by_cases hlt3 : q < d
                · have haq := HAt.out (m + q) (by omega) (by omega)
                  rw [show ((m + q : Nat) : Int) = (m : Int) + (q : Int) by omega] at haq
                  have HAtq := Lib.hid (show ∀ wx, D wx p L O2 → Calls Try.prog 17 #[.pointer (some ⟨p, 0, none⟩), .int .i64 ((m : Int) + (q : Int))] wx fun e w' => e = .returned (.int .i64 rn) ∧ wx.grownBy w' none from fun wx h => by
                    have := HT.out.at_ h HK.out ((m : Int) + (q : Int)) (okS (by omega) (by omega))
                    rwa [haq] at this)
                  clear haq
                  have e4 : decide ((m : Int) + (q : Int) < (m : Int) + (d : Int)) = true := decide_eq_true (by omega)
                  have HB5 := Lib.hid (HB4.out.grow (grown_drew1 _))
                  have HJ5 := Lib.hid (HJ4.out.grow HT.out.toStOk (grown_drew1 _))
                  have hkd := HB5.out.at.2.2
                  simp only at hkd
                  clear HJ4 HB4
                  go_wp2_with fail
                  go_region_held3 (fun W => W.cell? ⟨Y, 2, none⟩ = some (.int .i64 rn)) (exact hkd)
                    (first
                      | (go_at_call 17; with_reducible refine ((HAtq.out _ HJ5.out.c.d).mono ?_); rintro e w9 ⟨rfl, g9⟩; replace HJ5 := Lib.hid (HJ5.out.grow HT.out.toStOk g9); replace HB5 := Lib.hid (HB5.out.grow g9); replace hkd := HB5.out.at.2.2; simp only at hkd; clear g9))
                  all_goals
                    go_wp2_with fail
                    go_roundw
                    case rel => exact ⟨q + 1, by omega, by go_num, HJ5, HB5⟩
                    case measure => simp [intOf]; omega
                · obtain rfl : q = d := by omega
                  have e4 : decide ((m : Int) + (q : Int) < (m : Int) + (q : Int)) = false := decide_eq_false (by omega)
                  go_wp2_with fail
                  have hP0 : 0 ≤ rn * (q : Int) := Int.mul_nonneg n3 (by omega)
                  have hP1 := (sumTo_bounds HK.out (m + q) (by rw [HLk.out]; omega)).2
                  have hP2 := HSb.out.1
                  have hP3 := HSum.out
                  have HSv := Lib.hid (show wrap64 (sumTo L m + wrap64 (rn * ((m : Int) + (q : Int) - (m : Int)))) = sumTo L (m + q) by
                    rw [show (m : Int) + (q : Int) - (m : Int) = (q : Int) by omega, hP3]
                    rw [hP3] at hP1
                    generalize rn * (q : Int) = P at *
                    unfold wrap64
                    omega)
                  clear hP0 hP1 hP2 hP3
                  go_roundw
                  case rel => exact ⟨i + 1, m + q, by omega, by omega, by go_num, by rw [HSv.out], by go_num, HNx, HJ4⟩
                  case measure => simp [intOf]; omega
          · obtain rfl : i = R.length := by omega
            have hmk : (m : Int) = k := by have := HS.out; rw [List.drop_length] at this; exact this
            obtain rfl : m = k := by omega
            have HSm := Lib.hid (show sumTo L m = sumJ L by rw [← HLk.out]; exact sumTo_all)
            have HC := Lib.hid (HT.out.sum HJ.out.c.d HK.out)
            rw [← HSm.out] at HC
            go_wp2_with fail
            refine HC.out.mono ?_
            rintro e w9 ⟨rfl, g9⟩
            have H9 := Lib.hid (HJ.out.grow HT.out.toStOk g9)
            have HC := Lib.hid (HT.out.at_ H9.out.c.d HK.out m (okS (by omega) (by omega)))
            rw [atJ_out (by rw [HLk.out]; omega)] at HC
            clear g9 HJ
            go_wp2_with fail
            refine HC.out.mono ?_
            rintro e w10 ⟨rfl, g10⟩
            have H10 := Lib.hid (H9.out.grow HT.out.toStOk g10)
            have HC := Lib.hid (HT.out.at_ H10.out.c.d HK.out (-1) (okS (by decide) (by decide)))
            rw [atJ_out (by omega)] at HC
            clear g10 H9
            go_wp2_with fail
            refine HC.out.mono ?_
            rintro e w11 ⟨rfl, g11⟩
            have HG11 := Lib.hid (grown_trans H10.out.c.grown g11)
            clear g11 H10 HC
            go_wp2_with fail
            refine (HLv.out _).mono ?_
            rintro e w12 ⟨rfl, g12⟩
            have HG := Lib.hid (grown_trans HG11.out g12)
            clear g12
            go_wp2_with fail
            go_ret
            exact ⟨rfl, HG.out⟩
  · have d1 : (l : Int) > 60 := by omega
    clear hc
    go_wp2_with fail
    refine (HLv.out _).mono ?_
    rintro e w6 ⟨rfl, g6⟩
    have HG := Lib.hid (grown_trans H2.out.grown g6)
    clear g6
    go_wp2_with fail
    go_ret
    exact ⟨rfl, HG.out⟩
end Go.Proofs.Ytohealhkgmagmaa
