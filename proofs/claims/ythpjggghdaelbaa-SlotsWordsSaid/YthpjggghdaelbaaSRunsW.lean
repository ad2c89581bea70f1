/- SlotsRuns, walked. -/
import Derived.Test.YthpjggghdaelbaaSAct
namespace Go.Proofs.Ythpjggghdaelbaa
open Go.ChangeShapes Go.WideShapes Go.ChangeAt Go.RowKit Go.Deep
set_option linter.unusedVariables false

/-- Places of which none is taken. -/
def NoOnes (L : List Int) : Prop := ∀ j, L.getD j 0 ≠ 1
theorem NoOnes.new (n : Nat) : NoOnes (List.replicate n 0) := fun j => by
  unfold List.getD
  rw [List.getElem?_replicate]
  split <;> decide
theorem NoOnes.spoil {L : List Int} (h : NoOnes L) (i : Int) : NoOnes (spoilL L i).L := by
  unfold spoilL
  split
  · rename_i hs
    obtain ⟨k, rfl, hk, -⟩ := stL_lives (show stL L i ≠ -1 by omega)
    intro j
    simp only [Int.toNat_natCast]
    rw [getD_set _ _ _ hk]
    split
    · decide
    · exact h j
  · exact h
theorem NoOnes.count {L : List Int} (h : NoOnes L) : countL L 1 = 0 := by
  unfold countL
  have : L.countP (fun v => v == 1) = 0 := by
    rw [List.countP_eq_zero]
    intro x hx
    obtain ⟨i, hi⟩ := List.getElem?_of_mem hx
    have := h i
    rw [getD_get hi] at this
    simpa using this
  rw [this]; rfl
theorem NoOnes.mark {L : List Int} (h : NoOnes L) {j k : Nat} (hr : FreeRun L j k) : ∀ i, i ≤ k → countL (markL L j i) 1 = i := by
  intro i
  induction i with
  | zero => intro _; exact h.count
  | succ i ih =>
    intro hi
    have hg : (markL L j i).getD (j + i) 0 = 0 := by
      rw [mark_get _ _ (by have := hr.1; omega), if_neg (by omega)]
      exact hr.2 _ (by omega) (by omega)
    have hs : (markL L j i)[j + i]? = some 0 := by rw [get_getD (by rw [mark_len]; have := hr.1; omega), hg]
    show countL ((markL L j i).set (j + i) 1) 1 = _
    rw [count_set hs, ih (by omega), if_neg (by decide), if_pos rfl]
    omega
theorem test_word0 (u k : Nat) (hu : u < 18446744073709551616) : (bits .and .u64 ((u : Int) / 2 ^ k) 1 == 0) = !u.testBit k := by
  have e : (u : Int) / 2 ^ k = ((u / 2 ^ k : Nat) : Int) := by simp
  have hl : u / 2 ^ k < 18446744073709551616 := Nat.lt_of_le_of_lt (Nat.div_le_self _ _) hu
  rw [e, show (1 : Int) = ((1 : Nat) : Int) from rfl, u64_and_nat _ 1 hl (by decide), nat_bit, Nat.and_one_is_mod]
  by_cases h : u / 2 ^ k % 2 = 1
  · rw [h]; simp
  · have h0 : u / 2 ^ k % 2 = 0 := by omega
    rw [h0]; simp

set_option maxRecDepth 100000 in
set_option maxHeartbeats 4000000 in
theorem runs_walk8 (w : World) (s : Option Addr) (l c : Nat) (bs : List Int) (hB : UintsAre w s l bs) (n0 : Int) (hn : okU n0) :
    Calls Try.prog 5 #[.slice s l c, .int .u64 n0] w fun e w' => e = .returned (.bool true) ∧ w.grownBy w' none := by
  have HLv := Lib.hid lives8
  have hq := eql_slots_nil
  have hq2 := neq_slots_nil
  have u0 := hn.1
  have u1 := hn.2
  have HN := Lib.hid (sl_new_ok 100 w (by decide))
  have HA := Lib.hid hB
  clear hn hB
  go_enter Try.func5, Try.ntmps5
  go_wp2_with fail
  refine HN.out.mono ?_
  rintro e w1 ⟨r, gu, gs, rfl, h1, g1, o1⟩
  have H1 := Lib.hid (show LS w w1 r (List.replicate 100 0) gu gs from ⟨h1, o1, g1⟩)
  have HO := Lib.hid (NoOnes.new 100)
  have HLn := Lib.hid (show (List.replicate 100 (0 : Int)).length = 100 from List.length_replicate)
  generalize List.replicate 100 (0 : Int) = L0 at *
  clear h1 g1 o1 HN
  by_cases hl : l > 200
  · have hb : decide ((l : Int) > 200) = true := by simp; omega
    go_wp2_with fail
    refine (HLv.out _).mono ?_
    rintro e w2 ⟨rfl, g2⟩
    have G2 := Lib.hid (grown_trans H1.out.grown g2)
    clear g2
    go_wp2_with fail
    go_ret
    exact ⟨rfl, G2.out⟩
  · have hb : decide ((l : Int) > 200) = false := by simp; omega
    have hl2 : l ≤ 200 := by omega
    clear hl
    go_wp2_with fail
    go_loopw [7, 30] (fun _ iv wr => ∃ (j : Nat) (L : List Int), j ≤ l ∧ iv = .int .i64 j ∧ Hid (LS w wr r L gu gs) ∧ Hid (L.length = 100) ∧ Hid (NoOnes L)) (fun _ iv _ => l - (intOf iv).toNat)
    case atStart => exact ⟨0, L0, by omega, rfl, H1.out, HLn.out, HO.out⟩
    case round =>
      clear HLn HO H1
      obtain ⟨j, L, hj, rfl, HJ, HLn, HO⟩ := hrel
      by_cases hlt : j < l
      · obtain ⟨x, b, o, hx, hs, a0, hok⟩ := HA.out.at HJ.out.grown j hlt
        subst hs
        obtain ⟨q, hq3⟩ : ∃ q : Nat, x % 100 = q := Int.eq_ofNat_of_zero_le (by omega)
        have x0 := hok.1
        have x1 := hok.2
        have HC := Lib.hid (sl_spoil HJ.out.sp (q : Int))
        have HLn2 := Lib.hid ((spoil_len (L := L) (q : Int)).trans HLn.out)
        have HO2 := Lib.hid (HO.out.spoil (q : Int))
        generalize spoilL L (q : Int) = T at *
        clear hx hok
        go_wp2_with fail
        refine HC.out.mono ?_
        rintro e w2 ⟨rfl, h2⟩
        have H2 := Lib.hid (HJ.out.left h2)
        clear h2
        go_wp2_with fail
        go_roundw
        case rel => exact ⟨j + 1, T.L, by omega, by go_num, H2.out, HLn2.out, HO2.out⟩
        case measure => simp [intOf]; omega
      · obtain rfl : j = l := by omega
        obtain ⟨m, hm⟩ : ∃ m : Nat, n0 % 20 = m := Int.eq_ofNat_of_zero_le (by omega)
        have hm20 : m < 20 := by omega
        have HW := Lib.hid (sl_words HJ.out.sp)
        have hmo : mOf L = 2 := by unfold mOf; rw [HLn.out]
        rw [hmo] at HW
        clear hmo hlt
        go_wp2_with fail
        refine HW.out.mono ?_
        rintro e w2 ⟨g9, us, rfl, h2, p2, g2, o9⟩
        have HJ2 := Lib.hid (HJ.out.grow g2)
        have H9 := Lib.hid (show g9 ∉ [gu, gs] from fun hm => by have := HJ.out.sp.lt g9 (List.mem_cons_of_mem _ hm); omega)
        have HU := Lib.hid h2
        have HP := Lib.hid p2
        obtain ⟨T, hT⟩ : ∃ T, takeL L (1 + (m : Int)) = T := ⟨_, rfl⟩
        have HC := Lib.hid (sl_takeRun HJ2.out.sp (1 + (m : Int)) (okS (by omega) (by omega)))
        rw [hT] at HC
        have HT := Lib.hid hT
        clear h2 p2 g2 HW o9 hT
        go_wp2_with fail
        refine HC.out.mono ?_
        rintro e w3 ⟨rfl, h3⟩
        have HU3 := Lib.hid (HU.out.kept (h3.2.block g9 HU.out.lt H9.out))
        have H3 := Lib.hid (HJ2.out.left h3)
        have HTk := Lib.hid (show takeL L (1 + (m : Int)) = match runN L (1 + m) with | some j => ⟨j, true, markL L j (1 + m)⟩ | none => ⟨0, false, L⟩ by
          unfold takeL runL
          rw [if_pos (by omega), show (1 + (m : Int)).toNat = 1 + m by omega]
          cases runN L (1 + m) <;> rfl)
        clear h3 HC HJ HJ2 HU
        go_wp2_with fail
        go_loopw [12, 13, 14] (fun jv _ _ wr => ∃ f : Nat, f ≤ 101 ∧ jv = .int .i64 f ∧ Hid (∀ j, j < f → ¬ FreeRun L j (1 + m)) ∧ Hid (wr = w3)) (fun jv _ _ _ => 101 - (intOf jv).toNat)
        case atStart => exact ⟨0, by omega, rfl, fun j hj => by omega, rfl⟩
        case round =>
          obtain ⟨f, hf, rfl, HF, HW3⟩ := hrel
          have hw := HW3.out.symm
          subst hw
          by_cases hfit : f + (1 + m) ≤ 100
          · have e0 : decide ((f : Int) + (1 + (m : Int)) ≤ 100) = true := by simp; omega
            go_wp2_with fail
            go_loopw [13, 14] (fun bv iv wr => ∃ (i : Nat) (b : Bool), f ≤ i ∧ i ≤ f + (1 + m) ∧ iv = .int .i64 i ∧ bv = .bool b ∧ Hid (b = true ↔ ∀ h, f ≤ h → h < i → L.getD h 0 = 0) ∧ Hid (wr = w3)) (fun _ iv _ => f + (1 + m) - (intOf iv).toNat)
            case atStart => exact ⟨f, true, Nat.le_refl _, by omega, rfl, rfl, ⟨fun _ h h1 h2 => by omega, fun _ => rfl⟩, rfl⟩
            case round =>
              obtain ⟨i, b, hi0, hi1, rfl, rfl, HI, HW4⟩ := hrel
              have hw2 := HW4.out.symm
              subst hw2
              by_cases hlt : i < f + (1 + m)
              · have hi100 : i < 100 := by omega
                obtain ⟨u, hu, hlt64, hbit⟩ := HP.out.get (show i < 64 * 2 by omega)
                obtain ⟨cu, -⟩ := HU3.out.at hu
                have h2 := test_word0 u (i % 64) hlt64
                rw [hbit] at h2
                have HI2 := Lib.hid (show ((b && !usedB L i) = true ↔ ∀ h, f ≤ h → h < i + 1 → L.getD h 0 = 0) from by
                  rw [Bool.and_eq_true, HI.out]
                  have hub : (!usedB L i) = true ↔ L.getD i 0 = 0 := by unfold usedB; simp
                  rw [hub]
                  constructor
                  · rintro ⟨a1, a2⟩ h b1 b2
                    by_cases e : h = i
                    · subst e; exact a2
                    · exact a1 h b1 (by omega)
                  · intro a1
                    exact ⟨fun h b1 b2 => a1 h b1 (by omega), a1 i hi0 (by omega)⟩)
                obtain ⟨d, hd⟩ : ∃ d, (!usedB L i) = d := ⟨_, rfl⟩
                rw [hd] at h2 HI2
                obtain ⟨y, hy⟩ : ∃ y, i / 64 = y := ⟨_, rfl⟩
                obtain ⟨k, hk⟩ : ∃ k, i % 64 = k := ⟨_, rfl⟩
                have hk64 : k < 64 := by omega
                have hym : y < 2 := by omega
                rw [hy] at cu
                rw [hk] at h2
                have h4 : (i : Int) / 64 = (y : Int) := by omega
                have h5 : (i : Int) % 64 = (k : Int) := by omega
                clear hu hbit hd hy hk
                cases b
                · go_wp2_with fail
                  go_roundw
                  case rel => exact ⟨i + 1, false, by omega, by omega, by go_num, rfl, by simpa using HI2, by first | exact rfl | exact trivial⟩
                  case measure => simp [intOf]; omega
                · go_wp2_with fail
                  go_roundw
                  case rel => exact ⟨i + 1, d, by omega, by omega, by go_num, by first | rfl | trivial, by simpa using HI2, by first | exact rfl | exact trivial⟩
                  case measure => simp [intOf]; omega
              · obtain rfl : i = f + (1 + m) := by omega
                cases b
                · have HNx := Lib.hid (show ∀ j, j < f + 1 → ¬ FreeRun L j (1 + m) from fun j hj hr => by
                    by_cases hjf : j < f
                    · exact HF.out j hjf hr
                    · have e : j = f := by omega
                      subst e
                      have := HI.out.2 hr.2
                      cases this)
                  go_wp2_with fail
                  go_roundw
                  case rel => exact ⟨f + 1, by omega, by go_num, HNx.out, by first | exact rfl | exact trivial⟩
                  case measure => simp [intOf]; omega
                · have hfr : FreeRun L f (1 + m) := ⟨by rw [HLn.out]; exact hfit, HI.out.1 rfl⟩
                  have hrs : runN L (1 + m) = some f := runN_some hfr HF.out
                  have htk := HTk.out
                  rw [hrs, HT.out] at htk
                  subst htk
                  have hcn := HO.out.mark hfr (1 + m) (Nat.le_refl _)
                  have hct := sl_count H3.out.sp 1
                  simp only at hct
                  rw [hcn, show ((1 + m : Nat) : Int) = 1 + (m : Int) by omega] at hct
                  have HCt := Lib.hid hct
                  clear hfr hrs hcn hct
                  go_wp2_with fail
                  refine HCt.out.mono ?_
                  rintro e w5 ⟨rfl, e5⟩
                  subst w5
                  go_wp2_with fail
                  refine (HLv.out _).mono ?_
                  rintro e w6 ⟨rfl, g6⟩
                  have HG8 := Lib.hid (grown_trans H3.out.grown g6)
                  clear g6
                  go_wp2_with fail
                  go_ret
                  exact ⟨rfl, HG8.out⟩
          · have e0 : decide ((f : Int) + (1 + (m : Int)) ≤ 100) = false := by simp; omega
            have hnone : runN L (1 + m) = none := runN_none fun j hr => by
              by_cases hjf : j < f
              · exact HF.out j hjf hr
              · have := hr.1; have := HLn.out; omega
            have htk := HTk.out
            rw [hnone, HT.out] at htk
            subst htk
            have HW5 := Lib.hid (sl_words H3.out.sp)
            clear hnone
            go_wp2_with fail
            refine HW5.out.mono ?_
            rintro e w5 ⟨ga, vs, rfl, h5, p5, g5, o5⟩
            have hmo : mOf L = 2 := by unfold mOf; rw [HLn.out]
            have hvs : vs = us := WordsAre.uniq p5 (by rw [show mOf (SR.mk 0 false L).L = 2 from hmo]; exact HP.out) fun _ _ => rfl
            subst hvs
            have hlen := HP.out.len
            have hsame := rf_same (ca := 2) (cb := 2) h5 (HU3.out.kept (g5.block _ HU3.out.lt (by simp))) (by omega) (by omega) true (by simp)
            rw [hlen] at hsame
            have HSm := Lib.hid hsame
            have HG5 := Lib.hid (grown_trans H3.out.grown g5)
            simp only [hmo]
            clear h5 p5 g5 o5 hsame
            go_wp2_with fail
            refine HSm.out.mono ?_
            rintro e w6 ⟨rfl, g6⟩
            have HG6 := Lib.hid (grown_trans HG5.out g6)
            clear g6
            go_wp2_with fail
            refine (HLv.out _).mono ?_
            rintro e w7 ⟨rfl, g7⟩
            have HG8 := Lib.hid (grown_trans HG6.out g7)
            clear g7
            go_wp2_with fail
            go_ret
            exact ⟨rfl, HG8.out⟩
end Go.Proofs.Ythpjggghdaelbaa
