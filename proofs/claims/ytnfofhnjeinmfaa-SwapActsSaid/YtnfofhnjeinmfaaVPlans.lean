/- SwapPlans, walked out of what package swap says. -/
import Derived.Test.YtnfofhnjeinmfaaVOk
namespace Go.Proofs.Ytnfofhnjeinmfaa
open Go.ChangeShapes Go.WideShapes Go.ChangeAt Go.RowKit Go.Deep
set_option linter.unusedVariables false

/-- One page of noughts, plans of so many, so much done. -/
def stQ (a b j1 j2 : Nat) : VS := ⟨[pageZ], ((b - j2 : Nat) : Int), ((a - j1 : Nat) : Int), (j2 : Int), (j1 : Int)⟩
theorem fill_nil : fillOf [] = pageZ := rfl
theorem stQ_ok {a b j1 j2 : Nat} (ha : a < 20) (hb : b < 20) (h1 : j1 ≤ 40) (h2 : j2 ≤ 40) : (stQ a b j1 j2).Ok 1000 :=
  ⟨by show 1 ≤ 256; decide, fun p hp => by rw [List.mem_singleton.1 hp]; exact pageZ_length, by show (0 : Int) ≤ ((b - j2 : Nat) : Int); omega, by show ((b - j2 : Nat) : Int) < _; omega, by show (0 : Int) ≤ ((a - j1 : Nat) : Int); omega, by show ((a - j1 : Nat) : Int) < _; omega, by show (0 : Int) ≤ (j2 : Int); omega, by show (j2 : Int) ≤ 1000; omega, by show (0 : Int) ≤ (j1 : Int); omega, by show (j1 : Int) ≤ 1000; omega⟩
theorem stQ_has (a b j1 j2 : Nat) : (stQ a b j1 j2).has 0 := ⟨Int.le_refl _, by show (0 : Int) < 1; decide⟩
theorem dec_sub (a j : Nat) : decV ((a - j : Nat) : Int) = ((a - (j + 1) : Nat) : Int) := by
  unfold decV
  split <;> omega
theorem stQ_write (a b j1 j2 : Nat) : writeV (stQ a b j1 j2) 0 pageZ = (if a = j1 + 1 then 6 else 0, stQ a b (j1 + 1) j2) := by
  have h := dec_sub a j1
  unfold writeV
  rw [if_pos ⟨stQ_has _ _ _ _, pageZ_length⟩]
  by_cases e : a = j1 + 1
  · rw [if_pos e, if_pos (show (stQ a b j1 j2).pw = 1 from by show ((a - j1 : Nat) : Int) = 1; omega)]
    unfold stQ
    rw [show ((a - (j1 + 1) : Nat) : Int) = 0 by omega]
    rfl
  · rw [if_neg e, if_neg (show ¬ (stQ a b j1 j2).pw = 1 from by show ¬ ((a - j1 : Nat) : Int) = 1; omega)]
    unfold stQ
    simp only
    rw [h]
    rfl
theorem stQ_read (a b j1 j2 : Nat) : readV (stQ a b j1 j2) 0 = (if b = j2 + 1 then 6 else 0, if b = j2 + 1 then [] else pageZ, stQ a b j1 (j2 + 1)) := by
  have h := dec_sub b j2
  unfold readV
  rw [if_pos (stQ_has _ _ _ _)]
  by_cases e : b = j2 + 1
  · rw [if_pos e, if_pos e, if_pos (show (stQ a b j1 j2).pr = 1 from by show ((b - j2 : Nat) : Int) = 1; omega)]
    unfold stQ
    rw [show ((b - (j2 + 1) : Nat) : Int) = 0 by omega]
    rfl
  · rw [if_neg e, if_neg e, if_neg (show ¬ (stQ a b j1 j2).pr = 1 from by show ¬ ((b - j2 : Nat) : Int) = 1; omega)]
    unfold stQ
    simp only
    rw [h]
    rfl
theorem stQ_no (a b j1 j2 : Nat) : writeV (stQ a b j1 j2) 1 pageZ = (2, stQ a b j1 j2) := if_neg fun h => absurd h.1.2 (by show ¬ (1 : Int) < 1; decide)
theorem plan_1 (a : Nat) : planV (newV 1) true a = (0, stQ a 0 0 0) := by
  unfold planV
  rw [if_neg (by omega)]
  rfl
theorem plan_2 (a b : Nat) : planV (stQ a 0 0 0) false b = (0, stQ a b 0 0) := by
  unfold planV
  rw [if_neg (by omega)]
  rfl
theorem nil_src (w : World) : Src w none 0 [] := ⟨rfl, .inl rfl⟩

set_option maxRecDepth 100000 in
set_option maxHeartbeats 4000000 in
theorem plans_walk9 {D : World → Nat → VS → List Nat → Prop} (H : SwOk D) (w : World) (n0 m0 k0 : Int) (hn : okU n0) (hm : okU m0) (hk : okU k0) :
    Calls Try.prog 5 #[.int .u64 n0, .int .u64 m0, .int .u64 k0] w fun e w' => e = .returned (.bool true) ∧ w.grownBy w' none := by
  have HLv := Lib.hid (fun wx => lives9 H wx)
  have HT := Lib.hid H
  obtain ⟨a, ha⟩ : ∃ a : Nat, n0 % 20 = a := Int.eq_ofNat_of_zero_le (by omega)
  obtain ⟨b, hb⟩ : ∃ b : Nat, m0 % 20 = b := Int.eq_ofNat_of_zero_le (by omega)
  obtain ⟨c, hc⟩ : ∃ c : Nat, k0 % 30 = c := Int.eq_ofNat_of_zero_le (by omega)
  have a1 : a < 20 := by omega
  have b1 : b < 20 := by omega
  have c1 : c < 30 := by omega
  have n1 := hn.1
  have n2 := hn.2
  have m1 := hm.1
  have m2 := hm.2
  have k1 := hk.1
  have k2 := hk.2
  have HN := Lib.hid (H.new w 1 (by decide))
  clear H hn hm hk
  go_enter Try.func5, Try.ntmps5
  go_wp2_with fail
  refine HN.out.mono ?_
  rintro e w1 ⟨p, O, rfl, h1, g1, o1⟩
  have H1 := Lib.hid (show LV D w w1 p (newV 1) O 0 from ⟨h1, o1, g1, newV_ok 1 (by decide)⟩)
  have hk := HT.out.plan h1 H1.out.ok true (a : Int) (okS (by omega) (by omega))
  rw [plan_1] at hk
  have HK := Lib.hid hk
  clear hk h1 g1 o1 HN
  go_wp2_with fail
  refine HK.out.mono ?_
  rintro e w2 ⟨rfl, h2⟩
  obtain ⟨O2, h2, -, -⟩ := H1.out.left h2 (k' := 1000) (stQ_ok a1 (by decide) (by decide) (by decide))
  have hk := HT.out.plan h2.d h2.ok false (b : Int) (okS (by omega) (by omega))
  rw [plan_2] at hk
  have HK2 := Lib.hid hk
  have H2 := Lib.hid h2
  clear hk h2 HK H1
  go_wp2_with fail
  refine HK2.out.mono ?_
  rintro e w3 ⟨rfl, h3⟩
  obtain ⟨O3, h3, -, -⟩ := H2.out.left h3 (k' := 1000) (stQ_ok a1 b1 (by decide) (by decide))
  have H3 := Lib.hid h3
  clear h3 HK2 H2
  go_wp2_with fail
  go_loopw [11] (fun iv wr => ∃ (j : Nat) (O : List Nat), j ≤ c ∧ iv = .int .i64 ((j : Int) + 1) ∧ Hid (LV D w wr p (stQ a b j j) O 1000)) (fun iv _ => c + 1 - (intOf iv).toNat)
  case atStart => exact ⟨0, O3, by omega, rfl, H3.out⟩
  case round =>
    clear H3
    obtain ⟨j, O4, hj, rfl, HJ⟩ := hrel
    by_cases hlt : j < c
    · have e0 : decide ((j : Int) + 1 ≤ (c : Int)) = true := by simp; omega
      have HP := Lib.hid (page_ok 0 (nil_src wr) (by decide))
      go_wp2_with fail
      refine HP.out.mono ?_
      rintro e w4 ⟨g, rfl, hg, hbs, g4⟩
      have H4 := Lib.hid (HJ.out.grow HT.out g4)
      rw [fill_nil] at hbs
      have hsrc := hbs.src
      rw [pageZ_length] at hsrc
      have hk := HT.out.write H4.out.d H4.out.ok (by decide) 0 (some ⟨g, 0, none⟩) 4096 4096 pageZ (okS (by decide) (by decide)) hsrc (by decide) (fun _ ad e hm => by cases e; have := HT.out.lt HJ.out.d g hm; omega)
      rw [stQ_write] at hk
      have HK := Lib.hid hk
      clear hk hsrc hbs hg g4 HP
      by_cases ea : a = j + 1
      · rw [if_pos ea] at HK
        have fa : ((j : Int) + 1 == (a : Int)) = true := beq_iff_eq.2 (by omega)
        have HEa := Lib.hid ea
        clear ea
        go_wp2_with fail
        refine HK.out.mono ?_
        rintro e w5 ⟨rfl, h5⟩
        obtain ⟨O5, h5, -, -⟩ := H4.out.left h5 (k' := 1000) (stQ_ok a1 b1 (by omega) (by omega))
        have hk := HT.out.read h5.d h5.ok (by decide) 0 (okS (by decide) (by decide))
        rw [stQ_read] at hk
        have HK2 := Lib.hid hk
        have H5 := Lib.hid h5
        clear hk h5 HK H4
        by_cases eb : b = j + 1
        · simp only [if_pos eb] at HK2
          have fb : ((j : Int) + 1 == (b : Int)) = true := beq_iff_eq.2 (by omega)
          clear eb
          go_wp2_with fail
          refine HK2.out.mono ?_
          rintro e w6 ⟨u, O6, rfl, h6, t6, o6, -⟩
          obtain ⟨O7, h7, -, -⟩ := H5.out.left (k' := 1000) ⟨O6, h6, t6, o6⟩ (stQ_ok a1 b1 (by omega) (by omega))
          have H7 := Lib.hid h7
          clear h6 t6 o6 h7
          go_wp2_with fail
          go_roundw
          case rel => exact ⟨j + 1, O7, by omega, by go_num, H7⟩
          case measure => simp [intOf]; omega
        · simp only [if_neg eb] at HK2
          have fb : ((j : Int) + 1 == (b : Int)) = false := beq_eq_false_iff_ne.2 (by omega)
          clear eb
          go_wp2_with fail
          refine HK2.out.mono ?_
          rintro e w6 ⟨u, O6, rfl, h6, t6, o6, -⟩
          obtain ⟨O7, h7, -, -⟩ := H5.out.left (k' := 1000) ⟨O6, h6, t6, o6⟩ (stQ_ok a1 b1 (by omega) (by omega))
          have H7 := Lib.hid h7
          clear h6 t6 o6 h7
          go_wp2_with fail
          go_roundw
          case rel => exact ⟨j + 1, O7, by omega, by go_num, H7⟩
          case measure => simp [intOf]; omega
      · rw [if_neg ea] at HK
        have fa : ((j : Int) + 1 == (a : Int)) = false := beq_eq_false_iff_ne.2 (by omega)
        have HEa := Lib.hid ea
        clear ea
        go_wp2_with fail
        refine HK.out.mono ?_
        rintro e w5 ⟨rfl, h5⟩
        obtain ⟨O5, h5, -, -⟩ := H4.out.left h5 (k' := 1000) (stQ_ok a1 b1 (by omega) (by omega))
        have hk := HT.out.read h5.d h5.ok (by decide) 0 (okS (by decide) (by decide))
        rw [stQ_read] at hk
        have HK2 := Lib.hid hk
        have H5 := Lib.hid h5
        clear hk h5 HK H4
        by_cases eb : b = j + 1
        · simp only [if_pos eb] at HK2
          have fb : ((j : Int) + 1 == (b : Int)) = true := beq_iff_eq.2 (by omega)
          clear eb
          go_wp2_with fail
          refine HK2.out.mono ?_
          rintro e w6 ⟨u, O6, rfl, h6, t6, o6, -⟩
          obtain ⟨O7, h7, -, -⟩ := H5.out.left (k' := 1000) ⟨O6, h6, t6, o6⟩ (stQ_ok a1 b1 (by omega) (by omega))
          have H7 := Lib.hid h7
          clear h6 t6 o6 h7
          go_wp2_with fail
          go_roundw
          case rel => exact ⟨j + 1, O7, by omega, by go_num, H7⟩
          case measure => simp [intOf]; omega
        · simp only [if_neg eb] at HK2
          have fb : ((j : Int) + 1 == (b : Int)) = false := beq_eq_false_iff_ne.2 (by omega)
          clear eb
          go_wp2_with fail
          refine HK2.out.mono ?_
          rintro e w6 ⟨u, O6, rfl, h6, t6, o6, -⟩
          obtain ⟨O7, h7, -, -⟩ := H5.out.left (k' := 1000) ⟨O6, h6, t6, o6⟩ (stQ_ok a1 b1 (by omega) (by omega))
          have H7 := Lib.hid h7
          clear h6 t6 o6 h7
          go_wp2_with fail
          go_roundw
          case rel => exact ⟨j + 1, O7, by omega, by go_num, H7⟩
          case measure => simp [intOf]; omega
    · obtain rfl : j = c := by omega
      have e0 : decide ((j : Int) + 1 ≤ (j : Int)) = false := decide_eq_false (by omega)
      have HC := Lib.hid (show Calls Try.prog 20 #[.pointer (some ⟨p, 0, none⟩)] wr fun e w' => e = .returned (.tuple #[.int .i64 (j : Int), .int .i64 (j : Int)]) ∧ wr.grownBy w' none from HT.out.count HJ.out.d)
      clear hlt
      go_wp2_with fail
      refine HC.out.mono ?_
      rintro e w4 ⟨rfl, g4⟩
      have H4 := Lib.hid (HJ.out.grow HT.out g4)
      have HP := Lib.hid (page_ok 0 (nil_src w4) (by decide))
      clear g4 HC
      go_wp2_with fail
      refine HP.out.mono ?_
      rintro e w5 ⟨g, rfl, hg, hbs, g5⟩
      have H5 := Lib.hid (H4.out.grow HT.out g5)
      rw [fill_nil] at hbs
      have hsrc := hbs.src
      rw [pageZ_length] at hsrc
      have hk := HT.out.write H5.out.d H5.out.ok (by decide) 1 (some ⟨g, 0, none⟩) 4096 4096 pageZ (okS (by decide) (by decide)) hsrc (by decide) (fun _ ad e hm => by cases e; have := HT.out.lt H4.out.d g hm; omega)
      rw [stQ_no] at hk
      have HK := Lib.hid hk
      clear hk hsrc hbs hg g5 HP
      go_wp2_with fail
      refine HK.out.mono ?_
      rintro e w6 ⟨rfl, h6⟩
      obtain ⟨O6, h6, -, -⟩ := H5.out.left (k' := 1000) h6 (stQ_ok a1 b1 (by omega) (by omega))
      have H6 := Lib.hid h6
      clear h6 HK
      go_wp2_with fail
      refine (HLv.out _).mono ?_
      rintro e w7 ⟨rfl, g7⟩
      have HG := Lib.hid (grown_trans H6.out.grown g7)
      clear g7
      go_wp2_with fail
      go_ret
      exact ⟨rfl, HG.out⟩
end Go.Proofs.Ytnfofhnjeinmfaa
