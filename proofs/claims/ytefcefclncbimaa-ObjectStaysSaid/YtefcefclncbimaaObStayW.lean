/- ObjectStays, walked out of what package object says. -/
import Derived.Test.YtefcefclncbimaaObStay
import Derived.Test.YtefcefclncbimaaZUints
import Derived.Deep.CutBlock
import Derived.Deep.DeepCutAuto
namespace Go.Proofs.Ytefcefclncbimaa
open Go.ChangeShapes Go.WideShapes Go.ChangeAt Go.RowKit Go.Deep
set_option linter.unusedVariables false

theorem neq_pg (w : World) (a b d e : Int) (c f t : Bool) (h : decide (a = d ∧ b = e ∧ c = f) = t) : (binOp .neq 30 (.agg #[.int .i64 a, .int .i64 b, .bool c]) (.agg #[.int .i64 d, .int .i64 e, .bool f])).run Try.prog w = .ok (.bool (!t)) w := by
  subst h
  go_simp
  by_cases h1 : a = d <;> by_cases h2 : b = e <;> by_cases h3 : c = f <;> simp [h1, h2, h3]
theorem tidy_some {f r : Int} {l : PgL} (h : l.length ≠ 0) : tidyO ⟨f, r, l⟩ = some ⟨f, r, l⟩ := if_neg fun k => h k.2
theorem tidy_re {f r : Int} {l : PgL} (h : r ≠ 0) : tidyO ⟨f, r, l⟩ = some ⟨f, r, l⟩ := if_neg fun k => h k.1
theorem tidy_none {f : Int} {l : PgL} (h : l.length = 0) : tidyO ⟨f, 0, l⟩ = none := if_pos ⟨rfl, h⟩
theorem tidy_get {l : PgL} {k : Int} (h : lookO l k = none) : getO [tidyO ⟨7, 0, l⟩] 1 k = none := by
  by_cases h0 : l.length = 0
  · rw [tidy_none h0]; rfl
  · rw [tidy_some h0, one_get]; exact h
theorem tidy_find {l : PgL} : findO [tidyO ⟨7, 0, l⟩] 7 = if l.length = 0 then 0 else 1 := by
  by_cases h0 : l.length = 0
  · rw [tidy_none h0, if_pos h0]; rfl
  · rw [tidy_some h0, if_neg h0]; rfl
theorem look_del (l : PgL) (k : Int) : lookO (delO l k) k = none := look_no fun n hn => by
  have := (List.mem_filter.1 hn).2
  simpa using this

set_option maxRecDepth 100000 in
set_option maxHeartbeats 1000000 in
theorem stays_walk14 {D : World → Nat → Nat → ObL → List Nat → Prop} (H : ObOk D) (w : World) (r0 : Int) (sa : Option Addr) (l c : Nat) (ds : List Int) (hr0 : okU r0) (hU : UintsAre w sa l ds) :
    Calls Try.prog 4 #[.int .u64 r0, .slice sa l c] w fun e w' => e = .returned (.bool true) ∧ w.grownBy w' none := by
  have HLv := Lib.hid (fun wx => lives14 H wx)
  have HT := Lib.hid H
  have HU := Lib.hid hU
  have HN := Lib.hid (H.new 3 w (by decide))
  by_cases hl60 : l ≤ 60
  · have d60 : decide ((l : Int) > 60) = false := decide_eq_false (by omega)
    obtain ⟨n, hn1, hn2⟩ : ∃ n : Nat, r0 % 9 = n ∧ n < 9 := ⟨(r0 % 9).toNat, by omega, by omega⟩
    have hnm : r0.tmod 9 = (n : Int) := by rw [Int.tmod_eq_emod_of_nonneg hr0.1]; exact hn1
    clear H hU
    go_enter Try.func4, Try.ntmps4
    go_wp2_with fail
    refine HN.out.mono ?_
    rintro e w1 ⟨p, O, rfl, h1, g1, o1⟩
    have H1 := Lib.hid (show LO D w w1 p 3 [] O from ⟨h1, o1, g1⟩)
    have hk := HT.out.make H1.out.d 7 (okS (by decide) (by decide))
    rw [one_make] at hk
    have HK := Lib.hid hk
    clear hk h1 g1 o1 HN
    go_wp2_with fail
    refine HK.out.mono ?_
    rintro e w2 ⟨rfl, h2⟩
    obtain ⟨O2, h2, -, -⟩ := H1.out.left h2
    have H2 := Lib.hid h2
    have hk := HT.out.make H2.out.d 7 (okS (by decide) (by decide))
    rw [one_busy] at hk
    have HK2 := Lib.hid hk
    clear hk h2 HK H1
    go_wp2_with fail
    refine HK2.out.mono ?_
    rintro e w3 ⟨rfl, h3⟩
    obtain ⟨O3, h3, -, -⟩ := H2.out.left h3
    have H3 := Lib.hid h3
    have hk := HT.out.ref H3.out.d 1 (1 + (n : Int) - 1) (okS (by decide) (by decide)) (okS (by omega) (by omega))
    rw [one_ref (o := ⟨7, 1, []⟩) (n := 1 + (n : Int) - 1) ⟨by show -(1 : Int) ≤ 1 + (n : Int) - 1; omega, by show 1 + (n : Int) - 1 ≤ 1000000 - 1; omega⟩] at hk
    simp only at hk
    rw [show (1 : Int) + (1 + (n : Int) - 1) = 1 + (n : Int) by omega] at hk
    rw [tidy_re (by omega)] at hk
    have HK3 := Lib.hid hk
    clear hk h3 HK2 H2 hn1
    go_wp2_with fail
    refine HK3.out.mono ?_
    rintro e w4 ⟨rfl, h4⟩
    obtain ⟨O4, h4, -, -⟩ := H3.out.left h4
    have H4 := Lib.hid (show SJ D w w4 p 3 [some ⟨7, 1 + (n : Int), []⟩] O4 (.slice none 0 0) [] from ⟨h4, RowAt.nil _ _, fun b e => by cases e⟩)
    clear h4 HK3 H3
    go_wp2_with fail
    go_loopw [13, 64] (fun uv iv wr => ∃ (j : Nat) (lp : PgL) (Z : List Int) (O : List Nat), j ≤ l ∧ iv = .int .i64 (j : Int) ∧ Hid (KeysO lp Z) ∧ Hid (Z.length ≤ j) ∧ Hid (SJ D w wr p 3 [some ⟨7, 1 + (n : Int), lp⟩] O uv Z)) (fun _ iv _ => l - (intOf iv).toNat)
    case atStart => exact ⟨0, [], [], O4, by omega, rfl, KeysO.nil, Lib.hid (Nat.le_refl _), H4⟩
    case round =>
      clear H4
      obtain ⟨j, lp, Z, O, hj, rfl, HKe, HZl, HJ⟩ := hrel
      have hzl := HZl.out
      by_cases hlt : j < l
      · obtain ⟨d, g, o, hd, hs, cd, hdo⟩ := HU.out.get j hlt
        have cd2 := HJ.out.o.grown.cell (a := ⟨g, o + j, none⟩) cd (by simp)
        subst hs
        obtain ⟨k, hk1, hk2⟩ : ∃ k : Nat, d % 4096 = k ∧ k < 4096 := ⟨(d % 4096).toNat, by omega, by omega⟩
        have hkm : d.tmod 4096 = (k : Int) := by rw [Int.tmod_eq_emod_of_nonneg hdo.1]; exact hk1
        have hk := HT.out.put HJ.out.o.d 1 (k : Int) (k : Int) 0 false (okS (by decide) (by decide)) (okS (by omega) (by omega))
        rw [one_put (by omega)] at hk
        have HK := Lib.hid hk
        have HKe2 := Lib.hid (HKe.out.put (k := (k : Int)) (x := ⟨(k : Int), 0, false⟩) (by omega))
        have HZl2 := Lib.hid (show (withZ Z (k : Int)).length ≤ j + 1 from Nat.le_trans withZ_len (by omega))
        obtain ⟨su, cu, hu⟩ := rowOf_form HJ.out.row
        subst hu
        clear hk hk1 hd cd hdo
        go_wp2_with fail
        refine HK.out.mono ?_
        rintro e w5 ⟨rfl, h5⟩
        obtain ⟨O5, h5⟩ := HJ.out.left h5
        have H5 := Lib.hid h5
        have HW := Lib.hid (with_ok h5.row (by omega) (k : Int))
        clear h5 HK HJ
        go_wp2_with fail
        refine HW.out.mono ?_
        rintro e w6 ⟨u6, rfl, hr6, hu6, g6⟩
        have H6 := Lib.hid (H5.out.rerow HT.out.toStOkO g6 hr6 hu6)
        clear hr6 hu6 g6 HW H5
        go_wp2_with fail
        go_roundw
        case rel => exact ⟨j + 1, _, _, O5, by omega, by go_num, HKe2, HZl2, H6⟩
        case measure => simp [intOf]; omega
      · obtain rfl : j = l := by omega
        have hk := HT.out.ref HJ.out.o.d 1 (-(1 + (n : Int))) (okS (by decide) (by decide)) (okS (by omega) (by omega))
        rw [one_ref (o := ⟨7, 1 + (n : Int), lp⟩) (n := -(1 + (n : Int))) ⟨Int.le_refl _, by show -(1 + (n : Int)) ≤ 1000000 - (1 + (n : Int)); omega⟩] at hk
        simp only at hk
        rw [show 1 + (n : Int) + -(1 + (n : Int)) = 0 by omega] at hk
        have HK := Lib.hid hk
        have hlz : Z.length ≤ 60 := by omega
        obtain ⟨su, cu, hu⟩ := rowOf_form HJ.out.row
        subst hu
        clear hk
        go_wp2_with fail
        refine HK.out.mono ?_
        rintro e w5 ⟨rfl, h5⟩
        obtain ⟨O5, h5⟩ := HJ.out.left h5
        have H5 := Lib.hid h5
        clear h5 HK HJ
        go_wp2_with fail
        go_loopw [98] (fun iv wr => ∃ (i : Nat) (lq : PgL) (O : List Nat), i ≤ Z.length ∧ iv = .int .i64 (i : Int) ∧ Hid (KeysO lq (Z.drop i)) ∧ Hid (SJ D w wr p 3 [tidyO ⟨7, 0, lq⟩] O (.slice su Z.length cu) Z)) (fun iv _ => Z.length - (intOf iv).toNat)
        case atStart => exact ⟨0, lp, O5, by omega, rfl, HKe, H5⟩
        case round =>
          clear H5 HKe
          obtain ⟨i, lq, O6, hi, rfl, HKe, HJ⟩ := hrel
          have hql := HKe.out.len
          rw [List.length_drop] at hql
          by_cases hlt : i < Z.length
          · obtain ⟨k, hk⟩ : ∃ k, Z[i]? = some k := ⟨_, List.getElem?_eq_getElem hlt⟩
            obtain ⟨g, o, cc, hv, k0⟩ := z_cells HJ.out.row hk
            injection hv with e1 e2 e3
            subst e1 e3
            have hdr : Z.drop i = k :: Z.drop (i + 1) := by rw [List.drop_eq_getElem_cons hlt]; congr 1; exact (List.getElem?_eq_some_iff.1 hk).2
            have hke := HKe.out
            rw [hdr] at hke
            obtain ⟨y, hy⟩ := hke.has.1 (List.mem_cons_self ..)
            have hkr := hke.good.rng _ (look_some hy)
            simp only at hkr
            have hok : okI k := ⟨by omega, by omega⟩
            have HKe2 := Lib.hid hke.del
            have hno := look_del lq k
            have hdl := HKe2.out.len
            rw [List.length_drop] at hdl
            have htd : tidyO ⟨7, 0, lq⟩ = some ⟨7, 0, lq⟩ := tidy_some (by omega)
            have hJ := HJ.out
            rw [htd] at hJ
            have hof := HT.out.ofG hJ.o.d 7 (okS (by decide) (by decide))
            rw [one_find] at hof
            have HOf := Lib.hid hof
            have HJ2 := Lib.hid hJ
            clear hk hdr hof hJ htd HJ
            have hq := fun wx => neq_pg wx 0 0 0 0 false false true (by decide)
            go_wp2_with fail
            refine HOf.out.mono ?_
            rintro e w6 ⟨rfl, g6⟩
            have H6 := Lib.hid (HJ2.out.grow HT.out.toStOkO g6)
            have hk := HT.out.fileG H6.out.o.d 1 (okS (by decide) (by decide))
            rw [one_file] at hk
            simp only at hk
            have HK := Lib.hid hk
            clear hk g6 HOf HJ2
            go_wp2_with fail
            refine HK.out.mono ?_
            rintro e w7 ⟨rfl, g7⟩
            have H7 := Lib.hid (H6.out.grow HT.out.toStOkO g7)
            have hk := HT.out.drop H7.out.o.d 1 k (okS (by decide) (by decide)) hok
            rw [one_get, one_drop (o := ⟨7, 0, lq⟩) hy] at hk
            simp only at hk
            rw [hy] at hk
            have HK2 := Lib.hid hk
            clear hk g7 HK H6 hy
            go_wp2_with fail
            refine HK2.out.mono ?_
            rintro e w8 ⟨rfl, h8⟩
            obtain ⟨O8, h8⟩ := H7.out.left h8
            have H8 := Lib.hid h8
            have hk := HT.out.drop H8.out.o.d 1 k (okS (by decide) (by decide)) hok
            rw [drop_no (tidy_get hno), tidy_get hno] at hk
            have HK3 := Lib.hid hk
            clear hk h8 HK2 H7
            go_wp2_with fail
            refine HK3.out.mono ?_
            rintro e w9 ⟨rfl, h9⟩
            obtain ⟨O9, h9⟩ := H8.out.left h9
            have H9 := Lib.hid h9
            have hk := HT.out.get H9.out.o.d 1 k (okS (by decide) (by decide)) hok
            rw [tidy_get hno] at hk
            unfold getVO pgAgg zeroP at hk
            have HK4 := Lib.hid hk
            clear hk h9 HK3 H8
            go_wp2_with fail
            refine HK4.out.mono ?_
            rintro e wa ⟨rfl, ga⟩
            have hA := H9.out.grow HT.out.toStOkO (grown_trans ga (World.grownBy_alloc wa (.cells #[.int .i64 0, .int .i64 0, .bool false] 30 (0, 0)) none))
            have HA := Lib.hid hA
            have hk := HT.out.ofG hA.o.d 7 (okS (by decide) (by decide))
            rw [tidy_find] at hk
            have hsw : (((i : Int) == (Z.length : Int) - 1) = true ∧ (delO lq k).length = 0) ∨ (((i : Int) == (Z.length : Int) - 1) = false ∧ ¬ (delO lq k).length = 0) := by
              by_cases hz : i + 1 = Z.length
              · exact .inl ⟨by simp; omega, by omega⟩
              · exact .inr ⟨by simp; omega, by omega⟩
            clear ga HK4 H9 hA hdl hno
            rcases hsw with ⟨d9, hz⟩ | ⟨d9, hz⟩
            · rw [if_pos hz] at hk
              have HK5 := Lib.hid hk
              clear hk hz
              go_wp2_with fail
              refine HK5.out.mono ?_
              rintro e wb ⟨rfl, gb⟩
              have HB := Lib.hid (HA.out.grow HT.out.toStOkO gb)
              clear gb HK5 HA
              go_wp2_with fail
              go_roundw
              case rel => exact ⟨i + 1, _, O9, by omega, by go_num, HKe2, HB⟩
              case measure => simp [intOf]; omega
            · rw [if_neg hz] at hk
              have HK5 := Lib.hid hk
              clear hk hz
              go_wp2_with fail
              refine HK5.out.mono ?_
              rintro e wb ⟨rfl, gb⟩
              have HB := Lib.hid (HA.out.grow HT.out.toStOkO gb)
              clear gb HK5 HA
              go_wp2_with fail
              go_roundw
              case rel => exact ⟨i + 1, _, O9, by omega, by go_num, HKe2, HB⟩
              case measure => simp [intOf]; omega
          · obtain rfl : i = Z.length := by omega
            have hJ := HJ.out
            rw [tidy_none (by omega)] at hJ
            have HJ2 := Lib.hid hJ
            have hk := HT.out.make hJ.o.d 0 (okS (by decide) (by decide))
            rw [none_make] at hk
            have HK := Lib.hid hk
            clear hk hJ HJ
            go_wp2_with fail
            refine HK.out.mono ?_
            rintro e w7 ⟨rfl, h7⟩
            obtain ⟨O7, h7⟩ := HJ2.out.left h7
            have H7 := Lib.hid h7
            have hk := HT.out.ofG H7.out.o.d 7 (okS (by decide) (by decide))
            rw [last_find] at hk
            have HK2 := Lib.hid hk
            clear hk h7 HK HJ2
            go_wp2_with fail
            refine HK2.out.mono ?_
            rintro e w8 ⟨rfl, g8⟩
            have HG8 := Lib.hid (grown_trans H7.out.o.grown g8)
            clear g8 HK2 H7
            go_wp2_with fail
            refine (HLv.out _).mono ?_
            rintro e w9 ⟨rfl, g9⟩
            have HG9 := Lib.hid (grown_trans HG8.out g9)
            clear g9
            go_wp2_with fail
            go_ret
            exact ⟨rfl, HG9.out⟩
  · have d60 : decide ((l : Int) > 60) = true := decide_eq_true (by omega)
    clear H hU
    go_enter Try.func4, Try.ntmps4
    go_wp2_with fail
    refine HN.out.mono ?_
    rintro e w1 ⟨p, O, rfl, -, g1, -⟩
    have HG := Lib.hid g1
    clear g1 HN
    go_wp2_with fail
    refine (HLv.out _).mono ?_
    rintro e w2 ⟨rfl, g2⟩
    have HG2 := Lib.hid (grown_trans HG.out g2)
    clear g2
    go_wp2_with fail
    go_ret
    exact ⟨rfl, HG2.out⟩
end Go.Proofs.Ytefcefclncbimaa
