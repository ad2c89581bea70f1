/- Layer 15: where a page's entry stands, whether all pages have one, where there is space: the document's. -/
import Derived.Test.YtefiiooibbkffaaGreatEyRefA
import Derived.Test.YtefiiooibbkffaaGreatEyMore
import Derived.Deep.CutBlock
import Derived.Deep.DeepCutAuto
namespace Go.Proofs.YtefiiooibbkffaaGreat
open Go.ChangeShapes Go.WideShapes Go.ChangeAt Go.RowKit Go.Deep
set_option linter.unusedVariables false

set_option maxHeartbeats 2000000 in
theorem refFind_ok {w : World} {s : Option Addr} {L : List En} (c : Nat) (h : ERow w (.slice s L.length c) L) (hl : L.length ≤ 1000000) (pg : Int) (k : Nat) (hk : findK L pg = k) (d : Bool) (hd : hasB L pg = d) :
    Calls Tryz.prog 141 #[.slice s L.length c, .int .i64 pg] w fun e w' => e = .returned (.tuple #[.int .i64 k, .bool d]) ∧ w.grownBy w' none := by
  have HX := Lib.hid h
  have HK := Lib.hid hk
  have HD := Lib.hid hd
  clear h hk hd
  go_enter Tryz.func141, Tryz.ntmps141
  go_wp2_with fail
  go_loopw [10] (fun iv wr => ∃ q : Nat, q ≤ L.length ∧ iv = .int .i64 q ∧ Hid (∀ i y, i < q → L[i]? = some y → y.e ≤ pg) ∧ Hid (w.grownBy wr none)) (fun iv _ => L.length - (intOf iv).toNat)
  case atStart => exact ⟨0, by omega, rfl, fun _ _ h => by omega, grown_refl _ _⟩
  case round =>
    obtain ⟨q, hq, rfl, HE, HB⟩ := hrel
    by_cases hlt : q < L.length
    · obtain ⟨x, hx⟩ : ∃ x, L[q]? = some x := ⟨_, List.getElem?_eq_getElem hlt⟩
      obtain ⟨g, o, c1, hv1, ka0, ka1, ka2, ka3, ka4, ka5, ka6, ka7, ka8, ka9⟩ := en_cells (erow_grow HX.out HB.out) hx
      injection hv1 with e1 e2 e3
      subst e1 e3
      have HB1 := Lib.hid (grown_trans HB.out (grown_box wr x))
      by_cases hlow : pg < x.e
      · have hb1 : decide (pg < x.e) = true := decide_eq_true hlow
        have e := findK_first HE.out hx hlow
        obtain rfl : k = q := HK.out.symm.trans e
        have hb2 : decide (x.s ≤ pg) = d := by rw [← HD.out]; rw [← HK.out] at hx; exact (hasB_at hx).symm
        have hb3 : decide (pg ≥ x.s) = d := hb2
        clear hx hlow e
        go_wp2_with fail
        go_quiet (fail)
        go_wp2_with fail
        go_ret2
        exact ⟨rfl, grown_trans HB1.out (grown_draws _ _)⟩
      · have hb1 : decide (pg < x.e) = false := decide_eq_false hlow
        have HE2 := Lib.hid (show ∀ i y, i < q + 1 → L[i]? = some y → y.e ≤ pg from fun i y hi hy => by
          rcases Nat.lt_or_ge i q with h1 | h1
          · exact HE.out i y h1 hy
          · obtain rfl : i = q := by omega
            rw [hx] at hy; cases hy; omega)
        clear hx hlow
        go_wp2_with fail
        go_roundw
        case rel => exact ⟨q + 1, by omega, by go_num, HE2, HB1⟩
        case measure => simp [intOf]; omega
    · obtain rfl : q = L.length := by omega
      have e := findK_end HE.out
      obtain rfl : k = L.length := HK.out.symm.trans e
      obtain rfl : d = false := by rw [← HD.out]; exact hasB_end e
      clear e
      go_wp2_with fail
      go_ret2
      exact ⟨rfl, HB.out⟩
set_option maxHeartbeats 2000000 in
theorem refWhole_ok {w : World} {s : Option Addr} {L : List En} (c : Nat) (h : ERow w (.slice s L.length c) L) (hr : RF 0 L) (hl : L.length ≤ 1000000) (lo hi : Int) (d : Bool) (hd : wholeB L lo hi = d) :
    Calls Tryz.prog 95 #[.slice s L.length c, .int .i64 lo, .int .i64 hi] w fun e w' => e = .returned (.bool d) ∧ w.grownBy w' none := by
  have HX := Lib.hid h
  have HR := Lib.hid hr
  have HD := Lib.hid hd
  clear h hr hd
  go_enter Tryz.func95, Tryz.ntmps95
  go_wp2_with fail
  go_loopw [1] (fun lv wr => ∃ a : Int, lv = .int .i64 a ∧ Hid (wholeB L a hi = d) ∧ Hid (w.grownBy wr none)) (fun lv _ => L.length - findK L (intOf lv))
  case atStart => exact ⟨lo, rfl, HD, grown_refl _ _⟩
  case round =>
    obtain ⟨a, rfl, HE, HB⟩ := hrel
    by_cases hlt : a < hi
    · have hb0 : decide (a < hi) = true := decide_eq_true hlt
      obtain ⟨k, hk⟩ : ∃ k, findK L a = k := ⟨_, rfl⟩
      cases hh : hasB L a with
      | false =>
        obtain rfl : d = false := by rw [← HE.out]; unfold wholeB; rw [goW_no HR.out hh]; exact decide_eq_false (by omega)
        have HF := Lib.hid (refFind_ok c (erow_grow HX.out HB.out) hl a k hk false hh)
        clear hk hh hlt
        go_wp2_with fail
        refine HF.out.mono ?_
        rintro e w2 ⟨rfl, g2⟩
        have HB2 := Lib.hid (grown_trans HB.out g2)
        clear g2
        go_wp2_with fail
        go_ret
        exact ⟨rfl, HB2.out⟩
      | true =>
        obtain ⟨x, hm, hx, h1, h2⟩ := hasB_mem hh
        have HW := Lib.hid (show wholeB L x.e hi = d by rw [← HE.out]; unfold wholeB; rw [goW_yes HR.out hx h1])
        have HM := Lib.hid (show L.length - findK L x.e < L.length - findK L a by
          have hal := (List.getElem?_eq_some_iff.1 hx).1
          have : findK L a < findK L x.e := by
            rcases Nat.lt_or_ge (findK L a) (findK L x.e) with h3 | h3
            · exact h3
            · have := findK_high HR.out h3 hx
              omega
          omega)
        have hkl := (List.getElem?_eq_some_iff.1 hx).1
        rw [hk] at hx hkl
        have HF := Lib.hid (refFind_ok c (erow_grow HX.out HB.out) hl a k hk true hh)
        have HXk := Lib.hid hx
        clear hk hh hlt hx hm h1 h2
        go_wp2_with fail
        refine HF.out.mono ?_
        rintro e w2 ⟨rfl, g2⟩
        have HB2 := Lib.hid (grown_trans HB.out g2)
        clear g2
        obtain ⟨g, o, c1, hv1, hat⟩ := en_cells (erow_grow HX.out HB2.out) HXk.out
        injection hv1 with e1 e2 e3
        subst e1 e3
        have ka1 := hat.c1
        clear hat
        go_wp2_with fail
        go_roundw
        case rel => exact ⟨x.e, rfl, HW, HB2⟩
        case measure => simp only [intOf]; exact HM.out
    · have hb0 : decide (a < hi) = false := decide_eq_false hlt
      obtain rfl : d = true := by rw [← HE.out]; unfold wholeB; have := goW_ge L a; exact decide_eq_true (by omega)
      clear hlt
      go_wp2_with fail
      go_ret
      exact ⟨rfl, HB.out⟩

/-- What 'from' tells: -1, where there is none. -/
def fromI (L : List En) (a n : Int) : Int := (gapE L a n).getD (-1)
set_option maxHeartbeats 2000000 in
theorem refFrom_ok {w : World} {s : Option Addr} {L : List En} (c : Nat) (h : ERow w (.slice s L.length c) L) (hr : RF 0 L) (hl : L.length ≤ 1000000) (a n : Int) (h1 : 1 ≤ n) (h2 : n ≤ 67108864) (r : Int) (hd : fromI L a n = r) :
    Calls Tryz.prog 166 #[.slice s L.length c, .int .i64 a, .int .i64 n] w fun e w' => e = .returned (.int .i64 r) ∧ w.grownBy w' none := by
  have HX := Lib.hid h
  have HR := Lib.hid hr
  have HD := Lib.hid hd
  clear h hr hd
  go_enter Tryz.func166, Tryz.ntmps166
  go_wp2_with fail
  go_loopw [1, 11] (fun av iv wr => ∃ (q : Nat) (b : Int), q ≤ L.length ∧ av = .int .i64 b ∧ iv = .int .i64 q ∧ Hid (gapL n a L = gapL n b (L.drop q)) ∧ Hid (w.grownBy wr none)) (fun _ iv _ => L.length - (intOf iv).toNat)
  case atStart => exact ⟨0, a, by omega, rfl, rfl, rfl, grown_refl _ _⟩
  case round =>
    obtain ⟨q, b, hq, rfl, rfl, HE, HB⟩ := hrel
    by_cases hlt : q < L.length
    · obtain ⟨x, hx⟩ : ∃ x, L[q]? = some x := ⟨_, List.getElem?_eq_getElem hlt⟩
      obtain ⟨g, o, c1, hv1, ka0, ka1, ka2, ka3, ka4, ka5, ka6, ka7, ka8, ka9⟩ := en_cells (erow_grow HX.out HB.out) hx
      injection hv1 with e1 e2 e3
      subst e1 e3
      have HB1 := Lib.hid (grown_trans HB.out (grown_box wr x))
      have hE := HE.out
      rw [get_eq hx] at hE
      have hgx := rf_at HR.out hx
      have b1 := hgx.s0
      have b2 := hgx.lt
      have b3 := hgx.e1
      rw [gapL_cons] at hE
      by_cases k1 : x.e ≤ b
      · rw [if_pos k1] at hE
        have HE2 := Lib.hid hE
        have hb1 : decide (x.e ≤ b) = true := decide_eq_true k1
        clear hx hE hgx k1
        go_wp2_with fail
        go_roundw
        case rel => exact ⟨q + 1, b, by omega, rfl, by go_num, HE2, HB1⟩
        case measure => simp [intOf]; omega
      · rw [if_neg k1] at hE
        have hb1 : decide (x.e ≤ b) = false := decide_eq_false k1
        by_cases k2 : b ≤ x.s - n
        · rw [if_pos k2] at hE
          have HE2 := Lib.hid hE
          have hb2 : decide (b ≤ x.s - n) = true := decide_eq_true k2
          have HDr := Lib.hid (show r = if 67108864 - n < b then -1 else b by rw [← HD.out]; unfold fromI gapE; rw [hE]; split <;> rfl)
          clear hx hE hgx k1 k2
          by_cases k3 : b > 67108864 - n
          · have hb3 : decide (b > 67108864 - n) = true := decide_eq_true k3
            obtain rfl : r = -1 := by rw [HDr.out, if_pos (by omega)]
            clear k3
            go_wp2_with fail
            go_ret
            exact ⟨rfl, HB1.out⟩
          · have hb3 : decide (b > 67108864 - n) = false := decide_eq_false k3
            obtain rfl : r = b := by rw [HDr.out, if_neg (by omega)]
            clear k3
            go_wp2_with fail
            go_ret
            exact ⟨rfl, HB1.out⟩
        · rw [if_neg k2] at hE
          have HE2 := Lib.hid hE
          have hb2 : decide (b ≤ x.s - n) = false := decide_eq_false k2
          clear hx hE hgx k1 k2
          go_wp2_with fail
          go_roundw
          case rel => exact ⟨q + 1, x.e, by omega, rfl, by go_num, HE2, HB1⟩
          case measure => simp [intOf]; omega
    · obtain rfl : q = L.length := by omega
      have HDr := Lib.hid (show r = if 67108864 - n < b then -1 else b by
        rw [← HD.out]
        unfold fromI gapE
        rw [HE.out, List.drop_length]
        show (if 67108864 - n < b then none else some b).getD (-1) = _
        split <;> rfl)
      by_cases k3 : b > 67108864 - n
      · have hb3 : decide (b > 67108864 - n) = true := decide_eq_true k3
        obtain rfl : r = -1 := by rw [HDr.out, if_pos (by omega)]
        clear k3
        go_wp2_with fail
        go_ret
        exact ⟨rfl, HB.out⟩
      · have hb3 : decide (b > 67108864 - n) = false := decide_eq_false k3
        obtain rfl : r = b := by rw [HDr.out, if_neg (by omega)]
        clear k3
        go_wp2_with fail
        go_ret
        exact ⟨rfl, HB.out⟩
/-- What Space tells. -/
def spaceV (L : List En) (hint n : Int) : Value := match spaceE L hint n with | some a => .tuple #[.int .i64 a, .bool true] | none => .tuple #[.int .i64 0, .bool false]
theorem gapE_ge {L : List En} {a n r : Int} (h : gapE L a n = some r) (hr : RF 0 L) : a ≤ r := by
  unfold gapE at h
  split at h
  · cases h
  · cases h; exact (gap_free n a hr).1
theorem refSpace_ok {w : World} {s : Option Addr} {L : List En} (c : Nat) (h : ERow w (.slice s L.length c) L) (hr : RF 0 L) (hl : L.length ≤ 1000000) (hint n : Int) :
    Calls Tryz.prog 138 #[.slice s L.length c, .int .i64 hint, .int .i64 n] w fun e w' => e = .returned (spaceV L hint n) ∧ w.grownBy w' none := by
  by_cases k1 : n < 1
  · have e : spaceV L hint n = .tuple #[.int .i64 0, .bool false] := by unfold spaceV spaceE; rw [if_pos (.inl k1)]
    rw [e]
    have b1 : decide (n < 1) = true := decide_eq_true k1
    clear h hr e k1
    go_enter Tryz.func138, Tryz.ntmps138
    go_wp2_with fail
    go_ret2
    exact ⟨rfl, grown_refl _ _⟩
  · have b1 : decide (n < 1) = false := decide_eq_false k1
    by_cases k2 : n > 67108864
    · have e : spaceV L hint n = .tuple #[.int .i64 0, .bool false] := by unfold spaceV spaceE; rw [if_pos (.inr k2)]
      rw [e]
      have b2 : decide (n > 67108864) = true := decide_eq_true k2
      clear h hr e k1 k2
      go_enter Tryz.func138, Tryz.ntmps138
      go_wp2_with fail
      go_ret2
      exact ⟨rfl, grown_refl _ _⟩
    · have b2 : decide (n > 67108864) = false := decide_eq_false k2
      obtain ⟨r0, hr0⟩ : ∃ r0, fromI L 0 n = r0 := ⟨_, rfl⟩
      have H0 := fun W (g : w.grownBy W none) => refFrom_ok c (erow_grow h g) hr hl 0 n (by omega) (by omega) r0 hr0
      have hv0 : (match gapE L 0 n with | some a => Value.tuple #[.int .i64 a, .bool true] | none => .tuple #[.int .i64 0, .bool false]) = if r0 < 0 then .tuple #[.int .i64 0, .bool false] else .tuple #[.int .i64 r0, .bool true] := by
        rw [← hr0]
        unfold fromI
        cases hg : gapE L 0 n with
        | none => simp
        | some a => have := gapE_ge hg hr; simp; omega
      by_cases k3 : hint ≥ 0
      · have b3 : decide (hint ≥ 0) = true := decide_eq_true k3
        obtain ⟨r1, hr1⟩ : ∃ r1, fromI L hint n = r1 := ⟨_, rfl⟩
        have HF := Lib.hid (refFrom_ok c h hr hl hint n (by omega) (by omega) r1 hr1)
        have e : spaceV L hint n = if r1 < 0 then (if r0 < 0 then .tuple #[.int .i64 0, .bool false] else .tuple #[.int .i64 r0, .bool true]) else .tuple #[.int .i64 r1, .bool true] := by
          rw [← hv0]
          unfold spaceV spaceE
          rw [if_neg (by omega), show max 0 hint = hint by omega, ← hr1]
          unfold fromI
          cases hg : gapE L hint n with
          | none => simp
          | some a => have := gapE_ge hg hr; simp; omega
        rw [e]
        have HH := Lib.hid H0
        clear h hr hr0 hr1 e hv0 H0 k1 k2 k3
        by_cases k4 : r1 < 0
        · have b4 : decide (r1 < 0) = true := decide_eq_true k4
          rw [if_pos k4]
          by_cases k5 : r0 < 0
          · have b5 : decide (r0 < 0) = true := decide_eq_true k5
            rw [if_pos k5]
            clear k4 k5
            go_enter Tryz.func138, Tryz.ntmps138
            go_wp2_with fail
            refine HF.out.mono ?_
            rintro e w2 ⟨rfl, g2⟩
            have HG := Lib.hid g2
            have HF2 := Lib.hid (HH.out w2 HG.out)
            clear g2
            go_wp2_with fail
            refine HF2.out.mono ?_
            rintro e w3 ⟨rfl, g3⟩
            have HG3 := Lib.hid (grown_trans HG.out g3)
            clear g3
            go_wp2_with fail
            go_ret2
            exact ⟨rfl, HG3.out⟩
          · have b5 : decide (r0 < 0) = false := decide_eq_false k5
            rw [if_neg k5]
            clear k4 k5
            go_enter Tryz.func138, Tryz.ntmps138
            go_wp2_with fail
            refine HF.out.mono ?_
            rintro e w2 ⟨rfl, g2⟩
            have HG := Lib.hid g2
            have HF2 := Lib.hid (HH.out w2 HG.out)
            clear g2
            go_wp2_with fail
            refine HF2.out.mono ?_
            rintro e w3 ⟨rfl, g3⟩
            have HG3 := Lib.hid (grown_trans HG.out g3)
            clear g3
            go_wp2_with fail
            go_ret2
            exact ⟨rfl, HG3.out⟩
        · have b4 : decide (r1 < 0) = false := decide_eq_false k4
          rw [if_neg k4]
          clear k4
          go_enter Tryz.func138, Tryz.ntmps138
          go_wp2_with fail
          refine HF.out.mono ?_
          rintro e w2 ⟨rfl, g2⟩
          have HG := Lib.hid g2
          clear g2
          go_wp2_with fail
          go_ret2
          exact ⟨rfl, HG.out⟩
      · have b3 : decide (hint ≥ 0) = false := decide_eq_false k3
        have HF := Lib.hid (H0 w (grown_refl _ _))
        have e : spaceV L hint n = if r0 < 0 then .tuple #[.int .i64 0, .bool false] else .tuple #[.int .i64 r0, .bool true] := by
          rw [← hv0]
          unfold spaceV spaceE
          rw [if_neg (by omega), show max 0 hint = 0 by omega]
          cases hg : gapE L 0 n <;> rfl
        rw [e]
        clear h hr hr0 e hv0 H0 k1 k2 k3
        by_cases k5 : r0 < 0
        · have b5 : decide (r0 < 0) = true := decide_eq_true k5
          rw [if_pos k5]
          clear k5
          go_enter Tryz.func138, Tryz.ntmps138
          go_wp2_with fail
          refine HF.out.mono ?_
          rintro e w2 ⟨rfl, g2⟩
          have HG := Lib.hid g2
          clear g2
          go_wp2_with fail
          go_ret2
          exact ⟨rfl, HG.out⟩
        · have b5 : decide (r0 < 0) = false := decide_eq_false k5
          rw [if_neg k5]
          clear k5
          go_enter Tryz.func138, Tryz.ntmps138
          go_wp2_with fail
          refine HF.out.mono ?_
          rintro e w2 ⟨rfl, g2⟩
          have HG := Lib.hid g2
          clear g2
          go_wp2_with fail
          go_ret2
          exact ⟨rfl, HG.out⟩
end Go.Proofs.YtefiiooibbkffaaGreat
