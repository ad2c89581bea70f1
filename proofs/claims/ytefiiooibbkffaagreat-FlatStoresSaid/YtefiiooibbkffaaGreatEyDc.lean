/- Package entry (landed): gap, Space; the sort by Start; Whole. -/
import Derived.Test.YtefiiooibbkffaaGreatEyDb
import Derived.Test.YtefiiooibbkffaaGreatEyLay
namespace Go.Proofs.YtefiiooibbkffaaGreat
open Go.ChangeShapes Go.WideShapes Go.ChangeAt Go.RowKit Go.Deep Go.Sort Go.Shelf
set_option linter.unusedVariables false

set_option maxHeartbeats 2000000 in
theorem gap_ok {w : World} {s : Option Addr} {c : Nat} {L : List En} (h : EC w (.slice s L.length c) L) (hr : RF 0 L) (hl : L.length ≤ 1000000) (a n : Int) (h1 : 1 ≤ n) (h2 : n ≤ 67108864) :
    Calls Tryz.prog 182 #[.slice s L.length c, .int .i64 a, .int .i64 n] w fun e w' => e = .returned (gapV L a n) ∧ w.grownBy w' none := by
  obtain ⟨k, hk⟩ : ∃ k, findK L a = k := ⟨_, rfl⟩
  have HF := Lib.hid (find_ok c h.1 hr hl a k hk (hasB L a) rfl)
  have hkl : k ≤ L.length := by rw [← hk]; exact findK_le L a
  obtain ⟨a', c', hsl, hM⟩ := ec_from h hkl
  have hgap : gapL n a L = gapL n a (L.drop k) := by rw [← hk]; exact gapL_skip L n a
  have hV : gapV L a n = if 67108864 - n < gapL n a (L.drop k) then .tuple #[.int .i64 0, .bool false] else .tuple #[.int .i64 (gapL n a (L.drop k)), .bool true] := by
    unfold gapV gapE
    rw [hgap]
    by_cases h : 67108864 - n < gapL n a (L.drop k)
    · rw [if_pos h, if_pos h]
    · rw [if_neg h, if_neg h]
  rw [hV]
  have hrM : RF 0 (L.drop k) := rf_sub hr (List.drop_sublist _ _)
  have hlM : (L.drop k).length ≤ 1000000 := by rw [List.length_drop]; omega
  have hhi : ∀ (i : Nat) (x : En), (L.drop k)[i]? = some x → a < x.e := fun i x hx => by
    rw [List.getElem?_drop] at hx
    exact findK_high hr (pg := a) (by omega) hx
  obtain ⟨b0, hb0⟩ : ∃ b0, hasB L a = b0 := ⟨_, rfl⟩
  rw [hb0] at HF
  generalize L.drop k = M at *
  have HX := Lib.hid hM.1
  have HR := Lib.hid hrM
  have HH := Lib.hid hhi
  obtain ⟨r, hrr⟩ : ∃ r, gapL n a M = r := ⟨_, rfl⟩
  rw [hrr]
  obtain ⟨V, hVd⟩ : ∃ V : Value, (if 67108864 - n < r then Value.tuple #[.int .i64 0, .bool false] else .tuple #[.int .i64 r, .bool true]) = V := ⟨_, rfl⟩
  rw [hVd]
  have HV := Lib.hid hVd
  have HD := Lib.hid hrr
  clear h hr hk hgap hV hM hrM hhi hb0 hrr hVd
  go_enter Tryz.func182, Tryz.ntmps182
  go_wp2_with fail
  refine HF.out.mono ?_
  rintro e w2 ⟨rfl, g2⟩
  have HG := Lib.hid g2
  clear g2
  go_wp2_with fail
  go_loopw [1, 22] (fun av iv wr => ∃ (q : Nat) (b : Int), q ≤ M.length ∧ av = .int .i64 b ∧ iv = .int .i64 q ∧ Hid (gapL n b (M.drop q) = r) ∧ Hid (∀ x, M[q]? = some x → b < x.e) ∧ Hid (w.grownBy wr none)) (fun _ iv _ => M.length - (intOf iv).toNat)
  case atStart => exact ⟨0, a, by omega, rfl, rfl, HD.out, Lib.hid (fun x hx => HH.out 0 x hx), HG⟩
  case round =>
    obtain ⟨q, b, hq, rfl, rfl, HE, HL, HB⟩ := hrel
    by_cases hlt : q < M.length
    · obtain ⟨x, hx⟩ : ∃ x, M[q]? = some x := ⟨_, List.getElem?_eq_getElem hlt⟩
      obtain ⟨g, o, c1, hv1, ka0, ka1, ka2, ka3, ka4, ka5, ka6, ka7, ka8, ka9⟩ := en_cells (erow_grow HX.out HB.out) hx
      injection hv1 with e1 e2 e3
      subst e1 e3
      have HB1 := Lib.hid (grown_trans HB.out (grown_box wr x))
      have hE := HE.out
      rw [get_eq hx, gapL_cons, if_neg (by have := HL.out x hx; omega)] at hE
      have hgx := rf_at HR.out hx
      have b1 := hgx.s0
      have b2 := hgx.lt
      have b3 := hgx.e1
      have HL2 := Lib.hid (show ∀ y, M[q + 1]? = some y → x.e < y.e from fun y hy => by
        have := rf_two HR.out (Nat.lt_succ_self q) hx hy
        have := (rf_at HR.out hy).lt
        omega)
      by_cases k2 : b ≤ x.s - n
      · rw [if_pos k2] at hE
        subst hE
        have hb2 : decide (b ≤ x.s - n) = true := decide_eq_true k2
        by_cases k3 : 67108864 - n < b
        · have hb3 : decide (b > 67108864 - n) = true := decide_eq_true k3
          obtain rfl : V = .tuple #[.int .i64 0, .bool false] := by rw [← HV.out, if_pos k3]
          clear hx hgx k2 k3
          go_wp2_with fail
          go_ret2
          exact ⟨rfl, HB1.out⟩
        · have hb3 : decide (b > 67108864 - n) = false := decide_eq_false k3
          obtain rfl : V = .tuple #[.int .i64 b, .bool true] := by rw [← HV.out, if_neg k3]
          clear hx hgx k2 k3
          go_wp2_with fail
          go_ret2
          exact ⟨rfl, HB1.out⟩
      · rw [if_neg k2] at hE
        have HE2 := Lib.hid hE
        have hb2 : decide (b ≤ x.s - n) = false := decide_eq_false k2
        clear hx hE hgx k2
        go_wp2_with fail
        go_roundw
        case rel => exact ⟨q + 1, x.e, by omega, rfl, by go_num, HE2, HL2, HB1⟩
        case measure => simp [intOf]; omega
    · obtain rfl : q = M.length := by omega
      have hE := HE.out
      rw [List.drop_length] at hE
      have hE : b = r := hE
      subst hE
      by_cases k3 : 67108864 - n < b
      · have hb3 : decide (b > 67108864 - n) = true := decide_eq_true k3
        obtain rfl : V = .tuple #[.int .i64 0, .bool false] := by rw [← HV.out, if_pos k3]
        clear k3
        go_wp2_with fail
        go_ret2
        exact ⟨rfl, HB.out⟩
      · have hb3 : decide (b > 67108864 - n) = false := decide_eq_false k3
        obtain rfl : V = .tuple #[.int .i64 b, .bool true] := by rw [← HV.out, if_neg k3]
        clear k3
        go_wp2_with fail
        go_ret2
        exact ⟨rfl, HB.out⟩
theorem space_ok {w : World} {s : Option Addr} {c : Nat} {L : List En} (h : EC w (.slice s L.length c) L) (hr : RF 0 L) (hl : L.length ≤ 1000000) (hint n : Int) :
    Calls Tryz.prog 152 #[.slice s L.length c, .int .i64 hint, .int .i64 n] w fun e w' => e = .returned (spaceV L hint n) ∧ w.grownBy w' none := by
  by_cases k1 : n < 1
  · have e : spaceV L hint n = .tuple #[.int .i64 0, .bool false] := by unfold spaceV spaceE; rw [if_pos (.inl k1)]
    rw [e]
    have b1 : decide (n < 1) = true := decide_eq_true k1
    clear h hr e k1
    go_enter Tryz.func152, Tryz.ntmps152
    go_wp2_with fail
    go_ret2
    exact ⟨rfl, grown_refl _ _⟩
  · have b1 : decide (n < 1) = false := decide_eq_false k1
    by_cases k2 : n > 67108864
    · have e : spaceV L hint n = .tuple #[.int .i64 0, .bool false] := by unfold spaceV spaceE; rw [if_pos (.inr k2)]
      rw [e]
      have b2 : decide (n > 67108864) = true := decide_eq_true k2
      clear h hr e k1 k2
      go_enter Tryz.func152, Tryz.ntmps152
      go_wp2_with fail
      go_ret2
      exact ⟨rfl, grown_refl _ _⟩
    · have b2 : decide (n > 67108864) = false := decide_eq_false k2
      have H0 := fun W (g : w.grownBy W none) (a : Int) => gap_ok (h.grow g) hr hl a n (by omega) (by omega)
      have hV : spaceV L hint n = match gapE L (max 0 hint) n with | some a => .tuple #[.int .i64 a, .bool true] | none => gapV L 0 n := by
        unfold spaceV spaceE gapV
        rw [if_neg (by omega)]
        cases gapE L (max 0 hint) n <;> rfl
      rw [hV]
      have hmax : ∃ m, max 0 hint = m := ⟨_, rfl⟩
      obtain ⟨m, hm⟩ := hmax
      rw [hm]
      have HF := Lib.hid (H0 w (grown_refl _ _) m)
      have HH := Lib.hid H0
      unfold gapV at HF
      cases hg : gapE L m n with
      | some r =>
        rw [hg] at HF
        clear h hr hV H0 k1 k2 hg
        go_enter Tryz.func152, Tryz.ntmps152
        go_wp2_with fail
        refine HF.out.mono ?_
        rintro e w2 ⟨rfl, g2⟩
        have HG := Lib.hid g2
        clear g2
        go_wp2_with fail
        go_ret2
        exact ⟨rfl, HG.out⟩
      | none =>
        rw [hg] at HF
        clear h hr hV H0 k1 k2 hg
        unfold gapV
        cases hg2 : gapE L 0 n with
        | none =>
          have HF2 := Lib.hid (fun w2 (g : w.grownBy w2 none) => HH.out w2 g 0)
          unfold gapV at HF2
          rw [hg2] at HF2
          clear HH hg2
          go_enter Tryz.func152, Tryz.ntmps152
          go_wp2_with fail
          refine HF.out.mono ?_
          rintro e w2 ⟨rfl, g2⟩
          have HG := Lib.hid g2
          clear g2
          go_wp2_with fail
          refine (HF2.out w2 HG.out).mono ?_
          rintro e w3 ⟨rfl, g3⟩
          have HG3 := Lib.hid (grown_trans HG.out g3)
          clear g3
          go_wp2_with fail
          go_ret2
          exact ⟨rfl, HG3.out⟩
        | some r =>
          have HF2 := Lib.hid (fun w2 (g : w.grownBy w2 none) => HH.out w2 g 0)
          unfold gapV at HF2
          rw [hg2] at HF2
          clear HH hg2
          go_enter Tryz.func152, Tryz.ntmps152
          go_wp2_with fail
          refine HF.out.mono ?_
          rintro e w2 ⟨rfl, g2⟩
          have HG := Lib.hid g2
          clear g2
          go_wp2_with fail
          refine (HF2.out w2 HG.out).mono ?_
          rintro e w3 ⟨rfl, g3⟩
          have HG3 := Lib.hid (grown_trans HG.out g3)
          clear g3
          go_wp2_with fail
          go_ret2
          exact ⟨rfl, HG3.out⟩
end Go.Proofs.YtefiiooibbkffaaGreat
