/- The laws of layer 15: an entry is inserted just if it may be; clipped again, or in another order; where there is space. -/
import Derived.Test.YtklmlimfhgonjaaEyLawB
namespace Go.Proofs.Ytklmlimfhgonjaa
open Go.ChangeShapes Go.WideShapes Go.ChangeAt Go.RowKit Go.Deep Go.Sort
set_option linter.unusedVariables false

set_option maxRecDepth 100000 in
set_option maxHeartbeats 8000000 in
theorem clips_law (W : World) {s : Option Addr} {c : Nat} {L : List En} (h : EC W (.slice s L.length c) L) (hk : ∀ x, x ∈ L → OkE x) (a b : Int) :
    Calls Try.prog 8 #[.slice s L.length c, .int .i64 a, .int .i64 b] W fun e w' => e = .returned (.bool true) ∧ W.grownBy w' none := by
  have hlv := lives_ok
  have HLv := Lib.hid hlv
  have hg1 := grown_refl W none
  cases hR : (decide (L.length ≤ 100) && rightB L) with
  | false =>
    have HRt := Lib.hid (lawRight_ok c (erow_grow h.1 hg1) hk false hR)
    have HG1 := Lib.hid hg1
    clear h hk hR hg1 hlv
    go_enter Try.func8, Try.ntmps8
    go_wp2_with fail
    refine HRt.out.mono ?_
    rintro e w2 ⟨rfl, g2⟩
    have HG2 := Lib.hid (grown_trans HG1.out g2)
    clear g2
    go_wp2_with fail
    refine (HLv.out _).mono ?_
    rintro e w4 ⟨rfl, g4⟩
    have HB4 := Lib.hid (grown_trans HG2.out g4)
    clear g4
    go_wp2_with fail
    go_ret
    exact ⟨rfl, HB4.out⟩
  | true =>
    obtain ⟨hl, hr⟩ := right_parts hR
    have HRt := Lib.hid (lawRight_ok c h.1 hk true hR)
    have hlm := clip_len_le a hr
    have hrm := rf_clip a hr
    have hlb := clip_len_le b hr
    have hrb := rf_clip b hr
    have hmm : clipE (clipE L a) a = clipE L a := clip_same clip_none
    have hcc := clip_clip L a b
    have hnn := clip_none (l := L) (pg := a)
    have hlc := clip_len_le b hrm
    obtain ⟨M, hM⟩ : ∃ M, clipE L a = M := ⟨_, rfl⟩
    obtain ⟨B, hB⟩ : ∃ B, clipE L b = B := ⟨_, rfl⟩
    obtain ⟨D, hD⟩ : ∃ D, clipE M b = D := ⟨_, rfl⟩
    rw [hM] at hlm hrm hmm hcc hnn hlc
    rw [hB] at hlb hrb hcc
    rw [hD] at hcc hlc
    have h1 := fun w' (g : W.grownBy w' none) => clip_ok (h.grow g) hr (by omega) a
    have h2 := fun w' s' c' (hh : EC w' (.slice s' M.length c') M) => clip_ok hh hrm (by omega) a
    have h3 := fun w' s' c' (hh : EC w' (.slice s' M.length c') M) => clip_ok hh hrm (by omega) b
    have h4 := fun w' (g : W.grownBy w' none) => clip_ok (h.grow g) hr (by omega) b
    have h5 := fun w' s' c' (hh : EC w' (.slice s' B.length c') B) => clip_ok hh hrb (by omega) a
    rw [hM] at h1
    rw [hmm] at h2
    rw [hD] at h3
    rw [hB] at h4
    rw [← hcc] at h5
    have H1 := Lib.hid h1
    have H2 := Lib.hid h2
    have H3 := Lib.hid h3
    have H4 := Lib.hid h4
    have H5 := Lib.hid h5
    have HN := Lib.hid hnn
    obtain ⟨hm1, hm2⟩ := hlm
    have q1 : decide ((M.length : Int) - (L.length : Int) ≤ 1) = true := decide_eq_true (by omega)
    have q2 : decide ((M.length : Int) ≥ (L.length : Int)) = true := decide_eq_true (by omega)
    clear h hk hR hg1 hlv h1 h2 h3 h4 h5 hM hB hD hr hrm hrb hmm hcc hnn hlb
    go_enter Try.func8, Try.ntmps8
    go_wp2_with fail
    refine HRt.out.mono ?_
    rintro e w2 ⟨rfl, g2⟩
    have HG2 := Lib.hid g2
    have HA := Lib.hid (H1.out w2 g2)
    clear g2
    go_wp2_with fail
    refine HA.out.mono ?_
    rintro e w3 ⟨u, rfl, hown, g3⟩
    obtain ⟨a1, c1, hvf⟩ := eown_form hown
    subst hvf
    have HM := Lib.hid (EOwn.ec hown)
    have HG3 := Lib.hid (grown_trans HG2.out g3)
    clear hown g3
    go_wp2_with fail
    go_loopw [19] (fun iv wr => ∃ q : Nat, q ≤ M.length ∧ iv = .int .i64 q ∧ Hid (w3.grownBy wr none)) (fun iv _ => M.length - (intOf iv).toNat)
    case atStart => exact ⟨0, by omega, rfl, grown_refl _ _⟩
    case round =>
      obtain ⟨q, hq, rfl, HB⟩ := hrel
      by_cases hlt : q < M.length
      · obtain ⟨x, hx⟩ : ∃ x, M[q]? = some x := ⟨_, List.getElem?_eq_getElem hlt⟩
        obtain ⟨g, o, c3, hv1, ka0, ka1, ka2, ka3, ka4, ka5, ka6, ka7, ka8, ka9⟩ := en_cells (erow_grow HM.out.1 HB.out) hx
        injection hv1 with e1 e2 e3
        subst e1 e3
        have hno := HN.out x (List.mem_of_getElem? hx)
        have HB1 := Lib.hid (grown_trans HB.out (grown_box wr x))
        by_cases k1 : x.s < a
        · have b0 : decide (x.s < a) = true := decide_eq_true k1
          have b1 : decide (a < x.e) = false := decide_eq_false (fun h => hno ⟨k1, h⟩)
          clear hx hno k1
          go_wp2_with fail
          go_roundw
          case rel => exact ⟨q + 1, by omega, by go_num, HB1⟩
          case measure => simp [intOf]; omega
        · have b0 : decide (x.s < a) = false := decide_eq_false k1
          clear hx hno k1
          go_wp2_with fail
          go_roundw
          case rel => exact ⟨q + 1, by omega, by go_num, HB1⟩
          case measure => simp [intOf]; omega
      · obtain rfl : q = M.length := by omega
        have HM4 := Lib.hid (HM.out.grow HB.out)
        have HG4 := Lib.hid (grown_trans HG3.out HB.out)
        have HA2 := Lib.hid (H2.out wr a1 c1 (HM.out.grow HB.out))
        go_wp2_with fail
        refine HA2.out.mono ?_
        rintro e w5 ⟨u, rfl, hown, g5⟩
        obtain ⟨a5, c5, hvf⟩ := eown_form hown
        subst hvf
        have HG5 := Lib.hid (grown_trans HG4.out g5)
        have HM5 := Lib.hid (HM4.out.grow g5)
        have HSa := Lib.hid (same_ok c5 c1 (EOwn.ec hown).1 (HM4.out.grow g5).1 (by omega) true (by simp))
        clear hown g5
        go_wp2_with fail
        refine HSa.out.mono ?_
        rintro e w6 ⟨rfl, g6⟩
        have HG6 := Lib.hid (grown_trans HG5.out g6)
        have HA3 := Lib.hid (H3.out w6 a1 c1 (HM5.out.grow g6))
        clear g6
        go_wp2_with fail
        refine HA3.out.mono ?_
        rintro e w7 ⟨u, rfl, hown, g7⟩
        obtain ⟨a7, c7, hvf⟩ := eown_form hown
        subst hvf
        have HG7 := Lib.hid (grown_trans HG6.out g7)
        have HD7 := Lib.hid (EOwn.ec hown).1
        have HA4 := Lib.hid (H4.out w7 HG7.out)
        clear hown g7
        go_wp2_with fail
        refine HA4.out.mono ?_
        rintro e w8 ⟨u, rfl, hown, g8⟩
        obtain ⟨a8, c8, hvf⟩ := eown_form hown
        subst hvf
        have HG8 := Lib.hid (grown_trans HG7.out g8)
        have HD8 := Lib.hid (erow_grow HD7.out g8)
        have HA5 := Lib.hid (H5.out w8 a8 c8 (EOwn.ec hown))
        clear hown g8
        go_wp2_with fail
        refine HA5.out.mono ?_
        rintro e w9 ⟨u, rfl, hown, g9⟩
        obtain ⟨a9, c9, hvf⟩ := eown_form hown
        subst hvf
        have HG9 := Lib.hid (grown_trans HG8.out g9)
        have HSb := Lib.hid (same_ok c7 c9 (erow_grow HD8.out g9) (EOwn.ec hown).1 (by omega) true (by simp))
        clear hown g9
        go_wp2_with fail
        refine HSb.out.mono ?_
        rintro e w10 ⟨rfl, g10⟩
        have HG10 := Lib.hid (grown_trans HG9.out g10)
        clear g10
        go_wp2_with fail
        refine (HLv.out _).mono ?_
        rintro e w11 ⟨rfl, g11⟩
        have HG11 := Lib.hid (grown_trans HG10.out g11)
        clear g11
        go_wp2_with fail
        go_ret
        exact ⟨rfl, HG11.out⟩
theorem space_val (L : List En) (hint n : Int) : (spaceE L hint n = none ∧ spaceV L hint n = .tuple #[.int .i64 0, .bool false]) ∨ ∃ p, spaceE L hint n = some p ∧ spaceV L hint n = .tuple #[.int .i64 p, .bool true] := by
  unfold spaceV
  cases spaceE L hint n with
  | none => exact .inl ⟨rfl, rfl⟩
  | some p => exact .inr ⟨p, rfl, rfl⟩
set_option maxRecDepth 100000 in
set_option maxHeartbeats 8000000 in
theorem spaces_law (W : World) {s : Option Addr} {c : Nat} {L : List En} (h : EC W (.slice s L.length c) L) (hk : ∀ x, x ∈ L → OkE x) (hint n : Int) :
    Calls Try.prog 7 #[.slice s L.length c, .int .i64 hint, .int .i64 n] W fun e w' => e = .returned (.bool true) ∧ W.grownBy w' none := by
  have hlv := lives_ok
  have HLv := Lib.hid hlv
  have hg1 := grown_refl W none
  cases hR : (decide (L.length ≤ 100) && rightB L) with
  | false =>
    have HRt := Lib.hid (lawRight_ok c (erow_grow h.1 hg1) hk false hR)
    have HG1 := Lib.hid hg1
    clear h hk hR hg1 hlv
    go_enter Try.func7, Try.ntmps7
    go_wp2_with fail
    refine HRt.out.mono ?_
    rintro e w2 ⟨rfl, g2⟩
    have HG2 := Lib.hid (grown_trans HG1.out g2)
    clear g2
    go_wp2_with fail
    refine (HLv.out _).mono ?_
    rintro e w4 ⟨rfl, g4⟩
    have HB4 := Lib.hid (grown_trans HG2.out g4)
    clear g4
    go_wp2_with fail
    go_ret
    exact ⟨rfl, HB4.out⟩
  | true =>
    obtain ⟨hl, hr⟩ := right_parts hR
    have HRt := Lib.hid (lawRight_ok c h.1 hk true hR)
    have hlm := merge_len L
    have hrm := rf_merge hr
    have hmm := merge_merge L
    obtain ⟨M, hM⟩ : ∃ M, mergeE L = M := ⟨_, rfl⟩
    rw [hM] at hlm hrm hmm
    have h1 := fun w' (g : W.grownBy w' none) => merge_ok c (erow_grow h.1 g) hr (by omega)
    have h2 := fun w' s' c' (hh : ERow w' (.slice s' M.length c') M) => merge_ok c' hh hrm (by omega)
    have h3 := fun w' (g : W.grownBy w' none) => space_ok (h.grow g) hr (by omega) hint n
    rw [hM] at h1
    rw [hmm] at h2
    have H1 := Lib.hid h1
    have H2 := Lib.hid h2
    have HX := Lib.hid h
    have HR := Lib.hid hr
    have bml : ((M.length : Int) != (M.length : Int)) = false := by simp
    rcases space_val L hint n with ⟨hs, hv⟩ | ⟨p, hs, hv⟩
    · rw [hv] at h3
      have H3 := Lib.hid h3
      clear h hk hR hg1 hlv h1 h2 h3 hM hr hrm hmm hs hv
      go_enter Try.func7, Try.ntmps7
      go_wp2_with fail
      refine HRt.out.mono ?_
      rintro e w2 ⟨rfl, g2⟩
      have HG2 := Lib.hid g2
      have HA := Lib.hid (H1.out w2 g2)
      clear g2
      go_wp2_with fail
      refine HA.out.mono ?_
      rintro e w3 ⟨u, rfl, hown, g3⟩
      obtain ⟨a1, c1, hvf⟩ := eown_form hown
      subst hvf
      have HG3 := Lib.hid (grown_trans HG2.out g3)
      have HA2 := Lib.hid (H2.out w3 a1 c1 (EOwn.ec hown).1)
      clear hown g3
      go_wp2_with fail
      refine HA2.out.mono ?_
      rintro e w4 ⟨u, rfl, hown, g4⟩
      obtain ⟨a4, c4, hvf⟩ := eown_form hown
      subst hvf
      have HG4 := Lib.hid (grown_trans HG3.out g4)
      have HA3 := Lib.hid (H3.out w4 HG4.out)
      clear hown g4
      go_wp2_with fail
      refine HA3.out.mono ?_
      rintro e w5 ⟨rfl, g5⟩
      have HG5 := Lib.hid (grown_trans HG4.out g5)
      clear g5
      go_wp2_with fail
      refine (HLv.out _).mono ?_
      rintro e w11 ⟨rfl, g11⟩
      have HG11 := Lib.hid (grown_trans HG5.out g11)
      clear g11
      go_wp2_with fail
      go_ret
      exact ⟨rfl, HG11.out⟩
    · obtain ⟨n1, n2, p0, p1, hfree⟩ := space_free hr hs
      rw [hv] at h3
      have H3 := Lib.hid h3
      have b1 : decide (p < 0) = false := decide_eq_false (by omega)
      have b2 : decide (n < 1) = false := decide_eq_false (by omega)
      have b3 : decide (p > 67108864 - n) = false := decide_eq_false (by omega)
      by_cases hbig : n > 4096
      · have b4 : decide (n > 4096) = true := decide_eq_true hbig
        clear h hk hR hg1 hlv h1 h2 h3 hM hr hrm hmm hs hv hfree hbig
        go_enter Try.func7, Try.ntmps7
        go_wp2_with fail
        refine HRt.out.mono ?_
        rintro e w2 ⟨rfl, g2⟩
        have HG2 := Lib.hid g2
        have HA := Lib.hid (H1.out w2 g2)
        clear g2
        go_wp2_with fail
        refine HA.out.mono ?_
        rintro e w3 ⟨u, rfl, hown, g3⟩
        obtain ⟨a1, c1, hvf⟩ := eown_form hown
        subst hvf
        have HG3 := Lib.hid (grown_trans HG2.out g3)
        have HA2 := Lib.hid (H2.out w3 a1 c1 (EOwn.ec hown).1)
        clear hown g3
        go_wp2_with fail
        refine HA2.out.mono ?_
        rintro e w4 ⟨u, rfl, hown, g4⟩
        obtain ⟨a4, c4, hvf⟩ := eown_form hown
        subst hvf
        have HG4 := Lib.hid (grown_trans HG3.out g4)
        have HA3 := Lib.hid (H3.out w4 HG4.out)
        clear hown g4
        go_wp2_with fail
        refine HA3.out.mono ?_
        rintro e w5 ⟨rfl, g5⟩
        have HG5 := Lib.hid (grown_trans HG4.out g5)
        clear g5
        go_wp2_with fail
        refine (HLv.out _).mono ?_
        rintro e w11 ⟨rfl, g11⟩
        have HG11 := Lib.hid (grown_trans HG5.out g11)
        clear g11
        go_wp2_with fail
        go_ret
        exact ⟨rfl, HG11.out⟩
      · have b4 : decide (n > 4096) = false := decide_eq_false hbig
        have hgz : GoodE ⟨p, p + n, 0, 0, false, 1, 7, 0, 0, false⟩ := ⟨p0, by simp only; omega, p1, Int.le_refl _, Int.le_refl _, (by decide : fitsB 1 7 = true), Int.le_refl _, (by omega : (0 : Int) ≤ 2), Int.le_refl _, (by omega : (0 : Int) ≤ 4), fun _ => rfl, fun h => by simp at h⟩
        have hfz : freeB L ⟨p, p + n, 0, 0, false, 1, 7, 0, 0, false⟩ = true := (free_iff hr hgz.lt).2 hfree
        have hins := ins_yes ((goodB_iff _).2 hgz) hfz
        have hrp := rf_put hr hgz hfz
        have hlp := put_len L ⟨p, p + n, 0, 0, false, 1, 7, 0, 0, false⟩
        obtain ⟨i1, hi1, -, hb1⟩ := hasB_of hrp (mem_put L _) (pg := p) (Int.le_refl _) hgz.lt
        obtain ⟨i2, hi2, -, hb2⟩ := hasB_of hrp (mem_put L _) (pg := p + n - 1) (by simp only; omega) (by simp only; omega)
        have hwh : wholeB (putE L ⟨p, p + n, 0, 0, false, 1, 7, 0, 0, false⟩) p (p + n) = true := by
          have hat := put_at hrp hgz.lt
          unfold wholeB
          have := goW_yes hrp hat (Int.le_refl _)
          rw [this]
          exact decide_eq_true (goW_ge _ _)
        have h4 := fun w' (g : W.grownBy w' none) => insert_ok (h.grow g) hr (by omega) ⟨p, p + n, 0, 0, false, 1, 7, 0, 0, false⟩ hgz.ok
        rw [hins] at h4
        simp only at h4
        obtain ⟨N, hN⟩ : ∃ N, putE L ⟨p, p + n, 0, 0, false, 1, 7, 0, 0, false⟩ = N := ⟨_, rfl⟩
        rw [hN] at h4 hrp hlp hi1 hb1 hi2 hb2 hwh
        have h5 := fun w' s' c' (hh : ERow w' (.slice s' N.length c') N) => find_ok c' hh hrp (by omega) p i1 hi1 true hb1
        have h6 := fun w' s' c' (hh : ERow w' (.slice s' N.length c') N) => find_ok c' hh hrp (by omega) (p + n - 1) i2 hi2 true hb2
        have h7 := fun w' s' c' (hh : ERow w' (.slice s' N.length c') N) => right_ok c' hh (fun x hx => ((rf_good hrp x hx).1).ok) (by omega)
        have h8 := fun w' s' c' (hh : EC w' (.slice s' N.length c') N) => whole_ok hh hrp (by omega) p (p + n) true hwh
        rw [(right_iff N).2 hrp] at h7
        have H4 := Lib.hid h4
        have H5 := Lib.hid h5
        have H6 := Lib.hid h6
        have H7 := Lib.hid h7
        have H8 := Lib.hid h8
        have q1 : ((N.length : Int) == (L.length : Int) + 1) = true := by rw [hlp]; simp
        clear h hk hR hg1 hlv h1 h2 h3 h4 h5 h6 h7 h8 hM hr hrm hmm hs hv hfree hbig hgz hfz hins hrp hlp hi1 hb1 hi2 hb2 hwh hN
        go_enter Try.func7, Try.ntmps7
        go_wp2_with fail
        refine HRt.out.mono ?_
        rintro e w2 ⟨rfl, g2⟩
        have HG2 := Lib.hid g2
        have HA := Lib.hid (H1.out w2 g2)
        clear g2
        go_wp2_with fail
        refine HA.out.mono ?_
        rintro e w3 ⟨u, rfl, hown, g3⟩
        obtain ⟨a1, c1, hvf⟩ := eown_form hown
        subst hvf
        have HG3 := Lib.hid (grown_trans HG2.out g3)
        have HA2 := Lib.hid (H2.out w3 a1 c1 (EOwn.ec hown).1)
        clear hown g3
        go_wp2_with fail
        refine HA2.out.mono ?_
        rintro e w4 ⟨u, rfl, hown, g4⟩
        obtain ⟨a4, c4, hvf⟩ := eown_form hown
        subst hvf
        have HG4 := Lib.hid (grown_trans HG3.out g4)
        have HA3 := Lib.hid (H3.out w4 HG4.out)
        clear hown g4
        go_wp2_with fail
        refine HA3.out.mono ?_
        rintro e w5 ⟨rfl, g5⟩
        have HG5 := Lib.hid (grown_trans HG4.out g5)
        have HA4 := Lib.hid (H4.out w5 HG5.out)
        clear g5
        go_wp2_with fail
        refine HA4.out.mono ?_
        rintro e w6 ⟨u, rfl, hown, g6⟩
        obtain ⟨a6, c6, hvf⟩ := eown_form hown
        subst hvf
        have HG6 := Lib.hid (grown_trans HG5.out g6)
        have HN6 := Lib.hid (EOwn.ec hown)
        have HA5 := Lib.hid (H5.out w6 a6 c6 (EOwn.ec hown).1)
        clear hown g6
        go_wp2_with fail
        refine HA5.out.mono ?_
        rintro e w7 ⟨rfl, g7⟩
        have HG7 := Lib.hid (grown_trans HG6.out g7)
        have HN7 := Lib.hid (HN6.out.grow g7)
        have HA6 := Lib.hid (H6.out w7 a6 c6 (HN6.out.grow g7).1)
        clear g7
        go_wp2_with fail
        refine HA6.out.mono ?_
        rintro e w8 ⟨rfl, g8⟩
        have HG8 := Lib.hid (grown_trans HG7.out g8)
        have HN8 := Lib.hid (HN7.out.grow g8)
        have HA7 := Lib.hid (H7.out w8 a6 c6 (HN7.out.grow g8).1)
        clear g8
        go_wp2_with fail
        refine HA7.out.mono ?_
        rintro e w9 ⟨rfl, g9⟩
        have HG9 := Lib.hid (grown_trans HG8.out g9)
        have HA8 := Lib.hid (H8.out w9 a6 c6 (HN8.out.grow g9))
        clear g9
        go_wp2_with fail
        refine HA8.out.mono ?_
        rintro e w10 ⟨rfl, g10⟩
        have HG10 := Lib.hid (grown_trans HG9.out g10)
        clear g10
        go_wp2_with fail
        refine (HLv.out _).mono ?_
        rintro e w11 ⟨rfl, g11⟩
        have HG11 := Lib.hid (grown_trans HG10.out g11)
        clear g11
        go_wp2_with fail
        go_ret
        exact ⟨rfl, HG11.out⟩
end Go.Proofs.Ytklmlimfhgonjaa
