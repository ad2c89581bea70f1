/- The laws of layer 15: a range is whole just if each of its pages is found; cut out, none is. -/
import Derived.Test.YtklmlimfhgonjaaEyLawB
namespace Go.Proofs.Ytklmlimfhgonjaa
open Go.ChangeShapes Go.WideShapes Go.ChangeAt Go.RowKit Go.Deep Go.Sort
set_option linter.unusedVariables false

def allP (L : List En) (lo : Int) (q : Nat) : Bool := (List.range q).all fun i => hasB L (lo + (i : Int))
theorem allP_succ (L : List En) (lo : Int) (q : Nat) : allP L lo (q + 1) = (allP L lo q && hasB L (lo + (q : Int))) := by
  unfold allP
  rw [List.range_succ, List.all_append]
  simp
theorem allP_whole {L : List En} {b : Int} (h : RF b L) (lo : Int) (K : Nat) : allP L lo K = wholeB L lo (lo + K) := by
  have key : allP L lo K = true ↔ wholeB L lo (lo + K) = true := by
    rw [whole_pages h K lo]
    unfold allP
    rw [List.all_eq_true]
    simp
  cases h1 : wholeB L lo (lo + K) with
  | true => exact key.2 h1
  | false =>
    cases h2 : allP L lo K with
    | false => rfl
    | true => rw [key.1 h2] at h1; cases h1
theorem sum_is {L : List En} {b : Int} (h : RF b L) (lo : Int) (K : Nat) : ((sumE (goneE L lo (lo + K)) == (K : Int)) : Bool) = wholeB L lo (lo + K) := by
  have h1 := sum_gone (lo := lo) (hi := lo + K) (by omega) L fun x hx => (rf_good h x hx).1.lt
  obtain ⟨h2, h3⟩ := sum_whole (lo := lo) (hi := lo + K) h (by omega)
  rw [h1]
  unfold wholeB
  by_cases k : lo + (K : Int) ≤ goW lo L
  · have h4 := h3.2 k
    have h5 : sumOv lo (lo + K) L = (K : Int) := by omega
    rw [decide_eq_true k, h5]
    simp
  · have h4 : ¬ sumOv lo (lo + K) L = (K : Int) := fun e => k (h3.1 (by omega))
    rw [decide_eq_false k]
    simpa using h4
theorem sum_take {G : List En} {q : Nat} {x : En} (hx : G[q]? = some x) : sumE (G.take (q + 1)) = sumE (G.take q) + (x.e - x.s) := by rw [takel_at hx, sumE_snoc]
set_option maxRecDepth 100000 in
set_option maxHeartbeats 8000000 in
theorem wholes_law (W : World) {s : Option Addr} {c : Nat} {L : List En} (h : EC W (.slice s L.length c) L) (hk : ∀ x, x ∈ L → OkE x) (lo n : Int) (hn : okU n) :
    Calls Try.prog 9 #[.slice s L.length c, .int .i64 lo, .int .u64 n] W fun e w' => e = .returned (.bool true) ∧ W.grownBy w' none := by
  have hlv := lives_ok
  have HLv := Lib.hid hlv
  obtain ⟨n0, n1⟩ := hn
  obtain ⟨K, hK, hK20⟩ : ∃ K : Nat, n.tmod 20 = (K : Int) ∧ K < 20 := by
    have e : n.tmod 20 = n % 20 := Int.tmod_eq_emod_of_nonneg n0
    refine ⟨(n % 20).toNat, ?_, by omega⟩
    rw [e]
    omega
  cases hR : (decide (L.length ≤ 100) && rightB L) with
  | false =>
    have HRt := Lib.hid (lawRight_ok c h.1 hk false hR)
    clear h hk hR hlv
    go_enter Try.func9, Try.ntmps9
    go_wp2_with fail
    refine HRt.out.mono ?_
    rintro e w2 ⟨rfl, g2⟩
    have HG2 := Lib.hid g2
    clear g2
    go_wp2_with fail
    refine (HLv.out _).mono ?_
    rintro e w4 ⟨rfl, g4⟩
    have HB4 := Lib.hid (grown_trans HG2.out g4)
    clear g4
    go_wp2_with fail
    go_ret
    exact ⟨rfl, HB4.out⟩
  | true =>
    obtain ⟨hl, hr⟩ := right_parts hR
    have HRt := Lib.hid (lawRight_ok c h.1 hk true hR)
    by_cases hlo : lo < 0
    · have b0 : decide (lo < 0) = true := decide_eq_true hlo
      clear h hk hR hlv hr hlo
      go_enter Try.func9, Try.ntmps9
      go_wp2_with fail
      refine HRt.out.mono ?_
      rintro e w2 ⟨rfl, g2⟩
      have HG2 := Lib.hid g2
      clear g2
      go_wp2_with fail
      refine (HLv.out _).mono ?_
      rintro e w4 ⟨rfl, g4⟩
      have HB4 := Lib.hid (grown_trans HG2.out g4)
      clear g4
      go_wp2_with fail
      go_ret
      exact ⟨rfl, HB4.out⟩
    · have b0 : decide (lo < 0) = false := decide_eq_false hlo
      by_cases hhi : lo > 67108844
      · have b1 : decide (lo > 67108844) = true := decide_eq_true hhi
        clear h hk hR hlv hr hlo hhi
        go_enter Try.func9, Try.ntmps9
        go_wp2_with fail
        refine HRt.out.mono ?_
        rintro e w2 ⟨rfl, g2⟩
        have HG2 := Lib.hid g2
        clear g2
        go_wp2_with fail
        refine (HLv.out _).mono ?_
        rintro e w4 ⟨rfl, g4⟩
        have HB4 := Lib.hid (grown_trans HG2.out g4)
        clear g4
        go_wp2_with fail
        go_ret
        exact ⟨rfl, HB4.out⟩
      · have b1 : decide (lo > 67108844) = false := decide_eq_false hhi
        have lo0 : 0 ≤ lo := by omega
        have lo1 : lo ≤ 67108844 := by omega
        have hll := left_len lo (lo + K) hr
        have hlg := gone_len lo (lo + K) hr
        have hrl := rf_left lo (lo + K) hr
        have hap := allP_whole hr lo K
        have hsm := sum_is hr lo K
        have hnone := fun pg h1 h2 => left_none (pg := pg) (lo := lo) (hi := lo + K) hr h1 h2
        have hgin : ∀ x, x ∈ goneE L lo (lo + K) → GoodE x ∧ lo ≤ x.s ∧ x.e ≤ lo + K := fun x hx => by
          have h1 := (rf_good (rf_gone lo (lo + K) hr) x hx).1
          have h2 := (List.mem_filter.1 hx).2
          have h3 := of_decide_eq_true (show decide (lo ≤ x.s ∧ x.e ≤ lo + K) = true from h2)
          exact ⟨h1, h3⟩
        have h1 := fun w' (g : W.grownBy w' none) (pg : Int) => find_ok c (erow_grow h.1 g) hr (by omega) pg _ rfl _ rfl
        have h2 := fun w' (g : W.grownBy w' none) => cut_ok (h.grow g) hr (by omega) lo (lo + K)
        have h5 := fun w' (g : W.grownBy w' none) => whole_ok (h.grow g) hr (by omega) lo (lo + K) _ rfl
        obtain ⟨d, hd⟩ : ∃ d, wholeB L lo (lo + K) = d := ⟨_, rfl⟩
        rw [hd] at hap hsm h5
        obtain ⟨Lf, hLf⟩ : ∃ Lf, leftE L lo (lo + K) = Lf := ⟨_, rfl⟩
        obtain ⟨Gn, hGn⟩ : ∃ Gn, goneE L lo (lo + K) = Gn := ⟨_, rfl⟩
        rw [hLf] at hll hrl hnone
        rw [hGn] at hlg hsm hgin
        rw [hLf, hGn] at h2
        have h3 := fun w' s' c' (hh : ERow w' (.slice s' Lf.length c') Lf) (pg : Int) (k1 : lo ≤ pg) (k2 : pg < lo + K) => find_ok c' hh hrl (by omega) pg _ rfl false (hnone pg k1 k2)
        have h4 := fun w' s' c' (hh : ERow w' (.slice s' Lf.length c') Lf) => right_ok c' hh (fun x hx => ((rf_good hrl x hx).1).ok) (by omega)
        rw [(right_iff Lf).2 hrl] at h4
        have H1 := Lib.hid h1
        have H2 := Lib.hid h2
        have H3 := Lib.hid h3
        have H4 := Lib.hid h4
        have H5 := Lib.hid h5
        have HAp := Lib.hid hap
        have HSm := Lib.hid hsm
        have HGi := Lib.hid hgin
        have HX := Lib.hid h
        clear h hk hR hlv hr hlo hhi hll hrl hap hsm hnone hgin h1 h2 h3 h4 h5 hd hLf hGn
        go_enter Try.func9, Try.ntmps9
        go_wp2_with fail
        refine HRt.out.mono ?_
        rintro e w2 ⟨rfl, g2⟩
        have HG2 := Lib.hid g2
        clear g2
        go_wp2_with fail
        go_loopw [8, 9] (fun av pv wr => ∃ (q : Nat) (b : Bool), q ≤ K ∧ av = .bool b ∧ pv = .int .i64 (lo + (q : Int)) ∧ Hid (allP L lo q = b) ∧ Hid (w2.grownBy wr none)) (fun _ pv _ => (lo + (K : Int) - intOf pv).toNat)
        case atStart => exact ⟨0, true, by omega, rfl, by simp, rfl, grown_refl _ _⟩
        case round =>
          obtain ⟨q, b, hq, rfl, rfl, HE, HB⟩ := hrel
          by_cases hlt : q < K
          · have b2 : decide (lo + (q : Int) < lo + (K : Int)) = true := decide_eq_true (by omega)
            obtain ⟨r, hr⟩ : ∃ r, hasB L (lo + (q : Int)) = r := ⟨_, rfl⟩
            have hF := H1.out wr (grown_trans HG2.out HB.out) (lo + (q : Int))
            have hN := allP_succ L lo q
            rw [hr] at hF hN
            rw [HE.out] at hN
            have HF := Lib.hid hF
            clear hF hr
            cases b with
            | false =>
              have HN := Lib.hid (show allP L lo (q + 1) = false by rw [hN]; rfl)
              clear hN
              go_wp2_with fail
              refine HF.out.mono ?_
              rintro e w3 ⟨rfl, g3⟩
              have HB3 := Lib.hid (grown_trans HB.out g3)
              clear g3
              go_wp2_with fail
              go_roundw
              case rel => exact ⟨q + 1, false, by omega, rfl, by go_num, HN, HB3⟩
              case measure => simp [intOf]; omega
            | true =>
              have HN := Lib.hid (show allP L lo (q + 1) = r by rw [hN]; simp)
              clear hN
              go_wp2_with fail
              refine HF.out.mono ?_
              rintro e w3 ⟨rfl, g3⟩
              have HB3 := Lib.hid (grown_trans HB.out g3)
              clear g3
              go_wp2_with fail
              go_roundw
              case rel => exact ⟨q + 1, r, by omega, rfl, by go_num, HN, HB3⟩
              case measure => simp [intOf]; omega
          · obtain rfl : q = K := by omega
            have b2 : decide (lo + (q : Int) < lo + (q : Int)) = false := decide_eq_false (by omega)
            obtain rfl : b = d := by rw [← HE.out, HAp.out]
            have HB1 := Lib.hid (grown_trans HG2.out HB.out)
            have HC := Lib.hid (H2.out wr HB1.out)
            go_wp2_with fail
            refine HC.out.mono ?_
            rintro e w3 ⟨u1, u2, rfl, hown1, hown2, g3⟩
            obtain ⟨a1, c1, hvf⟩ := eown_form hown1
            subst hvf
            obtain ⟨a2, c2, hvf⟩ := eown_form hown2
            subst hvf
            have HO1 := Lib.hid (eown_row hown1)
            have HO2 := Lib.hid (eown_row hown2)
            have HG3 := Lib.hid (grown_trans HB1.out g3)
            clear hown1 hown2 g3
            go_wp2_with fail
            go_loopw [14, 64] (fun sv iv wr => ∃ (i : Nat) (t : Int), i ≤ Gn.length ∧ 0 ≤ t ∧ t ≤ 20 * i ∧ sv = .int .i64 t ∧ iv = .int .i64 i ∧ Hid (sumE (Gn.take i) = t) ∧ Hid (w3.grownBy wr none)) (fun _ iv _ => Gn.length - (intOf iv).toNat)
            case atStart => exact ⟨0, 0, by omega, by omega, by omega, rfl, rfl, rfl, grown_refl _ _⟩
            case round =>
              obtain ⟨i, t, hi, ht0, ht1, rfl, rfl, HT, HW⟩ := hrel
              by_cases hlt : i < Gn.length
              · obtain ⟨x, hx⟩ : ∃ x, Gn[i]? = some x := ⟨_, List.getElem?_eq_getElem hlt⟩
                obtain ⟨g, o, c5, hv1, ka0, ka1, ka2, ka3, ka4, ka5, ka6, ka7, ka8, ka9⟩ := en_cells (erow_grow HO2.out HW.out) hx
                injection hv1 with e1 e2 e3
                subst e1 e3
                obtain ⟨gd, gl, gh⟩ := HGi.out x (List.mem_of_getElem? hx)
                have q1 := gd.s0
                have q2 := gd.e1
                have q7 := gd.lt
                have hN := sum_take hx
                rw [HT.out] at hN
                have HN := Lib.hid hN
                have HW1 := Lib.hid (grown_trans HW.out (grown_box wr x))
                have b3 : decide (x.s < lo) = false := decide_eq_false (by omega)
                have b4 : decide (x.e > lo + (q : Int)) = false := decide_eq_false (by omega)
                clear hx hN gd
                go_wp2_with fail
                go_roundw
                case rel => exact ⟨i + 1, t + (x.e - x.s), by omega, by omega, by omega, by go_num, by go_num, HN, HW1⟩
                case measure => simp [intOf]; omega
              · obtain rfl : i = Gn.length := by omega
                have hT := HT.out
                rw [List.take_length] at hT
                have hS := HSm.out
                rw [hT] at hS
                have HG4 := Lib.hid (grown_trans HG3.out HW.out)
                have HO := Lib.hid (erow_grow HO1.out HW.out)
                clear hT
                generalize hw4 : wr = w4 at *
                clear hw4
                go_wp2_with fail
                go_loopw [17] (fun pv wr => ∃ j : Nat, j ≤ q ∧ pv = .int .i64 (lo + (j : Int)) ∧ Hid (w4.grownBy wr none)) (fun pv _ => (lo + (q : Int) - intOf pv).toNat)
                case atStart => exact ⟨0, by omega, by simp, grown_refl _ _⟩
                case round =>
                  obtain ⟨j, hj, rfl, HZ⟩ := hrel
                  by_cases hlt : j < q
                  · have b5 : decide (lo + (j : Int) < lo + (q : Int)) = true := decide_eq_true (by omega)
                    have HF := Lib.hid (H3.out wr a1 c1 (erow_grow HO.out HZ.out) (lo + (j : Int)) (by omega) (by omega))
                    go_wp2_with fail
                    refine HF.out.mono ?_
                    rintro e w6 ⟨rfl, g6⟩
                    have HZ6 := Lib.hid (grown_trans HZ.out g6)
                    clear g6
                    go_wp2_with fail
                    go_roundw
                    case rel => exact ⟨j + 1, by omega, by go_num, HZ6⟩
                    case measure => simp [intOf]; omega
                  · obtain rfl : j = q := by omega
                    have HG5 := Lib.hid (grown_trans HG4.out HZ.out)
                    have HWh := Lib.hid (H5.out wr HG5.out)
                    have brr : (b == b) = true := by simp
                    go_wp2_with fail
                    refine HWh.out.mono ?_
                    rintro e w7 ⟨rfl, g7⟩
                    have HG7 := Lib.hid (grown_trans HG5.out g7)
                    have HRg := Lib.hid (H4.out w7 a1 c1 (erow_grow HO.out (grown_trans HZ.out g7)))
                    clear g7
                    go_wp2_with fail
                    refine HRg.out.mono ?_
                    rintro e w8 ⟨rfl, g8⟩
                    have HG8 := Lib.hid (grown_trans HG7.out g8)
                    clear g8
                    go_wp2_with fail
                    refine (HLv.out _).mono ?_
                    rintro e w9 ⟨rfl, g9⟩
                    have HG9 := Lib.hid (grown_trans HG8.out g9)
                    clear g9
                    go_wp2_with fail
                    go_ret
                    exact ⟨rfl, HG9.out⟩
end Go.Proofs.Ytklmlimfhgonjaa
