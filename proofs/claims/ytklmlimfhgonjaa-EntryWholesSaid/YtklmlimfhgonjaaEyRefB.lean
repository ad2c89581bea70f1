/- Layer 15: whether a list may be, where a page's entry stands, whether all pages have one, where there is space: the document's. -/
import Derived.Test.YtklmlimfhgonjaaEyRefA
import Derived.Deep.CutBlock
import Derived.Deep.DeepCutAuto
namespace Go.Proofs.Ytklmlimfhgonjaa
open Go.ChangeShapes Go.WideShapes Go.ChangeAt Go.RowKit Go.Deep
set_option linter.unusedVariables false

set_option maxHeartbeats 2000000 in
theorem refRight_ok {w : World} {s : Option Addr} {L : List En} (c : Nat) (h : ERow w (.slice s L.length c) L) (hk : ∀ x, x ∈ L → OkE x) (hl : L.length ≤ 1000000) :
    Calls Try.prog 15 #[.slice s L.length c] w fun e w' => e = .returned (.bool (rightB L)) ∧ w.grownBy w' none := by
  obtain ⟨d, hd⟩ : ∃ d, rightB L = d := ⟨_, rfl⟩
  rw [hd]
  have HX := Lib.hid h
  have HK := Lib.hid hk
  have HD := Lib.hid hd
  clear h hk hd
  go_enter Try.func15, Try.ntmps15
  go_wp2_with fail
  go_loopw [7] (fun iv wr => ∃ (q : Nat) (b : Int), q ≤ L.length ∧ iv = .int .i64 q ∧ Hid (rightB L = rfB b (L.drop q)) ∧ Hid (q = 0 → b = 0) ∧ Hid (∀ y, L[q - 1]? = some y → 0 < q → b = y.e) ∧ Hid (w.grownBy wr none)) (fun iv _ => L.length - (intOf iv).toNat)
  case atStart => exact ⟨0, 0, by omega, rfl, rfl, fun _ => rfl, fun _ _ h => by omega, grown_refl _ _⟩
  case round =>
    obtain ⟨q, b, hq, rfl, HE, HZ, HP, HB⟩ := hrel
    by_cases hlt : q < L.length
    · obtain ⟨x, hx⟩ : ∃ x, L[q]? = some x := ⟨_, List.getElem?_eq_getElem hlt⟩
      obtain ⟨g, o, c1, hv1, ka0, ka1, ka2, ka3, ka4, ka5, ka6, ka7, ka8, ka9⟩ := en_cells (erow_grow HX.out HB.out) hx
      injection hv1 with e1 e2 e3
      subst e1 e3
      have hE := HE.out
      rw [get_eq hx] at hE
      have hE2 : d = (goodB x && decide (b ≤ x.s) && rfB x.e (L.drop (q + 1))) := by rw [← HD.out]; exact hE
      have hgo := fun W => refGood_ok x (HK.out x (List.mem_of_getElem? hx)) W
      have HNx := Lib.hid (show ∀ y, L[q + 1 - 1]? = some y → 0 < q + 1 → x.e = y.e from fun y hy _ => by rw [Nat.add_sub_cancel, hx] at hy; cases hy; rfl)
      have hkx := (EnB.new wr x).all
      have hgb : w.grownBy (wr.alloc (.cells #[.int .i64 x.s, .int .i64 x.e, .int .i64 x.f, .int .i64 x.o, .bool x.sh, .int .i64 x.p, .int .i64 x.m, .int .i64 x.i, .int .i64 x.a, .bool x.wi] 25)) none := grown_trans HB.out (grown_box wr x)
      have hrow := erow_grow HX.out hgb
      have hHx := hx
      clear HB hE hx
      go_upto_region 4 with fail
      generalize hwb : wr.alloc (.cells #[.int .i64 x.s, .int .i64 x.e, .int .i64 x.f, .int .i64 x.o, .bool x.sh, .int .i64 x.p, .int .i64 x.m, .int .i64 x.i, .int .i64 x.a, .bool x.wi] 25) = wb at *
      obtain ⟨k0, k1, k2, k3, k4, k5, k6, k7, k8, k9⟩ := hkx
      have HB := Lib.hid hgb
      have r0 := cell_regrown k0
      have r1 := cell_regrown k1
      have r2 := cell_regrown k2
      have r3 := cell_regrown k3
      have r4 := cell_regrown k4
      have r5 := cell_regrown k5
      have r6 := cell_regrown k6
      have r7 := cell_regrown k7
      have r8 := cell_regrown k8
      have r9 := cell_regrown k9
      cases hgd : goodB x with
      | false =>
        obtain rfl : d = false := by rw [hE2, hgd]; simp
        simp only [hgd] at hgo
        have hcG := Calls.regrown_g (w := wb) fun W _ => hgo W
        clear hE2 hgd hgo hwb hgb hrow
        go_wp2_with fail
        refine wp_region_quiet_below (by kernel_rfl) (by kernel_rfl) ?_
        repeat (go_big_quiet_step (first | exact hcG _ _ | fail))
        refine wpQuiet_nil ?_
        intro _ hw'
        obtain ⟨⟨dq, osq⟩, hw''⟩ := hw'
        subst hw''
        have HB1 := Lib.hid (grown_trans HB.out (regrown_grown wb dq osq))
        go_wp2_with fail
        go_ret
        exact ⟨rfl, HB1.out⟩
      | true =>
        simp only [hgd] at hgo
        rw [hgd] at hE2
        have hcG := Calls.regrown_g (w := wb) fun W _ => hgo W
        rcases Nat.eq_zero_or_pos q with h0 | h0
        · subst h0
          have hb0 := HZ.out rfl
          subst hb0
          have hgd2 := (goodB_iff x).1 hgd
          have HE2 := Lib.hid (show rightB L = rfB x.e (L.drop (0 + 1)) by rw [HD.out, hE2, decide_eq_true hgd2.s0]; simp)
          clear hE2 hgd hgd2 hgo hwb hgb hrow
          go_wp2_with fail
          refine wp_region_quiet_below (by kernel_rfl) (by kernel_rfl) ?_
          repeat (go_big_quiet_step (first | exact hcG _ _ | fail))
          refine wpQuiet_nil ?_
          intro _ hw'
          obtain ⟨⟨dq, osq⟩, hw''⟩ := hw'
          subst hw''
          have HB1 := Lib.hid (grown_trans HB.out (regrown_grown wb dq osq))
          go_wp2_with fail
          go_roundw
          case rel => exact ⟨0 + 1, x.e, by omega, by go_num, HE2, Lib.hid (fun h => by omega), HNx, HB1⟩
          case measure => simp [intOf]; omega
        · obtain ⟨t, rfl⟩ : ∃ t, q = t + 1 := ⟨q - 1, by omega⟩
          obtain ⟨y, hy⟩ : ∃ y, L[t]? = some y := ⟨_, List.getElem?_eq_getElem (by omega)⟩
          have hby := HP.out y hy (by omega)
          subst hby
          obtain ⟨g8, o8, c8, hv8, hat8⟩ := en_cells hrow hy
          injection hv8 with f1 f2 f3
          injection f1 with f1
          injection f1 with f1 f4
          subst f1 f4 f3
          have ry := cell_regrown hat8.c1
          clear hat8 hy
          by_cases hlow : x.s < y.e
          · obtain rfl : d = false := by rw [hE2]; simp; intro h; omega
            have hb1 : decide (x.s < y.e) = true := decide_eq_true hlow
            clear hE2 hgd hlow hgo hwb hgb hrow
            go_wp2_with fail
            refine wp_region_quiet_below (by kernel_rfl) (by kernel_rfl) ?_
            repeat (go_big_quiet_step (first | exact hcG _ _ | fail))
            refine wpQuiet_nil ?_
            intro _ hw'
            obtain ⟨⟨dq, osq⟩, hw''⟩ := hw'
            subst hw''
            have HB1 := Lib.hid (grown_trans HB.out (regrown_grown wb dq osq))
            go_wp2_with fail
            go_ret
            exact ⟨rfl, HB1.out⟩
          · have hb1 : decide (x.s < y.e) = false := decide_eq_false hlow
            have HE2 := Lib.hid (show rightB L = rfB x.e (L.drop (t + 1 + 1)) by rw [HD.out, hE2, decide_eq_true (show y.e ≤ x.s by omega)]; simp)
            clear hE2 hgd hlow hgo hwb hgb hrow
            go_wp2_with fail
            refine wp_region_quiet_below (by kernel_rfl) (by kernel_rfl) ?_
            repeat (go_big_quiet_step (first | exact hcG _ _ | fail))
            refine wpQuiet_nil ?_
            intro _ hw'
            obtain ⟨⟨dq, osq⟩, hw''⟩ := hw'
            subst hw''
            have HB1 := Lib.hid (grown_trans HB.out (regrown_grown wb dq osq))
            go_wp2_with fail
            go_roundw
            case rel => exact ⟨t + 1 + 1, x.e, by omega, by go_num, HE2, Lib.hid (fun h => by omega), HNx, HB1⟩
            case measure => simp [intOf]; omega
    · obtain rfl : q = L.length := by omega
      obtain rfl : d = true := by rw [← HD.out, HE.out, List.drop_length]; rfl
      go_wp2_with fail
      go_ret
      exact ⟨rfl, HB.out⟩
end Go.Proofs.Ytklmlimfhgonjaa
