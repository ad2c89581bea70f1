/- The laws of layer 15: whether any list may be; the entry of any page, whether all pages have one, where there is space. -/
import Derived.Test.YtklmlimfhgonjaaEyLives
namespace Go.Proofs.Ytklmlimfhgonjaa
open Go.ChangeShapes Go.WideShapes Go.ChangeAt Go.RowKit Go.Deep Go.Sort
set_option linter.unusedVariables false

set_option maxRecDepth 100000 in
set_option maxHeartbeats 4000000 in
theorem rights_law (W : World) {s : Option Addr} {c : Nat} {L : List En} (h : EC W (.slice s L.length c) L) (hk : ∀ x, x ∈ L → OkE x) :
    Calls Try.prog 3 #[.slice s L.length c] W fun e w' => e = .returned (.bool true) ∧ W.grownBy w' none := by
  have hlv := lives_ok
  have HLv := Lib.hid hlv
  clear hlv
  by_cases hl : L.length ≤ 100
  · have b0 : decide ((L.length : Int) > 100) = false := decide_eq_false (by omega)
    have hmax : L.length ≤ 1000000 := by omega
    have HX := Lib.hid h
    have HK := Lib.hid hk
    obtain ⟨r, hr⟩ : ∃ r, rightB L = r := ⟨_, rfl⟩
    have h1 := fun w' (g : W.grownBy w' none) => right_ok c (erow_grow h.1 g) hk hmax
    have h2 := fun w' (g : W.grownBy w' none) => refRight_ok c (erow_grow h.1 g) hk hmax
    rw [hr] at h1 h2
    have H1 := Lib.hid h1
    have H2 := Lib.hid h2
    have brr : (r == r) = true := by simp
    clear h hk hr h1 h2
    go_enter Try.func3, Try.ntmps3
    go_wp2_with fail
    go_loopw [11] (fun iv wr => ∃ q : Nat, q ≤ L.length ∧ iv = .int .i64 q ∧ Hid (W.grownBy wr none)) (fun iv _ => L.length - (intOf iv).toNat)
    case atStart => exact ⟨0, by omega, rfl, grown_refl _ _⟩
    case round =>
      obtain ⟨q, hq, rfl, HB⟩ := hrel
      by_cases hlt : q < L.length
      · obtain ⟨x, hx⟩ : ∃ x, L[q]? = some x := ⟨_, List.getElem?_eq_getElem hlt⟩
        obtain ⟨g, o, c1, hv1, ka0, ka1, ka2, ka3, ka4, ka5, ka6, ka7, ka8, ka9⟩ := en_cells (erow_grow HX.out.1 HB.out) hx
        injection hv1 with e1 e2 e3
        subst e1 e3
        have hgb : W.grownBy (wr.alloc (.cells #[.int .i64 x.s, .int .i64 x.e, .int .i64 x.f, .int .i64 x.o, .bool x.sh, .int .i64 x.p, .int .i64 x.m, .int .i64 x.i, .int .i64 x.a, .bool x.wi] 25)) none := grown_trans HB.out (grown_box wr x)
        have hkx := (EnB.new wr x).all
        have hok := HK.out x (List.mem_of_getElem? hx)
        obtain ⟨d, hd⟩ : ∃ d, goodB x = d := ⟨_, rfl⟩
        have hg1 := fun w' => good_ok x hok w'
        have hg2 := fun w' => refGood_ok x hok w'
        rw [hd] at hg1 hg2
        have bd : (d != d) = false := by simp
        clear hx hok hd
        go_upto_region 6 with fail
        generalize hwb : wr.alloc (.cells #[.int .i64 x.s, .int .i64 x.e, .int .i64 x.f, .int .i64 x.o, .bool x.sh, .int .i64 x.p, .int .i64 x.m, .int .i64 x.i, .int .i64 x.a, .bool x.wi] 25) = wb at *
        have HGb := Lib.hid hgb
        obtain ⟨k0, k1, k2, k3, k4, k5, k6, k7, k8, k9⟩ := hkx
        have r0 := cell_regrown k0
        have r1 := cell_regrown k1
        have r2 := cell_regrown k2
        have r3 := cell_regrown k3
        have r4 := cell_regrown k4
        have r5 := cell_regrown k5
        have r6 := cell_regrown k6
        have r7 := cell_regrown k7
        have r8 := cell_regrown k8
        have r9 := cell_regrown k9
        have hc1 := Calls.regrown_g (w := wb) fun w' _ => hg1 w'
        have hc2 := Calls.regrown_g (w := wb) fun w' _ => hg2 w'
        clear hwb hgb hg1 hg2
        refine wp_region_quiet_below (by kernel_rfl) (by kernel_rfl) ?_
        repeat (go_big_quiet_step (first | exact hc1 _ _ | exact hc2 _ _ | fail))
        refine wpQuiet_nil ?_
        intro _ hw'
        obtain ⟨⟨dq, osq⟩, hw''⟩ := hw'
        subst hw''
        have HG3 := Lib.hid (grown_trans HGb.out (regrown_grown wb dq osq))
        clear r0 r1 r2 r3 r4 r5 r6 r7 r8 r9 hc1 hc2 k0 k1 k2 k3 k4 k5 k6 k7 k8 k9
        generalize grow (redrawn wb dq) osq = w3 at *
        go_wp2_with fail
        go_roundw
        case rel => exact ⟨q + 1, by omega, by go_num, HG3⟩
        case measure => simp [intOf]; omega
      · obtain rfl : q = L.length := by omega
        have HA := Lib.hid (H1.out wr HB.out)
        go_wp2_with fail
        refine HA.out.mono ?_
        rintro e w2 ⟨rfl, g2⟩
        have HB2 := Lib.hid (grown_trans HB.out g2)
        have HC := Lib.hid (H2.out w2 HB2.out)
        clear g2
        go_wp2_with fail
        refine HC.out.mono ?_
        rintro e w3 ⟨rfl, g3⟩
        have HB3 := Lib.hid (grown_trans HB2.out g3)
        clear g3
        go_wp2_with fail
        refine (HLv.out _).mono ?_
        rintro e w4 ⟨rfl, g4⟩
        have HB4 := Lib.hid (grown_trans HB3.out g4)
        clear g4
        go_wp2_with fail
        go_ret
        exact ⟨rfl, HB4.out⟩
  · have b0 : decide ((L.length : Int) > 100) = true := decide_eq_true (by omega)
    clear h hk hl
    go_enter Try.func3, Try.ntmps3
    go_wp2_with fail
    refine (HLv.out _).mono ?_
    rintro e w4 ⟨rfl, g4⟩
    have HB4 := Lib.hid g4
    clear g4
    go_wp2_with fail
    go_ret
    exact ⟨rfl, HB4.out⟩
theorem right_parts {L : List En} (h : (decide (L.length ≤ 100) && rightB L) = true) : L.length ≤ 100 ∧ RF 0 L := by
  simp only [Bool.and_eq_true, decide_eq_true_eq] at h
  exact ⟨h.1, (right_iff L).1 h.2⟩
set_option maxRecDepth 100000 in
set_option maxHeartbeats 4000000 in
theorem finds_law (W : World) {s : Option Addr} {c : Nat} {L : List En} (h : EC W (.slice s L.length c) L) (hk : ∀ x, x ∈ L → OkE x) (x y : Int) :
    Calls Try.prog 4 #[.slice s L.length c, .agg #[.int .i64 x, .int .i64 y]] W fun e w' => e = .returned (.bool true) ∧ W.grownBy w' none := by
  have hlv := lives_ok
  have HLv := Lib.hid hlv
  have hg1 := World.grownBy_alloc W (.cells #[.int .i64 x, .int .i64 y] 28) none
  have hrow := erow_grow h.1 hg1
  cases hR : (decide (L.length ≤ 100) && rightB L) with
  | false =>
    have HRt := Lib.hid (lawRight_ok c hrow hk false hR)
    have HG1 := Lib.hid hg1
    clear h hk hR hrow hg1 hlv
    go_enter Try.func4, Try.ntmps4
    go_wp2_with fail
    refine HRt.out.mono ?_
    rintro e w2 ⟨rfl, g2⟩
    have HG2 := Lib.hid (grown_trans HG1.out g2)
    clear g2
    go_wp2_with fail
    refine (HLv.out _).mono ?_
    rintro e w4 ⟨rfl, g4⟩
    have HB4 := Lib.hid (grown_trans HG2.out g4)
    clear g4
    go_wp2_with fail
    go_ret
    exact ⟨rfl, HB4.out⟩
  | true =>
    obtain ⟨hl, hr⟩ := right_parts hR
    have HRt := Lib.hid (lawRight_ok c hrow hk true hR)
    obtain ⟨k, hk1⟩ : ∃ k, findK L x = k := ⟨_, rfl⟩
    obtain ⟨d, hd⟩ : ∃ d, hasB L x = d := ⟨_, rfl⟩
    obtain ⟨wb', hw1⟩ : ∃ b, wholeB L x y = b := ⟨_, rfl⟩
    have h1 := fun w' (g : W.grownBy w' none) => find_ok c (erow_grow h.1 g) hr (by omega) x k hk1 d hd
    have h2 := fun w' (g : W.grownBy w' none) => refFind_ok c (erow_grow h.1 g) (by omega) x k hk1 d hd
    have h3 := fun w' (g : W.grownBy w' none) => space_ok (h.grow g) hr (by omega) x y
    have h4 := fun w' (g : W.grownBy w' none) => refSpace_ok c (erow_grow h.1 g) hr (by omega) x y
    have h5 := fun w' (g : W.grownBy w' none) => whole_ok (h.grow g) hr (by omega) x y wb' hw1
    have h6 := fun w' (g : W.grownBy w' none) => refWhole_ok c (erow_grow h.1 g) hr (by omega) x y wb' hw1
    obtain ⟨p, b, hsp⟩ : ∃ p b, spaceV L x y = .tuple #[.int .i64 p, .bool b] := by
      unfold spaceV
      cases spaceE L x y with
      | none => exact ⟨_, _, rfl⟩
      | some a => exact ⟨_, _, rfl⟩
    rw [hsp] at h3 h4
    have H1 := Lib.hid h1
    have H2 := Lib.hid h2
    have H3 := Lib.hid h3
    have H4 := Lib.hid h4
    have H5 := Lib.hid h5
    have H6 := Lib.hid h6
    have HG1 := Lib.hid hg1
    have hbx := heap_alloc_new W (.cells #[.int .i64 x, .int .i64 y] 28)
    have HBx := Lib.hid hbx
    have q1 : ((k : Int) == (k : Int)) = true := by simp
    have q2 : (d == d) = true := by simp
    have q3 : (wb' == wb') = true := by simp
    have q4 : (p == p) = true := by simp
    have q5 : (b == b) = true := by simp
    clear h hk hR hrow hg1 hlv h1 h2 h3 h4 h5 h6 hk1 hd hw1 hsp hbx hr
    go_enter Try.func4, Try.ntmps4
    go_wp2_with fail
    refine HRt.out.mono ?_
    rintro e w2 ⟨rfl, g2⟩
    have HG2 := Lib.hid (grown_trans HG1.out g2)
    have hb := (g2.block W.heap.size (by simp) (by simp)).trans HBx.out
    have k0 : w2.cell? ⟨W.heap.size, 0, none⟩ = some (.int .i64 x) := by rw [cell_of_row _ _ _ _ _ _ hb]; rfl
    have k1 : w2.cell? ⟨W.heap.size, 1, none⟩ = some (.int .i64 y) := by rw [cell_of_row _ _ _ _ _ _ hb]; rfl
    have HA := Lib.hid (H1.out w2 HG2.out)
    clear g2 hb
    go_wp2_with fail
    refine HA.out.mono ?_
    rintro e w3 ⟨rfl, g3⟩
    have HG3 := Lib.hid (grown_trans HG2.out g3)
    have m0 := g3.cell k0 (by simp)
    have m1 := g3.cell k1 (by simp)
    have HB := Lib.hid (H2.out w3 HG3.out)
    clear g3 k0 k1
    go_wp2_with fail
    refine HB.out.mono ?_
    rintro e w4 ⟨rfl, g4⟩
    have HG4 := Lib.hid (grown_trans HG3.out g4)
    have k0 := g4.cell m0 (by simp)
    have k1 := g4.cell m1 (by simp)
    have HC := Lib.hid (H3.out w4 HG4.out)
    clear g4 m0 m1
    go_wp2_with fail
    refine HC.out.mono ?_
    rintro e w5 ⟨rfl, g5⟩
    have HG5 := Lib.hid (grown_trans HG4.out g5)
    have m0 := g5.cell k0 (by simp)
    have m1 := g5.cell k1 (by simp)
    have HD := Lib.hid (H4.out w5 HG5.out)
    clear g5 k0 k1
    go_wp2_with fail
    refine HD.out.mono ?_
    rintro e w6 ⟨rfl, g6⟩
    have HG6 := Lib.hid (grown_trans HG5.out g6)
    have k0 := g6.cell m0 (by simp)
    have k1 := g6.cell m1 (by simp)
    clear g6 m0 m1
    have r0 := cell_regrown k0
    have r1 := cell_regrown k1
    have hc5 := Calls.regrown_g (w := w6) fun w' g => H5.out w' (grown_trans HG6.out g)
    have hc6 := Calls.regrown_g (w := w6) fun w' g => H6.out w' (grown_trans HG6.out g)
    have hc7 := Calls.regrown_g (w := w6) fun w' _ => HLv.out w'
    go_upto_region 7 with fail
    refine wp_region_quiet_below (by kernel_rfl) (by kernel_rfl) ?_
    repeat (go_big_quiet_step (first | exact hc5 _ _ | exact hc6 _ _ | exact hc7 _ _ | fail))
    refine wpQuiet_nil ?_
    intro _ hw'
    obtain ⟨⟨dq, osq⟩, hw''⟩ := hw'
    subst hw''
    have HG7 := Lib.hid (grown_trans HG6.out (regrown_grown w6 dq osq))
    go_wp2_with fail
    go_ret
    exact ⟨rfl, HG7.out⟩
end Go.Proofs.Ytklmlimfhgonjaa
