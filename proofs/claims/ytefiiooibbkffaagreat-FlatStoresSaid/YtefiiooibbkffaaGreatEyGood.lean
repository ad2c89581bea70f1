/- Layer 15: whether an entry may be, the landed. Written by genygood.py. -/
import Derived.Test.YtefiiooibbkffaaGreatEyMem
import Derived.Test.YtefiiooibbkffaaGreatEyBits
namespace Go.Proofs.YtefiiooibbkffaaGreat
open Go.ChangeShapes Go.WideShapes Go.ChangeAt Go.RowKit Go.Deep
set_option linter.unusedVariables false
set_option linter.unusedSimpArgs false


def reachP (f o s e : Int) : Prop := (f = 0 ∧ o = 0) ∨ (0 < f ∧ 0 ≤ o ∧ o ≤ 4096 - (e - s))
instance (f o s e : Int) : Decidable (reachP f o s e) := by unfold reachP; infer_instance
set_option maxHeartbeats 1000000 in
theorem reaches_ok (x : En) (h0 : 0 ≤ x.s) (h1 : x.s < x.e) (h2 : x.e ≤ 67108864) (d : Bool) (hd : decide (reachP x.f x.o x.s x.e) = d) (w : World) : Calls Tryz.prog 199 #[.agg #[.int .i64 x.s, .int .i64 x.e, .int .i64 x.f, .int .i64 x.o, .bool x.sh, .int .i64 x.p, .int .i64 x.m, .int .i64 x.i, .int .i64 x.a, .bool x.wi]] w fun e w' => e = .returned (.bool d) ∧ w.grownBy w' none := by
  obtain ⟨s, e, f, o, sh, p, m, i, a, wi⟩ := x
  simp only at *
  unfold reachP at hd
  by_cases c0 : f = 0
  · have b0 : (f == 0) = true := by simp [c0]
    have b1 : (o == 0) = d := by rw [← hd]; by_cases h : o = 0 <;> simp [h, c0]
    clear hd
    go_enter Tryz.func199, Tryz.ntmps199
    go_wp2_with fail
    go_ret
    exact ⟨rfl, World.grownBy_alloc _ _ _⟩
  · have b0 : (f == 0) = false := by simp [c0]
    by_cases c1 : f > 0
    · have b1 : decide (f > 0) = true := decide_eq_true c1
      by_cases c2 : o ≥ 0
      · have b2 : decide (o ≥ 0) = true := decide_eq_true c2
        have b3 : decide (o ≤ 4096 - (e - s)) = d := by rw [← hd]; apply decide_eq_decide.2; omega
        clear hd
        go_enter Tryz.func199, Tryz.ntmps199
        go_wp2_with fail
        go_ret
        exact ⟨rfl, World.grownBy_alloc _ _ _⟩
      · have b2 : decide (o ≥ 0) = false := decide_eq_false c2
        obtain rfl : d = false := by rw [← hd]; apply decide_eq_false; omega
        clear hd
        go_enter Tryz.func199, Tryz.ntmps199
        go_wp2_with fail
        go_ret
        exact ⟨rfl, World.grownBy_alloc _ _ _⟩
    · have b1 : decide (f > 0) = false := decide_eq_false c1
      obtain rfl : d = false := by rw [← hd]; apply decide_eq_false; omega
      clear hd
      go_enter Tryz.func199, Tryz.ntmps199
      go_wp2_with fail
      go_ret
      exact ⟨rfl, World.grownBy_alloc _ _ _⟩

set_option maxHeartbeats 4000000 in
theorem good_ok (x : En) (hx : OkE x) (w : World) : Calls Tryz.prog 181 #[.agg #[.int .i64 x.s, .int .i64 x.e, .int .i64 x.f, .int .i64 x.o, .bool x.sh, .int .i64 x.p, .int .i64 x.m, .int .i64 x.i, .int .i64 x.a, .bool x.wi]] w fun e w' => e = .returned (.bool (goodB x)) ∧ w.grownBy w' none := by
  obtain ⟨d, hd⟩ : ∃ d, goodB x = d := ⟨_, rfl⟩
  rw [hd]
  have hN : ¬ GoodE x → d = false := fun h => by rw [← hd]; exact goodB_no h
  have hY : GoodE x → d = true := fun h => by rw [← hd]; exact (goodB_iff x).2 h
  have hR := reaches_ok x
  have hB := EnB.new w x
  have g1 := World.grownBy_alloc w (.cells #[.int .i64 x.s, .int .i64 x.e, .int .i64 x.f, .int .i64 x.o, .bool x.sh, .int .i64 x.p, .int .i64 x.m, .int .i64 x.i, .int .i64 x.a, .bool x.wi] 50 (0, 0)) none
  obtain ⟨s, e, f, o, sh, p, m, i, a, wi⟩ := x
  have hp := hx.p
  have hm := hx.m
  simp only at *
  have HB := Lib.hid hB
  have HG := Lib.hid g1
  clear hd hx hB g1

  by_cases c0 : s ≥ 0
  case neg =>
    obtain rfl : d = false := hN fun h => by have := h.s0; simp only at this; omega
    have b0 : decide (s ≥ 0) = false := by simpa using c0
    clear hN hY
    go_enter Tryz.func181, Tryz.ntmps181
    go_wp2_with fail
    go_ret
    exact ⟨rfl, World.grownBy_alloc _ _ _⟩
  by_cases c1 : s < e
  case neg =>
    obtain rfl : d = false := hN fun h => by have := h.lt; simp only at this; omega
    have b0 : decide (s ≥ 0) = true := by simpa using c0
    have b1 : decide (s < e) = false := by simpa using c1
    clear hN hY
    go_enter Tryz.func181, Tryz.ntmps181
    go_wp2_with fail
    go_ret
    exact ⟨rfl, World.grownBy_alloc _ _ _⟩
  by_cases c2 : e ≤ 67108864
  case neg =>
    obtain rfl : d = false := hN fun h => by have := h.e1; simp only at this; omega
    have b0 : decide (s ≥ 0) = true := by simpa using c0
    have b1 : decide (s < e) = true := by simpa using c1
    have b2 : decide (e ≤ 67108864) = false := by simpa using c2
    clear hN hY
    go_enter Tryz.func181, Tryz.ntmps181
    go_wp2_with fail
    go_ret
    exact ⟨rfl, World.grownBy_alloc _ _ _⟩
  obtain ⟨r, hr⟩ : ∃ r, decide (reachP f o s e) = r := ⟨_, rfl⟩
  have HR := Lib.hid (hR (by omega) c1 c2 r hr (w.alloc (.cells #[.int .i64 s, .int .i64 e, .int .i64 f, .int .i64 o, .bool sh, .int .i64 p, .int .i64 m, .int .i64 i, .int .i64 a, .bool wi] 50 (0, 0))))
  clear hR
  by_cases c3 : r = true
  case neg =>
    have c3r : r = false := by simpa using c3
    subst c3r
    obtain rfl : d = false := hN fun h => by unfold reachP at hr; have := of_decide_eq_false hr; have h1 := h.oz; have h2 := h.oe; have h3 := h.f0; have h4 := h.o0; simp only at h1 h2 h3 h4; omega
    have b0 : decide (s ≥ 0) = true := by simpa using c0
    have b1 : decide (s < e) = true := by simpa using c1
    have b2 : decide (e ≤ 67108864) = true := by simpa using c2
    clear hN hY
    go_enter Tryz.func181, Tryz.ntmps181
    go_wp2_with fail
    refine HR.out.mono ?_; rintro e1 w2 ⟨rfl, g2⟩; have HB2 := Lib.hid (HB.out.grow g2); have HG2 := Lib.hid (grown_trans HG.out g2); obtain ⟨k0, k1, k2, k3, k4, k5, k6, k7, k8, k9⟩ := HB2.out.at; clear g2
    go_wp2_with fail
    go_ret
    exact ⟨rfl, HG2.out⟩
  subst c3
  have hre : reachP f o s e := of_decide_eq_true hr
  have h7 := not7 hm
  obtain ⟨n7, hn7⟩ : ∃ n7, bits .andNot .i64 m 7 = n7 := ⟨_, rfl⟩
  rw [hn7] at h7
  by_cases c4 : 0 ≤ m ∧ m ≤ 7
  case neg =>
    obtain rfl : d = false := hN fun h => by exact c4 (let q := (fits_iff.1 h.pm).2.1; q)
    have b0 : decide (s ≥ 0) = true := by simpa using c0
    have b1 : decide (s < e) = true := by simpa using c1
    have b2 : decide (e ≤ 67108864) = true := by simpa using c2
    have b3 : (n7 == 0) = false := by simp; exact fun h => c4 (h7.1 h)
    clear hN hY
    go_enter Tryz.func181, Tryz.ntmps181
    go_wp2_with fail
    refine HR.out.mono ?_; rintro e1 w2 ⟨rfl, g2⟩; have HB2 := Lib.hid (HB.out.grow g2); have HG2 := Lib.hid (grown_trans HG.out g2); obtain ⟨k0, k1, k2, k3, k4, k5, k6, k7, k8, k9⟩ := HB2.out.at; clear g2
    go_wp2_with fail
    go_ret
    exact ⟨rfl, HG2.out⟩
  have hM := notM hp c4.1 c4.2
  obtain ⟨nm, hnm⟩ : ∃ nm, bits .andNot .i64 p m = nm := ⟨_, rfl⟩
  rw [hnm] at hM
  by_cases c5 : (0 ≤ p ∧ p ≤ 7) ∧ p.toNat &&& m.toNat = p.toNat
  case neg =>
    obtain rfl : d = false := hN fun h => by exact c5 (let q := fits_iff.1 h.pm; ⟨q.1, q.2.2⟩)
    have b0 : decide (s ≥ 0) = true := by simpa using c0
    have b1 : decide (s < e) = true := by simpa using c1
    have b2 : decide (e ≤ 67108864) = true := by simpa using c2
    have b3 : (n7 == 0) = true := by simp; exact h7.2 c4
    have b4 : (nm == 0) = false := by simp; exact fun h => c5 (hM.1 h)
    clear hN hY
    go_enter Tryz.func181, Tryz.ntmps181
    go_wp2_with fail
    refine HR.out.mono ?_; rintro e1 w2 ⟨rfl, g2⟩; have HB2 := Lib.hid (HB.out.grow g2); have HG2 := Lib.hid (grown_trans HG.out g2); obtain ⟨k0, k1, k2, k3, k4, k5, k6, k7, k8, k9⟩ := HB2.out.at; clear g2
    go_wp2_with fail
    go_ret
    exact ⟨rfl, HG2.out⟩
  by_cases c6 : i ≥ 0
  case neg =>
    obtain rfl : d = false := hN fun h => by have := h.i0; simp only at this; omega
    have b0 : decide (s ≥ 0) = true := by simpa using c0
    have b1 : decide (s < e) = true := by simpa using c1
    have b2 : decide (e ≤ 67108864) = true := by simpa using c2
    have b3 : (n7 == 0) = true := by simp; exact h7.2 c4
    have b4 : (nm == 0) = true := by simp; exact hM.2 c5
    have b5 : decide (i ≥ 0) = false := by simpa using c6
    clear hN hY
    go_enter Tryz.func181, Tryz.ntmps181
    go_wp2_with fail
    refine HR.out.mono ?_; rintro e1 w2 ⟨rfl, g2⟩; have HB2 := Lib.hid (HB.out.grow g2); have HG2 := Lib.hid (grown_trans HG.out g2); obtain ⟨k0, k1, k2, k3, k4, k5, k6, k7, k8, k9⟩ := HB2.out.at; clear g2
    go_wp2_with fail
    go_ret
    exact ⟨rfl, HG2.out⟩
  by_cases c7 : i ≤ 2
  case neg =>
    obtain rfl : d = false := hN fun h => by have := h.i1; simp only at this; omega
    have b0 : decide (s ≥ 0) = true := by simpa using c0
    have b1 : decide (s < e) = true := by simpa using c1
    have b2 : decide (e ≤ 67108864) = true := by simpa using c2
    have b3 : (n7 == 0) = true := by simp; exact h7.2 c4
    have b4 : (nm == 0) = true := by simp; exact hM.2 c5
    have b5 : decide (i ≥ 0) = true := by simpa using c6
    have b6 : decide (i ≤ 2) = false := by simpa using c7
    clear hN hY
    go_enter Tryz.func181, Tryz.ntmps181
    go_wp2_with fail
    refine HR.out.mono ?_; rintro e1 w2 ⟨rfl, g2⟩; have HB2 := Lib.hid (HB.out.grow g2); have HG2 := Lib.hid (grown_trans HG.out g2); obtain ⟨k0, k1, k2, k3, k4, k5, k6, k7, k8, k9⟩ := HB2.out.at; clear g2
    go_wp2_with fail
    go_ret
    exact ⟨rfl, HG2.out⟩
  by_cases c8 : a ≥ 0
  case neg =>
    obtain rfl : d = false := hN fun h => by have := h.a0; simp only at this; omega
    have b0 : decide (s ≥ 0) = true := by simpa using c0
    have b1 : decide (s < e) = true := by simpa using c1
    have b2 : decide (e ≤ 67108864) = true := by simpa using c2
    have b3 : (n7 == 0) = true := by simp; exact h7.2 c4
    have b4 : (nm == 0) = true := by simp; exact hM.2 c5
    have b5 : decide (i ≥ 0) = true := by simpa using c6
    have b6 : decide (i ≤ 2) = true := by simpa using c7
    have b7 : decide (a ≥ 0) = false := by simpa using c8
    clear hN hY
    go_enter Tryz.func181, Tryz.ntmps181
    go_wp2_with fail
    refine HR.out.mono ?_; rintro e1 w2 ⟨rfl, g2⟩; have HB2 := Lib.hid (HB.out.grow g2); have HG2 := Lib.hid (grown_trans HG.out g2); obtain ⟨k0, k1, k2, k3, k4, k5, k6, k7, k8, k9⟩ := HB2.out.at; clear g2
    go_wp2_with fail
    go_ret
    exact ⟨rfl, HG2.out⟩
  by_cases c9 : a ≤ 4
  case neg =>
    obtain rfl : d = false := hN fun h => by have := h.a1; simp only at this; omega
    have b0 : decide (s ≥ 0) = true := by simpa using c0
    have b1 : decide (s < e) = true := by simpa using c1
    have b2 : decide (e ≤ 67108864) = true := by simpa using c2
    have b3 : (n7 == 0) = true := by simp; exact h7.2 c4
    have b4 : (nm == 0) = true := by simp; exact hM.2 c5
    have b5 : decide (i ≥ 0) = true := by simpa using c6
    have b6 : decide (i ≤ 2) = true := by simpa using c7
    have b7 : decide (a ≥ 0) = true := by simpa using c8
    have b8 : decide (a ≤ 4) = false := by simpa using c9
    clear hN hY
    go_enter Tryz.func181, Tryz.ntmps181
    go_wp2_with fail
    refine HR.out.mono ?_; rintro e1 w2 ⟨rfl, g2⟩; have HB2 := Lib.hid (HB.out.grow g2); have HG2 := Lib.hid (grown_trans HG.out g2); obtain ⟨k0, k1, k2, k3, k4, k5, k6, k7, k8, k9⟩ := HB2.out.at; clear g2
    go_wp2_with fail
    go_ret
    exact ⟨rfl, HG2.out⟩
  obtain rfl : d = true := hY ⟨by simp only; omega, c1, c2, by unfold reachP at hre; simp only; omega, by unfold reachP at hre; simp only; omega, fits_iff.2 ⟨c5.1, c4, c5.2⟩, c6, c7, c8, c9, by unfold reachP at hre; simp only; omega, by unfold reachP at hre; simp only; omega⟩
  have b0 : decide (s ≥ 0) = true := by simpa using c0
  have b1 : decide (s < e) = true := by simpa using c1
  have b2 : decide (e ≤ 67108864) = true := by simpa using c2
  have b3 : (n7 == 0) = true := by simp; exact h7.2 c4
  have b4 : (nm == 0) = true := by simp; exact hM.2 c5
  have b5 : decide (i ≥ 0) = true := by simpa using c6
  have b6 : decide (i ≤ 2) = true := by simpa using c7
  have b7 : decide (a ≥ 0) = true := by simpa using c8
  have b8 : decide (a ≤ 4) = true := by simpa using c9
  clear hN hY
  go_enter Tryz.func181, Tryz.ntmps181
  go_wp2_with fail
  refine HR.out.mono ?_; rintro e1 w2 ⟨rfl, g2⟩; have HB2 := Lib.hid (HB.out.grow g2); have HG2 := Lib.hid (grown_trans HG.out g2); obtain ⟨k0, k1, k2, k3, k4, k5, k6, k7, k8, k9⟩ := HB2.out.at; clear g2
  go_wp2_with fail
  go_ret
  exact ⟨rfl, HG2.out⟩
end Go.Proofs.YtefiiooibbkffaaGreat
