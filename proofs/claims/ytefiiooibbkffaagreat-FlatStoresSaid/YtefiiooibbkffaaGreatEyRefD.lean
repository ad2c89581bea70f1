/- Layer 15: does one entry go on where another one ends: the document's. -/
import Derived.Test.YtefiiooibbkffaaGreatEyDd
import Derived.BigRegion
namespace Go.Proofs.YtefiiooibbkffaaGreat
open Go.ChangeShapes Go.WideShapes Go.ChangeAt Go.RowKit Go.Deep
set_option linter.unusedVariables false

theorem joins_goes {x y : En} (hx : GoodE x) (hy : GoodE y) : goesB x y = (decide (x.e = y.s) && (decide (x = { y with s := x.s, e := x.e, o := x.o }) && (decide (x.f = 0) || decide (y.o = x.o + x.e - x.s)))) := by
  have h1 := hx.oz
  have h2 := hy.oz
  have h3 := hx.f0
  have key : goesB x y = true ↔ (x.e = y.s ∧ x = { y with s := x.s, e := x.e, o := x.o } ∧ (x.f = 0 ∨ y.o = x.o + x.e - x.s)) := by
    rw [goes_iff]
    obtain ⟨a1, a2, a3, a4, a5, a6, a7, a8, a9, a10⟩ := x
    obtain ⟨b1, b2, b3, b4, b5, b6, b7, b8, b9, b10⟩ := y
    simp only [En.mk.injEq, true_and] at *
    constructor
    · rintro ⟨e1, e2, e3, e4, e5, e6, e7, e8, e9⟩
      refine ⟨e1.symm, ⟨e2.symm, e4.symm, e5.symm, e6.symm, e7.symm, e8.symm, e9.symm⟩, ?_⟩
      by_cases hf : 0 < a3
      · rw [if_pos hf] at e3; right; omega
      · left; omega
    · rintro ⟨e1, ⟨e2, e4, e5, e6, e7, e8, e9⟩, e3⟩
      refine ⟨e1.symm, e2.symm, ?_, e4.symm, e5.symm, e6.symm, e7.symm, e8.symm, e9.symm⟩
      by_cases hf : 0 < a3
      · rw [if_pos hf]; omega
      · rw [if_neg hf]
        have := h1 (by omega)
        have := h2 (by omega)
        omega
  cases hg : goesB x y with
  | true =>
    obtain ⟨k1, k2, k3⟩ := key.1 hg
    rw [decide_eq_true k1, decide_eq_true k2]
    rcases k3 with k3 | k3
    · rw [decide_eq_true k3]; rfl
    · rw [decide_eq_true k3]; simp
  | false =>
    have hn : ¬ _ := fun h => by rw [key.2 h] at hg; cases hg
    by_cases k1 : x.e = y.s
    · by_cases k2 : x = { y with s := x.s, e := x.e, o := x.o }
      · have k3 : ¬ (x.f = 0 ∨ y.o = x.o + x.e - x.s) := fun h => hn ⟨k1, k2, h⟩
        have k4 : ¬ x.f = 0 := fun h => k3 (.inl h)
        have k5 : ¬ y.o = x.o + x.e - x.s := fun h => k3 (.inr h)
        rw [decide_eq_false k4, decide_eq_false k5]; simp
      · rw [decide_eq_false k2]; simp
    · rw [decide_eq_false k1]; simp
set_option maxHeartbeats 4000000 in
theorem joins_ok (x y : En) (hx : GoodE x) (hy : GoodE y) (w : World) : Calls Tryz.prog 167 #[.agg #[.int .i64 x.s, .int .i64 x.e, .int .i64 x.f, .int .i64 x.o, .bool x.sh, .int .i64 x.p, .int .i64 x.m, .int .i64 x.i, .int .i64 x.a, .bool x.wi], .agg #[.int .i64 y.s, .int .i64 y.e, .int .i64 y.f, .int .i64 y.o, .bool y.sh, .int .i64 y.p, .int .i64 y.m, .int .i64 y.i, .int .i64 y.a, .bool y.wi]] w fun e w' => e = .returned (.bool (goesB x y)) ∧ w.grownBy w' none := by
  rw [joins_goes hx hy]
  have q1 := hx.s0
  have q2 := hx.e1
  have q3 := hx.o0
  have q4 := hx.lt
  have q5 := hx.oe
  have q6 := hx.f0
  obtain ⟨z, hz⟩ : ∃ z : En, { y with s := x.s, e := x.e, o := x.o } = z := ⟨_, rfl⟩
  rw [hz]
  obtain ⟨d, hd⟩ : ∃ d, decide (x = z) = d := ⟨_, rfl⟩
  rw [hd]
  have hq : ∀ wx, _ := fun wx => eql_en wx x z d hd
  rw [← hz] at hq
  clear hd hz
  simp only at hq
  have hg0 : w.grownBy (((w.alloc (.cells #[.int .i64 x.s, .int .i64 x.e, .int .i64 x.f, .int .i64 x.o, .bool x.sh, .int .i64 x.p, .int .i64 x.m, .int .i64 x.i, .int .i64 x.a, .bool x.wi] 50)).alloc (.cells #[.int .i64 y.s, .int .i64 y.e, .int .i64 y.f, .int .i64 y.o, .bool y.sh, .int .i64 y.p, .int .i64 y.m, .int .i64 y.i, .int .i64 y.a, .bool y.wi] 50))) none := grown_trans (World.grownBy_alloc _ _ _) (World.grownBy_alloc _ _ _)
  have HG0 := Lib.hid hg0
  clear hg0
  obtain ⟨a0, ae, af, ao, ash, ap, am, ai, aa, aw⟩ := x
  obtain ⟨b0, be, bf, bo, bsh, bp, bm, bi, ba, bw⟩ := y
  simp only at *
  clear hx hy
  by_cases k1 : ae = b0
  · have b1 : (ae == b0) = true := by simp [k1]
    rw [decide_eq_true k1]
    clear k1
    cases d with
    | false =>
      go_enter Tryz.func167, Tryz.ntmps167
      go_wp2_with fail
      go_region
      go_wp2_with fail
      go_ret
      exact ⟨rfl, grown_trans HG0.out (grown_trans (World.grownBy_alloc _ _ _) (grown_drew1 _))⟩
    | true =>
      by_cases k3 : af = 0
      · have b3 : (af == 0) = true := by simp [k3]
        rw [decide_eq_true k3]
        clear k3
        go_enter Tryz.func167, Tryz.ntmps167
        go_wp2_with fail
        go_region
        go_wp2_with fail
        go_ret
        exact ⟨rfl, grown_trans HG0.out (grown_trans (World.grownBy_alloc _ _ _) (grown_drew1 _))⟩
      · have b3 : (af == 0) = false := by simp [k3]
        rw [decide_eq_false k3]
        have q7 : ao ≤ 4096 := by have := q5 (by omega); omega
        obtain ⟨r, hr⟩ : ∃ r, decide (bo = ao + ae - a0) = r := ⟨_, rfl⟩
        have b4 : (bo == ao + ae - a0) = r := by rw [← hr]; by_cases h : bo = ao + ae - a0 <;> simp [h]
        rw [hr]
        clear k3 hr q5
        go_enter Tryz.func167, Tryz.ntmps167
        go_wp2_with fail
        go_region
        go_wp2_with fail
        go_ret
        exact ⟨by simp, grown_trans HG0.out (grown_trans (World.grownBy_alloc _ _ _) (grown_drew1 _))⟩
  · have b1 : (ae == b0) = false := by simp [k1]
    rw [decide_eq_false k1]
    clear k1
    go_enter Tryz.func167, Tryz.ntmps167
    go_wp2_with fail
    go_region
    go_wp2_with fail
    go_ret
    exact ⟨rfl, grown_trans HG0.out (grown_trans (World.grownBy_alloc _ _ _) (grown_drew1 _))⟩
end Go.Proofs.YtefiiooibbkffaaGreat
