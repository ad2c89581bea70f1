/- Layer 15: whether an entry may be, the document's and the landed. Written by genygood.py. -/
import Derived.Test.YtefiiooibbkffaaGreatEyMem
import Derived.Test.YtefiiooibbkffaaGreatEyBits
namespace Go.Proofs.YtefiiooibbkffaaGreat
open Go.ChangeShapes Go.WideShapes Go.ChangeAt Go.RowKit Go.Deep
set_option linter.unusedVariables false
set_option linter.unusedSimpArgs false


set_option maxHeartbeats 4000000 in
theorem refGood_ok (x : En) (hx : OkE x) (w : World) : Calls Tryz.prog 136 #[.agg #[.int .i64 x.s, .int .i64 x.e, .int .i64 x.f, .int .i64 x.o, .bool x.sh, .int .i64 x.p, .int .i64 x.m, .int .i64 x.i, .int .i64 x.a, .bool x.wi]] w fun e w' => e = .returned (.bool (goodB x)) ∧ w.grownBy w' none := by
  obtain ⟨d, hd⟩ : ∃ d, goodB x = d := ⟨_, rfl⟩
  rw [hd]
  have hN : ¬ GoodE x → d = false := fun h => by rw [← hd]; exact goodB_no h
  have hY : GoodE x → d = true := fun h => by rw [← hd]; exact (goodB_iff x).2 h
  obtain ⟨s, e, f, o, sh, p, m, i, a, wi⟩ := x
  have hp := hx.p
  have hm := hx.m
  simp only at *
  clear hd hx

  by_cases c0 : s < 0
  · obtain rfl : d = false := hN fun h => by have := h.s0; simp only at this; omega
    have b0 : decide (s < 0) = true := by simpa using c0
    clear hN hY
    go_enter Tryz.func136, Tryz.ntmps136
    go_wp2_with fail
    go_ret
    exact ⟨rfl, World.grownBy_alloc _ _ _⟩
  by_cases c1 : e ≤ s
  · obtain rfl : d = false := hN fun h => by have := h.lt; simp only at this; omega
    have b0 : decide (s < 0) = false := by simpa using c0
    have b1 : decide (e ≤ s) = true := by simpa using c1
    clear hN hY
    go_enter Tryz.func136, Tryz.ntmps136
    go_wp2_with fail
    go_ret
    exact ⟨rfl, World.grownBy_alloc _ _ _⟩
  by_cases c2 : e > 67108864
  · obtain rfl : d = false := hN fun h => by have := h.e1; simp only at this; omega
    have b0 : decide (s < 0) = false := by simpa using c0
    have b1 : decide (e ≤ s) = false := by simpa using c1
    have b2 : decide (e > 67108864) = true := by simpa using c2
    clear hN hY
    go_enter Tryz.func136, Tryz.ntmps136
    go_wp2_with fail
    go_ret
    exact ⟨rfl, World.grownBy_alloc _ _ _⟩
  by_cases c3 : f < 0
  · obtain rfl : d = false := hN fun h => by have := h.f0; simp only at this; omega
    have b0 : decide (s < 0) = false := by simpa using c0
    have b1 : decide (e ≤ s) = false := by simpa using c1
    have b2 : decide (e > 67108864) = false := by simpa using c2
    have b3 : decide (f < 0) = true := by simpa using c3
    clear hN hY
    go_enter Tryz.func136, Tryz.ntmps136
    go_wp2_with fail
    go_ret
    exact ⟨rfl, World.grownBy_alloc _ _ _⟩
  by_cases c4 : o < 0
  · obtain rfl : d = false := hN fun h => by have := h.o0; simp only at this; omega
    have b0 : decide (s < 0) = false := by simpa using c0
    have b1 : decide (e ≤ s) = false := by simpa using c1
    have b2 : decide (e > 67108864) = false := by simpa using c2
    have b3 : decide (f < 0) = false := by simpa using c3
    have b4 : decide (o < 0) = true := by simpa using c4
    clear hN hY
    go_enter Tryz.func136, Tryz.ntmps136
    go_wp2_with fail
    go_ret
    exact ⟨rfl, World.grownBy_alloc _ _ _⟩
  by_cases c5 : p < 0
  · obtain rfl : d = false := hN fun h => by have := (fits_iff.1 h.pm).1.1; simp only at this; omega
    have b0 : decide (s < 0) = false := by simpa using c0
    have b1 : decide (e ≤ s) = false := by simpa using c1
    have b2 : decide (e > 67108864) = false := by simpa using c2
    have b3 : decide (f < 0) = false := by simpa using c3
    have b4 : decide (o < 0) = false := by simpa using c4
    have b5 : decide (p < 0) = true := by simpa using c5
    clear hN hY
    go_enter Tryz.func136, Tryz.ntmps136
    go_wp2_with fail
    go_ret
    exact ⟨rfl, World.grownBy_alloc _ _ _⟩
  by_cases c6 : p > 7
  · obtain rfl : d = false := hN fun h => by have := (fits_iff.1 h.pm).1.2; simp only at this; omega
    have b0 : decide (s < 0) = false := by simpa using c0
    have b1 : decide (e ≤ s) = false := by simpa using c1
    have b2 : decide (e > 67108864) = false := by simpa using c2
    have b3 : decide (f < 0) = false := by simpa using c3
    have b4 : decide (o < 0) = false := by simpa using c4
    have b5 : decide (p < 0) = false := by simpa using c5
    have b6 : decide (p > 7) = true := by simpa using c6
    clear hN hY
    go_enter Tryz.func136, Tryz.ntmps136
    go_wp2_with fail
    go_ret
    exact ⟨rfl, World.grownBy_alloc _ _ _⟩
  by_cases c7 : m < 0
  · obtain rfl : d = false := hN fun h => by have := (fits_iff.1 h.pm).2.1.1; simp only at this; omega
    have b0 : decide (s < 0) = false := by simpa using c0
    have b1 : decide (e ≤ s) = false := by simpa using c1
    have b2 : decide (e > 67108864) = false := by simpa using c2
    have b3 : decide (f < 0) = false := by simpa using c3
    have b4 : decide (o < 0) = false := by simpa using c4
    have b5 : decide (p < 0) = false := by simpa using c5
    have b6 : decide (p > 7) = false := by simpa using c6
    have b7 : decide (m < 0) = true := by simpa using c7
    clear hN hY
    go_enter Tryz.func136, Tryz.ntmps136
    go_wp2_with fail
    go_ret
    exact ⟨rfl, World.grownBy_alloc _ _ _⟩
  by_cases c8 : m > 7
  · obtain rfl : d = false := hN fun h => by have := (fits_iff.1 h.pm).2.1.2; simp only at this; omega
    have b0 : decide (s < 0) = false := by simpa using c0
    have b1 : decide (e ≤ s) = false := by simpa using c1
    have b2 : decide (e > 67108864) = false := by simpa using c2
    have b3 : decide (f < 0) = false := by simpa using c3
    have b4 : decide (o < 0) = false := by simpa using c4
    have b5 : decide (p < 0) = false := by simpa using c5
    have b6 : decide (p > 7) = false := by simpa using c6
    have b7 : decide (m < 0) = false := by simpa using c7
    have b8 : decide (m > 7) = true := by simpa using c8
    clear hN hY
    go_enter Tryz.func136, Tryz.ntmps136
    go_wp2_with fail
    go_ret
    exact ⟨rfl, World.grownBy_alloc _ _ _⟩
  have hbit := and_nat (p := p) (m := m) (by omega) (by omega) (by omega) (by omega)
  obtain ⟨n, hn⟩ : ∃ n : Nat, p.toNat &&& m.toNat = n := ⟨_, rfl⟩
  rw [hn] at hbit
  by_cases hand : p.toNat &&& m.toNat = p.toNat
  · have c9 : True := trivial
    rw [hn] at hand
    by_cases c10 : i < 0
    · obtain rfl : d = false := hN fun h => by have := h.i0; simp only at this; omega
      have b0 : decide (s < 0) = false := by simpa using c0
      have b1 : decide (e ≤ s) = false := by simpa using c1
      have b2 : decide (e > 67108864) = false := by simpa using c2
      have b3 : decide (f < 0) = false := by simpa using c3
      have b4 : decide (o < 0) = false := by simpa using c4
      have b5 : decide (p < 0) = false := by simpa using c5
      have b6 : decide (p > 7) = false := by simpa using c6
      have b7 : decide (m < 0) = false := by simpa using c7
      have b8 : decide (m > 7) = false := by simpa using c8
      have b9 : ((n : Int) != p) = false := by simp; omega
      have b10 : decide (i < 0) = true := by simpa using c10
      clear hN hY
      go_enter Tryz.func136, Tryz.ntmps136
      go_wp2_with fail
      go_ret
      exact ⟨rfl, World.grownBy_alloc _ _ _⟩
    by_cases c11 : i > 2
    · obtain rfl : d = false := hN fun h => by have := h.i1; simp only at this; omega
      have b0 : decide (s < 0) = false := by simpa using c0
      have b1 : decide (e ≤ s) = false := by simpa using c1
      have b2 : decide (e > 67108864) = false := by simpa using c2
      have b3 : decide (f < 0) = false := by simpa using c3
      have b4 : decide (o < 0) = false := by simpa using c4
      have b5 : decide (p < 0) = false := by simpa using c5
      have b6 : decide (p > 7) = false := by simpa using c6
      have b7 : decide (m < 0) = false := by simpa using c7
      have b8 : decide (m > 7) = false := by simpa using c8
      have b9 : ((n : Int) != p) = false := by simp; omega
      have b10 : decide (i < 0) = false := by simpa using c10
      have b11 : decide (i > 2) = true := by simpa using c11
      clear hN hY
      go_enter Tryz.func136, Tryz.ntmps136
      go_wp2_with fail
      go_ret
      exact ⟨rfl, World.grownBy_alloc _ _ _⟩
    by_cases c12 : a < 0
    · obtain rfl : d = false := hN fun h => by have := h.a0; simp only at this; omega
      have b0 : decide (s < 0) = false := by simpa using c0
      have b1 : decide (e ≤ s) = false := by simpa using c1
      have b2 : decide (e > 67108864) = false := by simpa using c2
      have b3 : decide (f < 0) = false := by simpa using c3
      have b4 : decide (o < 0) = false := by simpa using c4
      have b5 : decide (p < 0) = false := by simpa using c5
      have b6 : decide (p > 7) = false := by simpa using c6
      have b7 : decide (m < 0) = false := by simpa using c7
      have b8 : decide (m > 7) = false := by simpa using c8
      have b9 : ((n : Int) != p) = false := by simp; omega
      have b10 : decide (i < 0) = false := by simpa using c10
      have b11 : decide (i > 2) = false := by simpa using c11
      have b12 : decide (a < 0) = true := by simpa using c12
      clear hN hY
      go_enter Tryz.func136, Tryz.ntmps136
      go_wp2_with fail
      go_ret
      exact ⟨rfl, World.grownBy_alloc _ _ _⟩
    by_cases c13 : a > 4
    · obtain rfl : d = false := hN fun h => by have := h.a1; simp only at this; omega
      have b0 : decide (s < 0) = false := by simpa using c0
      have b1 : decide (e ≤ s) = false := by simpa using c1
      have b2 : decide (e > 67108864) = false := by simpa using c2
      have b3 : decide (f < 0) = false := by simpa using c3
      have b4 : decide (o < 0) = false := by simpa using c4
      have b5 : decide (p < 0) = false := by simpa using c5
      have b6 : decide (p > 7) = false := by simpa using c6
      have b7 : decide (m < 0) = false := by simpa using c7
      have b8 : decide (m > 7) = false := by simpa using c8
      have b9 : ((n : Int) != p) = false := by simp; omega
      have b10 : decide (i < 0) = false := by simpa using c10
      have b11 : decide (i > 2) = false := by simpa using c11
      have b12 : decide (a < 0) = false := by simpa using c12
      have b13 : decide (a > 4) = true := by simpa using c13
      clear hN hY
      go_enter Tryz.func136, Tryz.ntmps136
      go_wp2_with fail
      go_ret
      exact ⟨rfl, World.grownBy_alloc _ _ _⟩
    by_cases c20 : f = 0
    · obtain ⟨r, hr⟩ : ∃ r, decide (o = 0) = r := ⟨_, rfl⟩
      obtain rfl : d = r := by
        rw [← hr]
        by_cases h0 : o = 0
        · rw [decide_eq_true h0]; exact hY ⟨by simp only; omega, by simp only; omega, by simp only; omega, by simp only; omega, by simp only; omega, fits_iff.2 ⟨⟨by simp only; omega, by simp only; omega⟩, ⟨by simp only; omega, by simp only; omega⟩, hn.trans hand⟩, by simp only; omega, by simp only; omega, by simp only; omega, by simp only; omega, fun _ => h0, fun h => by simp only at h; omega⟩
        · rw [decide_eq_false h0]; exact hN fun h => h0 (h.oz c20)
      have b0 : decide (s < 0) = false := by simpa using c0
      have b1 : decide (e ≤ s) = false := by simpa using c1
      have b2 : decide (e > 67108864) = false := by simpa using c2
      have b3 : decide (f < 0) = false := by simpa using c3
      have b4 : decide (o < 0) = false := by simpa using c4
      have b5 : decide (p < 0) = false := by simpa using c5
      have b6 : decide (p > 7) = false := by simpa using c6
      have b7 : decide (m < 0) = false := by simpa using c7
      have b8 : decide (m > 7) = false := by simpa using c8
      have b9 : ((n : Int) != p) = false := by simp; omega
      have b10 : decide (i < 0) = false := by simpa using c10
      have b11 : decide (i > 2) = false := by simpa using c11
      have b12 : decide (a < 0) = false := by simpa using c12
      have b13 : decide (a > 4) = false := by simpa using c13
      have b20 : (f == 0) = true := by simp [c20]
      have b21 : (o == 0) = d := by rw [← hr]; by_cases h0 : o = 0 <;> simp [h0]
      clear hN hY hr
      go_enter Tryz.func136, Tryz.ntmps136
      go_wp2_with fail
      go_ret
      exact ⟨rfl, World.grownBy_alloc _ _ _⟩
    · obtain ⟨r, hr⟩ : ∃ r, decide (o ≤ 4096 - (e - s)) = r := ⟨_, rfl⟩
      obtain rfl : d = r := by
        rw [← hr]
        by_cases h0 : o ≤ 4096 - (e - s)
        · rw [decide_eq_true h0]; exact hY ⟨by simp only; omega, by simp only; omega, by simp only; omega, by simp only; omega, by simp only; omega, fits_iff.2 ⟨⟨by simp only; omega, by simp only; omega⟩, ⟨by simp only; omega, by simp only; omega⟩, hn.trans hand⟩, by simp only; omega, by simp only; omega, by simp only; omega, by simp only; omega, fun h => absurd h c20, fun h => h0⟩
        · rw [decide_eq_false h0]; exact hN fun h => h0 (h.oe (by simp only; omega))
      have b0 : decide (s < 0) = false := by simpa using c0
      have b1 : decide (e ≤ s) = false := by simpa using c1
      have b2 : decide (e > 67108864) = false := by simpa using c2
      have b3 : decide (f < 0) = false := by simpa using c3
      have b4 : decide (o < 0) = false := by simpa using c4
      have b5 : decide (p < 0) = false := by simpa using c5
      have b6 : decide (p > 7) = false := by simpa using c6
      have b7 : decide (m < 0) = false := by simpa using c7
      have b8 : decide (m > 7) = false := by simpa using c8
      have b9 : ((n : Int) != p) = false := by simp; omega
      have b10 : decide (i < 0) = false := by simpa using c10
      have b11 : decide (i > 2) = false := by simpa using c11
      have b12 : decide (a < 0) = false := by simpa using c12
      have b13 : decide (a > 4) = false := by simpa using c13
      have b20 : (f == 0) = false := by simp [c20]
      clear hN hY
      go_enter Tryz.func136, Tryz.ntmps136
      go_wp2_with fail
      go_ret
      exact ⟨rfl, World.grownBy_alloc _ _ _⟩
  · rw [hn] at hand
    obtain rfl : d = false := hN fun h => by have h2 := (fits_iff.1 h.pm).2.2; simp only at h2; exact hand (hn.symm.trans h2)
    have b0 : decide (s < 0) = false := by simpa using c0
    have b1 : decide (e ≤ s) = false := by simpa using c1
    have b2 : decide (e > 67108864) = false := by simpa using c2
    have b3 : decide (f < 0) = false := by simpa using c3
    have b4 : decide (o < 0) = false := by simpa using c4
    have b5 : decide (p < 0) = false := by simpa using c5
    have b6 : decide (p > 7) = false := by simpa using c6
    have b7 : decide (m < 0) = false := by simpa using c7
    have b8 : decide (m > 7) = false := by simpa using c8
    have b9 : ((n : Int) != p) = true := by simp; omega
    clear hN hY
    go_enter Tryz.func136, Tryz.ntmps136
    go_wp2_with fail
    go_ret
    exact ⟨rfl, World.grownBy_alloc _ _ _⟩
end Go.Proofs.YtefiiooibbkffaaGreat
