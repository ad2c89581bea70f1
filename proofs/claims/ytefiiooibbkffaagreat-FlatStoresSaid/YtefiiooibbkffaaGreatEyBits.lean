/- Rights as bits: what is in 0 to 7, and what is within other rights, as the machine's 'and' and 'and not' tell it. No program. -/
import Derived.Test.YtefiiooibbkffaaGreatEyList
namespace Go.Proofs.YtefiiooibbkffaaGreat
set_option linter.unusedVariables false

theorem andNot_i64 (x k : Int) : bits .andNot .i64 x k = IntKind.i64.wrap ((BitVec.ofInt 64 x &&& ~~~ BitVec.ofInt 64 k).toNat : Nat) := rfl
theorem wrap_zero {n : Nat} (h : n < 18446744073709551616) : (IntKind.i64.wrap (n : Int) = 0) ↔ n = 0 := by
  rw [IntKind.wrap_i64]; omega
theorem andNot_zero (x k : Int) : bits .andNot .i64 x k = 0 ↔ BitVec.ofInt 64 x &&& ~~~ BitVec.ofInt 64 k = 0#64 := by
  rw [andNot_i64, wrap_zero (BitVec.isLt _)]
  constructor
  · intro h; exact BitVec.eq_of_toNat_eq (by rw [h]; rfl)
  · intro h; rw [h]; rfl
theorem small_of_bits {x : BitVec 64} (h : ∀ i, 3 ≤ i → x.toNat.testBit i = false) : x.toNat < 8 := Nat.lt_pow_two_of_testBit (n := 3) _ h
theorem bv_small {x m : BitVec 64} (hm : m.toNat < 8) (h : x &&& ~~~ m = 0#64) : x.toNat < 8 := by
  refine small_of_bits fun i hi => ?_
  rcases Nat.lt_or_ge i 64 with hl | hl
  · have h1 : (x &&& ~~~ m).getLsbD i = false := by rw [h]; simp
    have h2 : m.getLsbD i = false := by
      show m.toNat.testBit i = false
      refine Nat.testBit_lt_two_pow (Nat.lt_of_lt_of_le hm ?_)
      exact Nat.pow_le_pow_right (n := 2) (by decide) hi
    rw [BitVec.getLsbD_and, BitVec.getLsbD_not, h2] at h1
    simp [hl] at h1
    exact h1
  · exact Nat.testBit_lt_two_pow (Nat.lt_of_lt_of_le x.isLt (Nat.pow_le_pow_right (by decide) hl))
theorem ofInt_small {x : Int} (hx : okI x) : (BitVec.ofInt 64 x).toNat < 8 ↔ (0 ≤ x ∧ x ≤ 7) := by
  have h := toNat_ofInt64 x
  obtain ⟨h0, h1⟩ := hx
  omega
theorem ofInt_nat {x : Int} (h0 : 0 ≤ x) (h1 : x ≤ 7) : BitVec.ofInt 64 x = BitVec.ofNat 64 x.toNat := by
  refine BitVec.eq_of_toNat_eq ?_
  have h := toNat_ofInt64 x
  rw [BitVec.toNat_ofNat]
  omega
theorem small_cases : ∀ p m : Fin 8, (BitVec.ofNat 64 p.1 &&& ~~~ BitVec.ofNat 64 m.1 = 0#64) ↔ p.1 &&& m.1 = p.1 := by decide
theorem and_cases : ∀ p m : Fin 8, (BitVec.ofNat 64 p.1 &&& BitVec.ofNat 64 m.1).toNat = (p.1 &&& m.1) := by decide
theorem seven_cases : ∀ p : Fin 8, BitVec.ofNat 64 p.1 &&& ~~~ BitVec.ofNat 64 7 = 0#64 := by decide
/-- Within 0 to 7. -/
theorem not7 {m : Int} (hm : okI m) : bits .andNot .i64 m 7 = 0 ↔ (0 ≤ m ∧ m ≤ 7) := by
  rw [andNot_zero, ← ofInt_small hm]
  constructor
  · intro h; exact bv_small (by decide) h
  · intro h
    obtain ⟨h0, h1⟩ := (ofInt_small hm).1 h
    rw [ofInt_nat h0 h1]
    exact seven_cases ⟨m.toNat, by omega⟩
theorem notM {p m : Int} (hp : okI p) (h0 : 0 ≤ m) (h1 : m ≤ 7) : bits .andNot .i64 p m = 0 ↔ ((0 ≤ p ∧ p ≤ 7) ∧ p.toNat &&& m.toNat = p.toNat) := by
  have hm : okI m := ⟨by omega, by omega⟩
  rw [andNot_zero]
  constructor
  · intro h
    have hs := bv_small ((ofInt_small hm).2 ⟨h0, h1⟩) h
    obtain ⟨k0, k1⟩ := (ofInt_small hp).1 hs
    rw [ofInt_nat k0 k1, ofInt_nat h0 h1] at h
    exact ⟨⟨k0, k1⟩, (small_cases ⟨p.toNat, by omega⟩ ⟨m.toNat, by omega⟩).1 h⟩
  · rintro ⟨⟨k0, k1⟩, h⟩
    rw [ofInt_nat k0 k1, ofInt_nat h0 h1]
    exact (small_cases ⟨p.toNat, by omega⟩ ⟨m.toNat, by omega⟩).2 h
theorem and_nat {p m : Int} (k0 : 0 ≤ p) (k1 : p ≤ 7) (h0 : 0 ≤ m) (h1 : m ≤ 7) : bits .and .i64 p m = ((p.toNat &&& m.toNat : Nat) : Int) := by
  show IntKind.i64.wrap ((BitVec.ofInt 64 p &&& BitVec.ofInt 64 m).toNat : Nat) = _
  rw [ofInt_nat k0 k1, ofInt_nat h0 h1, and_cases ⟨p.toNat, by omega⟩ ⟨m.toNat, by omega⟩, IntKind.wrap_i64]
  have : p.toNat &&& m.toNat ≤ p.toNat := Nat.and_le_left
  show ((p.toNat &&& m.toNat : Nat) + _ : Int) % _ - _ = _
  omega
theorem fits_iff {p m : Int} : fitsB p m = true ↔ ((0 ≤ p ∧ p ≤ 7) ∧ (0 ≤ m ∧ m ≤ 7) ∧ p.toNat &&& m.toNat = p.toNat) := by
  unfold fitsB
  simp only [Bool.and_eq_true, decide_eq_true_eq]
  constructor
  · rintro ⟨⟨a, b, c, d⟩, e⟩; exact ⟨⟨a, b⟩, ⟨c, d⟩, e⟩
  · rintro ⟨⟨a, b⟩, ⟨c, d⟩, e⟩; exact ⟨⟨a, b, c, d⟩, e⟩
end Go.Proofs.YtefiiooibbkffaaGreat
