/- Places as bits of words: rows of words that say something of each place. Over no program. -/
import Derived.Test.YthpjggghdaelbaaPBits
import Derived.Laws.BitsAllLaws
namespace Go.Proofs.Ythpjggghdaelbaa
set_option linter.unusedVariables false

/-- m words of 64 bits, that bit i of which says p i. -/
structure WordsAre (p : Nat → Bool) (m : Nat) (us : List Nat) : Prop where
  len : us.length = m
  lt : ∀ u, u ∈ us → u < 18446744073709551616
  bit : ∀ (q b : Nat) u, us[q]? = some u → b < 64 → u.testBit b = p (64 * q + b)

section
variable {p p' : Nat → Bool} {m : Nat} {us us' : List Nat}
theorem WordsAre.zero (m : Nat) : WordsAre (fun _ => false) m (List.replicate m 0) :=
  ⟨List.length_replicate, fun u hu => by rw [(List.mem_replicate.1 hu).2]; decide, fun q b u hu hb => by
    rw [List.getElem?_replicate] at hu
    split at hu
    · cases hu; exact Nat.zero_testBit b
    · cases hu⟩
theorem word_ext {u v : Nat} (hu : u < 18446744073709551616) (hv : v < 18446744073709551616) (h : ∀ b, b < 64 → u.testBit b = v.testBit b) : u = v := by
  apply Nat.eq_of_testBit_eq
  intro b
  by_cases hb : b < 64
  · exact h b hb
  · have hp : 2 ^ 64 ≤ 2 ^ b := Nat.pow_le_pow_right (by decide) (by omega)
    rw [Nat.testBit_lt_two_pow (Nat.lt_of_lt_of_le hu hp), Nat.testBit_lt_two_pow (Nat.lt_of_lt_of_le hv hp)]
theorem WordsAre.uniq (h : WordsAre p m us) (k : WordsAre p' m us') (hp : ∀ i, i < 64 * m → p i = p' i) : us = us' := by
  apply List.ext_getElem?
  intro q
  by_cases hq : q < m
  · have h1 : us[q]? = some (us[q]'(by rw [h.len]; exact hq)) := List.getElem?_eq_getElem (by rw [h.len]; exact hq)
    have h2 : us'[q]? = some (us'[q]'(by rw [k.len]; exact hq)) := List.getElem?_eq_getElem (by rw [k.len]; exact hq)
    rw [h1, h2]
    congr 1
    refine word_ext (h.lt _ (List.mem_of_getElem? h1)) (k.lt _ (List.mem_of_getElem? h2)) fun b hb => ?_
    rw [h.bit q b _ h1 hb, k.bit q b _ h2 hb]
    exact hp _ (by omega)
  · rw [List.getElem?_eq_none (by rw [h.len]; omega), List.getElem?_eq_none (by rw [k.len]; omega)]
theorem WordsAre.congr (h : WordsAre p m us) (hp : ∀ i, i < 64 * m → p i = p' i) : WordsAre p' m us :=
  ⟨h.len, h.lt, fun q b u hu hb => (h.bit q b u hu hb).trans (hp _ (by have := (List.getElem?_eq_some_iff.1 hu).1; rw [h.len] at this; omega))⟩
theorem WordsAre.get (h : WordsAre p m us) {i : Nat} (hi : i < 64 * m) : ∃ u, us[i / 64]? = some u ∧ u < 18446744073709551616 ∧ u.testBit (i % 64) = p i := by
  have h1 : us[i / 64]? = some (us[i / 64]'(by rw [h.len]; omega)) := List.getElem?_eq_getElem (by rw [h.len]; omega)
  exact ⟨_, h1, h.lt _ (List.mem_of_getElem? h1), by rw [h.bit _ _ _ h1 (by omega), show 64 * (i / 64) + i % 64 = i by omega]⟩
theorem pow_lt_64 {k : Nat} (hk : k < 64) : 2 ^ k < 18446744073709551616 := by
  have : 2 ^ k < 2 ^ 64 := Nat.pow_lt_pow_right (by decide) hk
  omega
theorem or_lt {u k : Nat} (hu : u < 18446744073709551616) (hk : k < 64) : u ||| 2 ^ k < 18446744073709551616 := by
  have h : u ||| 2 ^ k < 2 ^ 64 := Nat.or_lt_two_pow (by omega) (by have := pow_lt_64 hk; omega)
  omega
theorem or_bit (u k b : Nat) : (u ||| 2 ^ k).testBit b = (decide (b = k) || u.testBit b) := by
  rw [Nat.testBit_or, Nat.testBit_two_pow]
  by_cases h : b = k
  · subst h; simp
  · have : ¬ k = b := fun e => h e.symm
    simp [h, this]
theorem not_lt {u k : Nat} (hu : u < 18446744073709551616) : u &&& (18446744073709551615 - 2 ^ k) < 18446744073709551616 := by
  have h : u &&& (18446744073709551615 - 2 ^ k) ≤ u := Nat.and_le_left
  omega
theorem not_bit {u k b : Nat} (hk : k < 64) (hb : b < 64) : (u &&& (18446744073709551615 - 2 ^ k)).testBit b = (!decide (b = k) && u.testBit b) := by
  have h1 : 18446744073709551615 - 2 ^ k = 2 ^ 64 - (2 ^ k + 1) := by have := pow_lt_64 hk; omega
  have h2 : 2 ^ k < 2 ^ 64 := by have := pow_lt_64 hk; omega
  rw [Nat.testBit_and, h1, Nat.testBit_two_pow_sub_succ h2, Nat.testBit_two_pow]
  by_cases h : b = k
  · subst h; simp
  · have : ¬ k = b := fun e => h e.symm
    simp [h, this, hb]
theorem WordsAre.put (h : WordsAre p m us) {i u v : Nat} (hi : i < 64 * m) (hv : v < 18446744073709551616) (hb : ∀ b, b < 64 → v.testBit b = p' (64 * (i / 64) + b)) (hp : ∀ j, j / 64 ≠ i / 64 → p' j = p j) : WordsAre p' m (us.set (i / 64) v) := by
  refine ⟨by rw [List.length_set]; exact h.len, fun x hx => ?_, fun q b x hx hbb => ?_⟩
  · rcases List.mem_or_eq_of_mem_set hx with hx | rfl
    · exact h.lt x hx
    · exact hv
  · by_cases hq : q = i / 64
    · subst hq
      rw [List.getElem?_set_self (by rw [h.len]; omega)] at hx
      cases hx
      exact hb b hbb
    · rw [List.getElem?_set_ne (fun e => hq e.symm)] at hx
      rw [h.bit q b x hx hbb, hp _ (by omega)]
theorem WordsAre.set (h : WordsAre p m us) {i u : Nat} (hi : i < 64 * m) (hu : us[i / 64]? = some u) : WordsAre (fun j => decide (j = i) || p j) m (us.set (i / 64) (u ||| 2 ^ (i % 64))) := by
  refine h.put (u := u) hi (or_lt (h.lt _ (List.mem_of_getElem? hu)) (by omega)) (fun b hb => ?_) fun j hj => ?_
  · rw [or_bit, h.bit _ _ _ hu hb]
    congr 1
    apply decide_eq_decide.2
    omega
  · have : j ≠ i := fun e => hj (by rw [e])
    simp [this]
theorem WordsAre.clr (h : WordsAre p m us) {i u : Nat} (hi : i < 64 * m) (hu : us[i / 64]? = some u) : WordsAre (fun j => !decide (j = i) && p j) m (us.set (i / 64) (u &&& (18446744073709551615 - 2 ^ (i % 64)))) := by
  refine h.put (u := u) hi (not_lt (h.lt _ (List.mem_of_getElem? hu))) (fun b hb => ?_) fun j hj => ?_
  · rw [not_bit (by omega) hb, h.bit _ _ _ hu hb]
    congr 2
    apply decide_eq_decide.2
    omega
  · have : j ≠ i := fun e => hj (by rw [e])
    simp [this]
end

/-- The bits of a place's number, as the code cuts it. -/
theorem and63 (i : Nat) (hi : i < 9223372036854775808) : bits .and .i64 (i : Int) 63 = ((i % 64 : Nat) : Int) := by
  show IntKind.i64.wrap ((BitVec.ofInt 64 (i : Int) &&& BitVec.ofInt 64 ((63 : Nat) : Int)).toNat : Int) = _
  rw [BitVec.toNat_and, ofInt_u64 i (by omega), ofInt_u64 63 (by decide), show (63 : Nat) = 2 ^ 6 - 1 from rfl, Nat.and_two_pow_sub_one_eq_mod, IntKind.wrap_i64]
  omega
theorem wrap_pow (k : Nat) (hk : k < 64) : IntKind.u64.wrap (2 ^ k) = ((2 ^ k : Nat) : Int) := by
  have h1 := pow_lt_64 hk
  have e : (2 : Int) ^ k = ((2 ^ k : Nat) : Int) := by simp
  rw [e]
  generalize 2 ^ k = n at *
  rw [IntKind.wrap_u64]
  omega
theorem or_word (u k : Nat) (hu : u < 18446744073709551616) (hk : k < 64) : bits .or .u64 (u : Int) (IntKind.u64.wrap (2 ^ k)) = ((u ||| 2 ^ k : Nat) : Int) := by
  rw [wrap_pow k hk]
  exact u64_or_nat u (2 ^ k) hu (pow_lt_64 hk)
theorem not_word (u k : Nat) (hu : u < 18446744073709551616) (hk : k < 64) : bits .andNot .u64 (u : Int) (IntKind.u64.wrap (2 ^ k)) = ((u &&& (18446744073709551615 - 2 ^ k) : Nat) : Int) := by
  rw [wrap_pow k hk]
  exact u64_andNot_nat u (2 ^ k) hu (pow_lt_64 hk)
theorem test_word (u k : Nat) (hu : u < 18446744073709551616) : (bits .and .u64 ((u : Int) / 2 ^ k) 1 == 1) = u.testBit k := by
  have e : (u : Int) / 2 ^ k = ((u / 2 ^ k : Nat) : Int) := by simp
  have hl : u / 2 ^ k < 18446744073709551616 := Nat.lt_of_le_of_lt (Nat.div_le_self _ _) hu
  rw [e, show (1 : Int) = ((1 : Nat) : Int) from rfl, u64_and_nat _ 1 hl (by decide), nat_bit, Nat.and_one_is_mod]
  by_cases h : u / 2 ^ k % 2 = 1
  · rw [h]; simp
  · have h0 : u / 2 ^ k % 2 = 0 := by omega
    rw [h0]; simp
end Go.Proofs.Ythpjggghdaelbaa
