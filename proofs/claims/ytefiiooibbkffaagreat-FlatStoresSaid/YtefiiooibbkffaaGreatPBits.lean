/- The parts of entries and addresses as plain arithmetic: bits of numbers of both signs; over no program. -/
import Derived.Laws.Bits64b
import Derived.Laws.BitsLemmas
import Derived.Lib.Hide
namespace Go.Proofs.YtefiiooibbkffaaGreat

/-- Whether a number has a bit, that of value k. -/
def bit (F k : Int) : Bool := decide (F / k % 2 = 1)
def one (b : Bool) (n : Int) : Int := if b then n else 0
def kindOf (F : Int) : Int := if bit F 1 = false ∨ (bit F 4 = true ∧ bit F 2 = false) then 0 else if bit F 2 = true ∨ bit F 8 = true then 2 else 1
def protOf (F : Int) : Int := if kindOf F = 2 then one (bit F 2) 1 + one (bit F 4) 2 + one (bit F 8) 4 else 0
def mayOf (F a : Int) (u : Bool) : Bool := decide (kindOf F = 2) && (bit F 16 == u) && ((decide (a = 1) && bit F 2) || (decide (a = 2) && bit F 4) || (decide (a = 4) && bit F 8))
def flagsOf (p : Int) (u : Bool) : Int := if p % 8 = 0 then 0 else 1 + one (bit p 1 || bit p 2) 2 + one (bit p 2) 4 + one (bit p 4) 8 + one u 16
def indexOf (v l : Int) : Int := if l = 0 then v % 512 else if l = 1 then v / 512 % 512 else if l = 2 then v / 262144 % 512 else 0
def joinOf (a b c : Int) : Int := a % 512 * 262144 + b % 512 * 512 + c % 512
def vpnOf (va : Int) : Int := va / 4096 % 134217728
def byteOf (va : Int) : Int := va % 4096
def canonOf (va : Int) : Bool := decide (va / 274877906944 = 0) || decide (va / 274877906944 = -1)
def encOf (F P : Int) : Int := P % 17592186044416 * 1024 + F % 256
def flagOf (v : Int) : Int := v % 256
def ppnOf (v : Int) : Int := v / 1024 % 17592186044416
/-- n bits of a number, from a on. -/
def cutOf (v : Int) (a n : Nat) : Int := v / 2 ^ a % 2 ^ n

/-- An int, an uint64. -/
def okI (x : Int) : Prop := -9223372036854775808 ≤ x ∧ x ≤ 9223372036854775807
def okU (x : Int) : Prop := 0 ≤ x ∧ x < 18446744073709551616

theorem toNat_ofInt64 (x : Int) : ((BitVec.ofInt 64 x).toNat : Int) = x % 18446744073709551616 := by
  rw [BitVec.toNat_ofInt]; omega

theorem nat_and_bit (n j : Nat) : n &&& 2 ^ j = if n.testBit j then 2 ^ j else 0 := by
  apply Nat.eq_of_testBit_eq
  intro i
  rw [Nat.testBit_and, Nat.testBit_two_pow]
  by_cases h : j = i
  · subst h; cases n.testBit j <;> simp
  · cases n.testBit j <;> simp [h]

theorem nat_bit (n j : Nat) : n.testBit j = decide (n / 2 ^ j % 2 = 1) := by
  rw [Nat.testBit_eq_decide_div_mod_eq]

/-- The values of the bits that flags and rights have. -/
def IsBit (k : Int) : Prop := k = 1 ∨ k = 2 ∨ k = 4 ∨ k = 8 ∨ k = 16

theorem and_bit_at (x : Int) (j : Nat) (hj : j < 63) (h : ∀ n : Nat, (n : Int) = x % 18446744073709551616 → decide (n / 2 ^ j % 2 = 1) = bit x ((2 ^ j : Nat) : Int)) : bits .and .i64 x ((2 ^ j : Nat) : Int) = one (bit x ((2 ^ j : Nat) : Int)) ((2 ^ j : Nat) : Int) := by
  have hp : 2 ^ j < 2 ^ 63 := Nat.pow_lt_pow_right (by decide) hj
  have hb : (BitVec.ofInt 64 ((2 ^ j : Nat) : Int)).toNat = 2 ^ j := by
    rw [BitVec.ofInt_natCast, BitVec.toNat_ofNat]; exact Nat.mod_eq_of_lt (by omega)
  have hx := toNat_ofInt64 x
  show IntKind.i64.wrap ((BitVec.ofInt 64 x &&& BitVec.ofInt 64 ((2 ^ j : Nat) : Int)).toNat : Nat) = _
  rw [BitVec.toNat_and, hb, nat_and_bit, nat_bit, h _ hx, IntKind.wrap_i64]
  generalize 2 ^ j = p at *
  cases bit x (p : Int)
  · simp [one]
  · simp [one]; omega

/-- One bit of an int, of whatever sign. -/
theorem and_bit (x k : Int) (hk : IsBit k) : bits .and .i64 x k = one (bit x k) k := by
  rcases hk with rfl | rfl | rfl | rfl | rfl
  · exact and_bit_at x 0 (by decide) fun n hn => by unfold bit; apply decide_eq_decide.2; simp; omega
  · exact and_bit_at x 1 (by decide) fun n hn => by unfold bit; apply decide_eq_decide.2; simp; omega
  · exact and_bit_at x 2 (by decide) fun n hn => by unfold bit; apply decide_eq_decide.2; simp; omega
  · exact and_bit_at x 3 (by decide) fun n hn => by unfold bit; apply decide_eq_decide.2; simp; omega
  · exact and_bit_at x 4 (by decide) fun n hn => by unfold bit; apply decide_eq_decide.2; simp; omega

/-- A mask of the lowest n bits. -/
theorem and_mask_u64 (x : Int) (n : Nat) (hx : okU x) (hn : n ≤ 63) : bits .and .u64 x (2 ^ n - 1) = x % 2 ^ n :=
  bits_mask .u64 64 (by decide) (fun m h0 h1 => by rw [IntKind.wrap_u64]; omega) n (by omega) x hx.1 (by have := hx.2; omega)

theorem pow_le_63 (n : Nat) (hn : n ≤ 63) : (2 : Int) ^ n ≤ 9223372036854775808 := by
  have : 2 ^ n ≤ 2 ^ 63 := Nat.pow_le_pow_right (by decide) hn
  have e : ((2 ^ n : Nat) : Int) = 2 ^ n := by simp
  omega
theorem pow_pos_int (n : Nat) : (1 : Int) ≤ 2 ^ n := by
  have : 0 < 2 ^ n := Nat.two_pow_pos n
  have e : ((2 ^ n : Nat) : Int) = 2 ^ n := by simp
  omega

theorem mask_word (n : Nat) (hn : n ≤ 63) : IntKind.u64.wrap (IntKind.u64.wrap (1 * 2 ^ n) - 1) = 2 ^ n - 1 := by
  have h1 := pow_le_63 n hn
  have h2 := pow_pos_int n
  rw [IntKind.wrap_u64, IntKind.wrap_u64]
  omega

theorem okU_div (x : Int) (a : Nat) (hx : okU x) : okU (x / 2 ^ a) := by
  have h2 := pow_pos_int a
  refine ⟨Int.ediv_nonneg hx.1 (by omega), Int.lt_of_le_of_lt (Int.ediv_le_self _ hx.1) hx.2⟩

theorem okU_cut (x : Int) (a n : Nat) (hn : n ≤ 63) : okU (cutOf x a n) := by
  have h1 := pow_le_63 n hn
  have h2 := pow_pos_int n
  unfold cutOf
  refine ⟨Int.emod_nonneg _ (by omega), ?_⟩
  have := Int.emod_lt_of_pos (x / 2 ^ a) (show (0 : Int) < 2 ^ n by omega)
  omega
end Go.Proofs.YtefiiooibbkffaaGreat
