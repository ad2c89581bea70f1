/- The parts of entries and addresses as plain arithmetic: bits of numbers of both signs; over no program. Calls of package pte's small functions, and of the document's: bits cut, asked, gathered. Calls of package pte at an entry, and of the document's: what an entry is, and what it allows. Calls of package pte, and of the document's, that make an entry a number and back. Calls of package pte, and of the document's, on the parts of addresses. Calls of package pte, and of the document's: parts joined; whether all high bits are alike. -/
import Derived.Laws.Bits64b
import Derived.Laws.BitsLemmas
import Derived.Lib.Hide
import Derived.Test.YtlieommbomjdaaaRows
import Derived.Test.YtlieommbomjdaaaGen
import Derived.WalkKit
import Derived.ProofKit
import Derived.OpenShut
import Derived.WalkLawsBesides
import Derived.WalkSpells
import Derived.BigQuiet
import Derived.WalkArith
import Derived.Laws.Unary
import Derived.Deep.QuietTactic
import Derived.Deep.DeepMust
import Derived.Outline
import Derived.Below
import Derived.Deep.RegionHeld3
namespace Go.Proofs.Ytlieommbomjdaaa

/-- Whether a number has a bit, that of value k. -/
def bit (F k : Int) : Bool := decide (F / k % 2 = 1)
def one (b : Bool) (n : Int) : Int := if b then n else 0
def kindOf (F : Int) : Int := if bit F 1 = false ∨ (bit F 4 = true ∧ bit F 2 = false) then 0 else if bit F 2 = true ∨ bit F 8 = true then 2 else 1
def protOf (F : Int) : Int := if kindOf F = 2 then one (bit F 2) 1 + one (bit F 4) 2 + one (bit F 8) 4 else 0
def mayOf (F a : Int) (u : Bool) : Bool := decide (kindOf F = 2) && (bit F 16 == u) && ((decide (a = 1) && bit F 2) || (decide (a = 2) && bit F 4) || (decide (a = 4) && bit F 8))
def flagsOf (p : Int) (u : Bool) : Int := if p % 8 = 0 then 0 else 1 + one (bit p 1 || bit p 2) 2 + one (bit p 2) 4 + one (bit p 4) 8 + one u 16
def indexOf (v l : Int) : Int := if l = 0 then v % 512 else if l = 1 then v / 512 % 512 else if l = 2 then v / 262144 % 512 else 0
def joinOf (a b c : Int) : Int := a % 512 * 262144 + b % 512 * 512 + c % 512
def vpnOf (va : Int) : Int := va / 4096 % 134217728
def byteOf (va : Int) : Int := va % 4096
def canonOf (va : Int) : Bool := decide (va / 274877906944 = 0) || decide (va / 274877906944 = -1)
def encOf (F P : Int) : Int := P % 17592186044416 * 1024 + F % 256
def flagOf (v : Int) : Int := v % 256
def ppnOf (v : Int) : Int := v / 1024 % 17592186044416
/-- n bits of a number, from a on. -/
def cutOf (v : Int) (a n : Nat) : Int := v / 2 ^ a % 2 ^ n

/-- An int, an uint64. -/
def okI (x : Int) : Prop := -9223372036854775808 ≤ x ∧ x ≤ 9223372036854775807
def okU (x : Int) : Prop := 0 ≤ x ∧ x < 18446744073709551616

theorem toNat_ofInt64 (x : Int) : ((BitVec.ofInt 64 x).toNat : Int) = x % 18446744073709551616 := by
  rw [BitVec.toNat_ofInt]; omega

theorem nat_and_bit (n j : Nat) : n &&& 2 ^ j = if n.testBit j then 2 ^ j else 0 := by
  apply Nat.eq_of_testBit_eq
  intro i
  rw [Nat.testBit_and, Nat.testBit_two_pow]
  by_cases h : j = i
  · subst h; cases n.testBit j <;> simp
  · cases n.testBit j <;> simp [h]

theorem nat_bit (n j : Nat) : n.testBit j = decide (n / 2 ^ j % 2 = 1) := by
  rw [Nat.testBit_eq_decide_div_mod_eq]

/-- The values of the bits that flags and rights have. -/
def IsBit (k : Int) : Prop := k = 1 ∨ k = 2 ∨ k = 4 ∨ k = 8 ∨ k = 16

theorem and_bit_at (x : Int) (j : Nat) (hj : j < 63) (h : ∀ n : Nat, (n : Int) = x % 18446744073709551616 → decide (n / 2 ^ j % 2 = 1) = bit x ((2 ^ j : Nat) : Int)) : bits .and .i64 x ((2 ^ j : Nat) : Int) = one (bit x ((2 ^ j : Nat) : Int)) ((2 ^ j : Nat) : Int) := by
  have hp : 2 ^ j < 2 ^ 63 := Nat.pow_lt_pow_right (by decide) hj
  have hb : (BitVec.ofInt 64 ((2 ^ j : Nat) : Int)).toNat = 2 ^ j := by
    rw [BitVec.ofInt_natCast, BitVec.toNat_ofNat]; exact Nat.mod_eq_of_lt (by omega)
  have hx := toNat_ofInt64 x
  show IntKind.i64.wrap ((BitVec.ofInt 64 x &&& BitVec.ofInt 64 ((2 ^ j : Nat) : Int)).toNat : Nat) = _
  rw [BitVec.toNat_and, hb, nat_and_bit, nat_bit, h _ hx, IntKind.wrap_i64]
  generalize 2 ^ j = p at *
  cases bit x (p : Int)
  · simp [one]
  · simp [one]; omega

/-- One bit of an int, of whatever sign. -/
theorem and_bit (x k : Int) (hk : IsBit k) : bits .and .i64 x k = one (bit x k) k := by
  rcases hk with rfl | rfl | rfl | rfl | rfl
  · exact and_bit_at x 0 (by decide) fun n hn => by unfold bit; apply decide_eq_decide.2; simp; omega
  · exact and_bit_at x 1 (by decide) fun n hn => by unfold bit; apply decide_eq_decide.2; simp; omega
  · exact and_bit_at x 2 (by decide) fun n hn => by unfold bit; apply decide_eq_decide.2; simp; omega
  · exact and_bit_at x 3 (by decide) fun n hn => by unfold bit; apply decide_eq_decide.2; simp; omega
  · exact and_bit_at x 4 (by decide) fun n hn => by unfold bit; apply decide_eq_decide.2; simp; omega

/-- A mask of the lowest n bits. -/
theorem and_mask_u64 (x : Int) (n : Nat) (hx : okU x) (hn : n ≤ 63) : bits .and .u64 x (2 ^ n - 1) = x % 2 ^ n :=
  bits_mask .u64 64 (by decide) (fun m h0 h1 => by rw [IntKind.wrap_u64]; omega) n (by omega) x hx.1 (by have := hx.2; omega)

theorem pow_le_63 (n : Nat) (hn : n ≤ 63) : (2 : Int) ^ n ≤ 9223372036854775808 := by
  have : 2 ^ n ≤ 2 ^ 63 := Nat.pow_le_pow_right (by decide) hn
  have e : ((2 ^ n : Nat) : Int) = 2 ^ n := by simp
  omega
theorem pow_pos_int (n : Nat) : (1 : Int) ≤ 2 ^ n := by
  have : 0 < 2 ^ n := Nat.two_pow_pos n
  have e : ((2 ^ n : Nat) : Int) = 2 ^ n := by simp
  omega

theorem mask_word (n : Nat) (hn : n ≤ 63) : IntKind.u64.wrap (IntKind.u64.wrap (1 * 2 ^ n) - 1) = 2 ^ n - 1 := by
  have h1 := pow_le_63 n hn
  have h2 := pow_pos_int n
  rw [IntKind.wrap_u64, IntKind.wrap_u64]
  omega

theorem okU_div (x : Int) (a : Nat) (hx : okU x) : okU (x / 2 ^ a) := by
  have h2 := pow_pos_int a
  refine ⟨Int.ediv_nonneg hx.1 (by omega), Int.lt_of_le_of_lt (Int.ediv_le_self _ hx.1) hx.2⟩

theorem okU_cut (x : Int) (a n : Nat) (hn : n ≤ 63) : okU (cutOf x a n) := by
  have h1 := pow_le_63 n hn
  have h2 := pow_pos_int n
  unfold cutOf
  refine ⟨Int.emod_nonneg _ (by omega), ?_⟩
  have := Int.emod_lt_of_pos (x / 2 ^ a) (show (0 : Int) < 2 ^ n by omega)
  omega
end Go.Proofs.Ytlieommbomjdaaa

namespace Go.Proofs.Ytlieommbomjdaaa
open Go.ChangeShapes Go.WideShapes Go.RowKit
set_option linter.unusedVariables false

/-- What a call answers that reads and draws alone. -/
def Tells (f : Nat) (args : Array Value) (v : Value) : Prop := ∀ w, Calls Try.prog f args w fun e w' => e = .returned v ∧ ∃ k, w' = w.drewN k

theorem bit_ne (x k : Int) (hk : IsBit k) : (one (bit x k) k != 0) = bit x k := by
  cases bit x k
  · simp [one]
  · rcases hk with rfl | rfl | rfl | rfl | rfl <;> rfl

theorem has_ok (x k : Int) (hk : IsBit k) (w : World) :
    Calls Try.prog 65 #[.int .i64 x, .int .i64 k] w fun e w' => e = .returned (.bool (bit x k)) ∧ w = w' := by
  have hb := and_bit x k hk
  go_enter Try.func65, Try.ntmps65
  go_wp2
  go_ret
  refine ⟨?_, rfl⟩
  show Ending.returned (.bool (one (bit x k) k != 0)) = _
  rw [bit_ne x k hk]

theorem is_ok (x k : Int) (hk : IsBit k) (hx : 0 ≤ x) (h1 : x ≤ 9223372036854775807) (w : World) :
    Calls Try.prog 80 #[.int .i64 x, .int .i64 k] w fun e w' => e = .returned (.bool (bit x k)) ∧ w = w' := by
  rcases hk with rfl | rfl | rfl | rfl | rfl
  · have hv : bit x 1 = (x % 2 == 1) := by unfold bit; rw [Int.ediv_one]; rfl
    have hv := Lib.hid hv
    go_enter Try.func80, Try.ntmps80
    go_wp2
    go_ret
    refine ⟨?_, rfl⟩
    rw [hv.out]
    rfl
  all_goals
    go_enter Try.func80, Try.ntmps80
    go_wp2
    go_ret
    exact ⟨rfl, rfl⟩

theorem when_ok (b : Bool) (x : Int) (w : World) :
    Calls Try.prog 67 #[.bool b, .int .i64 x] w fun e w' => e = .returned (.int .i64 (one b x)) ∧ w = w' := by
  cases b
  · go_enter Try.func67, Try.ntmps67
    go_wp2
    go_ret
    exact ⟨rfl, rfl⟩
  · go_enter Try.func67, Try.ntmps67
    go_wp2
    go_ret
    exact ⟨rfl, rfl⟩

theorem cut_ok (x A M : Int) (a n : Nat) (hx : okU x) (ha : a ≤ 63) (hn : n ≤ 63) (hA : A = a) (hM : M = n) (w : World) :
    Calls Try.prog 85 #[.int .u64 x, .int .i64 A, .int .i64 M] w fun e w' => e = .returned (.int .u64 (cutOf x a n)) ∧ ∃ k, w' = w.drewN k := by
  subst hA hM
  have hm := mask_word n hn
  rw [Int.one_mul] at hm
  have hb := and_mask_u64 (x / 2 ^ a) n (okU_div x a hx) hn
  go_enter Try.func85, Try.ntmps85
  go_wp2_with fail
  go_quiet (fail)
  go_wp2_with fail
  go_ret
  exact ⟨rfl, _, rfl⟩

/-- Bits summed up from the lowest on. -/
theorem low_step (x : Int) (i : Nat) (hx : 0 ≤ x) : x % 2 ^ i + x / 2 ^ i % 2 * 2 ^ i = x % 2 ^ (i + 1) := by
  obtain ⟨n, rfl⟩ := Int.eq_ofNat_of_zero_le hx
  have h := Nat.mod_mul (x := n) (a := 2 ^ i) (b := 2)
  rw [← Nat.pow_succ] at h
  have e : ((n % 2 ^ (i + 1) : Nat) : Int) = ((n % 2 ^ i + 2 ^ i * (n / 2 ^ i % 2) : Nat) : Int) := congrArg Nat.cast h
  push_cast at e
  rw [e, Int.mul_comm]

theorem and_one_u64 (x : Int) (hx : okU x) : bits .and .u64 x 1 = x % 2 := and_mask_u64 x 1 hx (by decide)

theorem low_round (x : Int) (q : Nat) (hx : okU x) (hq : q ≤ 62) : IntKind.u64.wrap (x % 2 ^ q + IntKind.u64.wrap (bits BinOp.and IntKind.u64 (x / 2 ^ q) 1 * 2 ^ q)) = x % 2 ^ (q + 1) := by
  rw [and_one_u64 _ (okU_div x q hx), ← low_step x q hx.1]
  have h1 := pow_le_63 (q + 1) (by omega)
  have h2 := pow_pos_int q
  have h3 : (2 : Int) ^ (q + 1) = 2 ^ q * 2 := Int.pow_succ _ _
  have h4 := Int.emod_lt_of_pos x (show (0 : Int) < 2 ^ q by omega)
  have h5 := Int.emod_nonneg x (show (2 : Int) ^ q ≠ 0 by omega)
  have h6 : x / 2 ^ q % 2 * 2 ^ q = 0 ∨ x / 2 ^ q % 2 * 2 ^ q = 2 ^ q := by
    have : x / 2 ^ q % 2 = 0 ∨ x / 2 ^ q % 2 = 1 := by omega
    rcases this with e | e <;> rw [e]
    · left; omega
    · right; omega
  rw [IntKind.wrap_u64, IntKind.wrap_u64]
  omega

theorem low_ok (x N : Int) (n : Nat) (hx : okU x) (hn : n ≤ 63) (hN : N = n) (w : World) :
    Calls Try.prog 78 #[.int .u64 x, .int .i64 N] w fun e w' => e = .returned (.int .u64 (x % 2 ^ n)) ∧ w = w' := by
  subst hN
  have HX := Lib.hid hx
  clear hx
  go_enter Try.func78, Try.ntmps78
  go_wp2
  go_loop [5, 6] (fun t k => ∃ q : Nat, q ≤ n ∧ k = .int .i64 q ∧ t = .int .u64 (x % 2 ^ q)) (fun _ k => n - (intOf k).toNat)
  case atStart => exact ⟨0, by omega, rfl, by simp⟩
  case round =>
    obtain ⟨q, hq, rfl, rfl⟩ := hrel
    by_cases hlt : q < n
    · go_wp2
      go_round
      case rel =>
        refine ⟨q + 1, by omega, by go_num, ?_⟩
        rw [low_round x q HX.out (by omega)]
      case measure => simp [intOf]; omega
    · obtain rfl : q = n := by omega
      go_wp2
      go_ret
      exact ⟨rfl, rfl⟩
/-- A slice reads as numbers. -/
structure Ints (w : World) (s : Option Addr) (l : Nat) (xs : List Int) : Prop where
  len : xs.length = l
  cells : l = 0 ∨ ∃ g o, s = some ⟨g, o, none⟩ ∧ ∀ i x, xs[i]? = some x → w.cell? ⟨g, o + i, none⟩ = some (.int .i64 x)

/-- The bits of all of them. -/
def gath (xs : List Int) : Int := xs.foldl (fun a x => bits .or .i64 a x) 0

theorem gath_snoc (xs : List Int) (x : Int) : gath (xs ++ [x]) = bits .or .i64 (gath xs) x := by simp [gath]

theorem gather_ok (w : World) (s : Option Addr) (l : Nat) (c : Nat) (xs : List Int) (h : Ints w s l xs) (hl : l ≤ 100) :
    Calls Try.prog 66 #[.slice s l c] w fun e w' => e = .returned (.int .i64 (gath xs)) ∧ w = w' := by
  have H := Lib.hid h
  clear h
  go_enter Try.func66, Try.ntmps66
  go_wp2
  go_loop [3, 8] (fun t k => ∃ q : Nat, q ≤ l ∧ k = .int .i64 q ∧ t = .int .i64 (gath (xs.take q))) (fun _ k => l - (intOf k).toNat)
  case atStart => exact ⟨0, by omega, rfl, rfl⟩
  case round =>
    obtain ⟨q, hq, rfl, rfl⟩ := hrel
    by_cases hlt : q < l
    · obtain ⟨y, hy⟩ : ∃ y, xs[q]? = some y := ⟨_, List.getElem?_eq_getElem (by rw [H.out.len]; exact hlt)⟩
      obtain ⟨g, o, rfl, hc⟩ : ∃ g o, s = some ⟨g, o, none⟩ ∧ w.cell? ⟨g, o + q, none⟩ = some (.int .i64 y) := by
        rcases H.out.cells with h0 | ⟨g, o, hs, hc⟩
        · omega
        · exact ⟨g, o, hs, hc q y hy⟩
      have HY := Lib.hid hy
      clear hy
      go_wp2
      go_round
      case rel =>
        refine ⟨q + 1, by omega, by go_num, ?_⟩
        have hs : xs.take (q + 1) = xs.take q ++ [y] := by
          rw [List.take_add_one, HY.out]; rfl
        rw [hs, gath_snoc]
      case measure => simp [intOf]; omega
    · obtain rfl : q = l := by omega
      have hx : xs.take q = xs := List.take_of_length_le (by rw [H.out.len]; omega)
      have HX := Lib.hid hx
      clear hx
      go_wp2
      go_ret
      refine ⟨?_, rfl⟩
      show Ending.returned (.int .i64 (gath (xs.take q))) = _
      rw [HX.out]
end Go.Proofs.Ytlieommbomjdaaa

namespace Go.Proofs.Ytlieommbomjdaaa
open Go.ChangeShapes Go.WideShapes Go.RowKit
set_option linter.unusedVariables false

/-- An entry as a value. -/
def Ent (F P : Int) : Value := .agg #[.int .i64 F, .int .i64 P]

theorem isBit_1 : IsBit 1 := .inl rfl
theorem isBit_2 : IsBit 2 := .inr (.inl rfl)
theorem isBit_4 : IsBit 4 := .inr (.inr (.inl rfl))
theorem isBit_8 : IsBit 8 := .inr (.inr (.inr (.inl rfl)))
theorem isBit_16 : IsBit 16 := .inr (.inr (.inr (.inr rfl)))

def kindB (v r w x : Bool) : Int := if v = false ∨ (w = true ∧ r = false) then 0 else if r = true ∨ x = true then 2 else 1
theorem kindOf_eq (F : Int) : kindOf F = kindB (bit F 1) (bit F 2) (bit F 4) (bit F 8) := rfl

set_option maxHeartbeats 4000000 in
theorem kind_ok (F P : Int) (w : World) :
    Calls Try.prog 46 #[.agg #[.int .i64 F, .int .i64 P]] w fun e w' => e = .returned (.int .i64 (kindOf F)) ∧ Below w.heap.size w w' := by
  rw [kindOf_eq]
  have H1 := Lib.hid (has_ok F 1 isBit_1)
  have H2 := Lib.hid (has_ok F 2 isBit_2)
  have H4 := Lib.hid (has_ok F 4 isBit_4)
  have H8 := Lib.hid (has_ok F 8 isBit_8)
  generalize bit F 1 = b1 at *
  generalize bit F 2 = b2 at *
  generalize bit F 4 = b4 at *
  generalize bit F 8 = b8 at *
  have b0 : ∀ w : World, Below w.heap.size w (w.alloc (.cells #[.int .i64 F, .int .i64 P] 44)) := fun w => (Below.refl _ _).alloc (Nat.le_refl _) _
  have B0 := Lib.hid b0
  clear b0
  cases b1
  · go_enter Try.func46, Try.ntmps46
    go_wp2_with fail
    refine (H1.out _).mono ?_
    rintro e w' ⟨rfl, rfl⟩
    go_wp2_with fail
    go_ret
    exact ⟨rfl, B0.out _⟩
  · cases b4
    · cases b2
      · cases b8
        · go_enter Try.func46, Try.ntmps46
          go_wp2_with fail
          refine (H1.out _).mono ?_
          rintro e w' ⟨rfl, rfl⟩
          go_wp2_with fail
          refine (H4.out _).mono ?_
          rintro e w' ⟨rfl, rfl⟩
          go_wp2_with fail
          refine (H2.out _).mono ?_
          rintro e w' ⟨rfl, rfl⟩
          go_wp2_with fail
          refine (H8.out _).mono ?_
          rintro e w' ⟨rfl, rfl⟩
          go_wp2_with fail
          go_ret
          exact ⟨rfl, B0.out _⟩
        · go_enter Try.func46, Try.ntmps46
          go_wp2_with fail
          refine (H1.out _).mono ?_
          rintro e w' ⟨rfl, rfl⟩
          go_wp2_with fail
          refine (H4.out _).mono ?_
          rintro e w' ⟨rfl, rfl⟩
          go_wp2_with fail
          refine (H2.out _).mono ?_
          rintro e w' ⟨rfl, rfl⟩
          go_wp2_with fail
          refine (H8.out _).mono ?_
          rintro e w' ⟨rfl, rfl⟩
          go_wp2_with fail
          go_ret
          exact ⟨rfl, B0.out _⟩
      · go_enter Try.func46, Try.ntmps46
        go_wp2_with fail
        refine (H1.out _).mono ?_
        rintro e w' ⟨rfl, rfl⟩
        go_wp2_with fail
        refine (H4.out _).mono ?_
        rintro e w' ⟨rfl, rfl⟩
        go_wp2_with fail
        refine (H2.out _).mono ?_
        rintro e w' ⟨rfl, rfl⟩
        go_wp2_with fail
        go_ret
        exact ⟨rfl, B0.out _⟩
    · cases b2
      · go_enter Try.func46, Try.ntmps46
        go_wp2_with fail
        refine (H1.out _).mono ?_
        rintro e w' ⟨rfl, rfl⟩
        go_wp2_with fail
        refine (H4.out _).mono ?_
        rintro e w' ⟨rfl, rfl⟩
        go_wp2_with fail
        refine (H2.out _).mono ?_
        rintro e w' ⟨rfl, rfl⟩
        go_wp2_with fail
        go_ret
        exact ⟨rfl, B0.out _⟩
      · go_enter Try.func46, Try.ntmps46
        go_wp2_with fail
        refine (H1.out _).mono ?_
        rintro e w' ⟨rfl, rfl⟩
        go_wp2_with fail
        refine (H4.out _).mono ?_
        rintro e w' ⟨rfl, rfl⟩
        go_wp2_with fail
        refine (H2.out _).mono ?_
        rintro e w' ⟨rfl, rfl⟩
        go_wp2_with fail
        refine (H2.out _).mono ?_
        rintro e w' ⟨rfl, rfl⟩
        go_wp2_with fail
        go_ret
        exact ⟨rfl, B0.out _⟩
end Go.Proofs.Ytlieommbomjdaaa

namespace Go.Proofs.Ytlieommbomjdaaa
open Go.ChangeShapes Go.WideShapes Go.RowKit
set_option linter.unusedVariables false

theorem calls_flip {P : Program} {f : FuncId} {args : Array Value} {w : World} {X : Ending} (h : Calls P f args w fun e w' => e = X ∧ w = w') : Calls P f args w fun e w' => e = X ∧ w' = w :=
  h.mono fun _ _ ⟨a, b⟩ => ⟨a, b.symm⟩

theorem Below.drewK {B : Nat} {a w : World} (h : Below B a w) (n : Nat) : Below B a (w.drewN n) := by
  refine ⟨?_, ?_, ?_, ?_, ?_⟩
  · exact h.os
  · exact h.tape
  · exact h.output
  · exact h.size
  · exact h.block

/-- An entry that a call lays into a new block. -/
theorem heap_entry (w : World) (k : Nat) (x y x' y' : Value) (t : TypeId) (h1 : x'.oneCell' = true) (h2 : y'.oneCell' = true) :
    ((((w.alloc (.cells #[x, y] t)).drewN k).setCell ⟨w.heap.size, 0, none⟩ x').setCell ⟨w.heap.size, 1, none⟩ y').heap[w.heap.size]? = some (.cells #[x', y'] t (0, 0)) := by
  have h : ((w.alloc (.cells #[x, y] t)).drewN k).heap[w.heap.size]? = some (.cells [x, y].toArray t (0, 0)) := heap_alloc_new w _
  exact heap_setCells h [x', y'] (by simp) (by intro v hv; simp at hv; rcases hv with rfl | rfl <;> assumption)

theorem below_entry (w : World) (k : Nat) (o : Obj) (x' y' : Value) :
    Below w.heap.size w ((((w.alloc o).drewN k).setCell ⟨w.heap.size, 0, none⟩ x').setCell ⟨w.heap.size, 1, none⟩ y') :=
  (Below.drewK ((Below.refl _ w).alloc (Nat.le_refl _) o) k).grown (grown_setCells ((w.alloc o).drewN k) w.heap.size 0 [x', y']) (by show w.heap.size ≤ (w.heap.push o).size; simp) (by intro k hk; cases hk; exact Nat.le_refl _)

theorem cut_0_44 (x : Int) : cutOf (x % 18446744073709551616) 0 44 = x % 17592186044416 := by unfold cutOf; simp
theorem cut_0_8 (x : Int) : cutOf (x % 18446744073709551616) 0 8 = x % 256 := by unfold cutOf; simp
theorem cut_v_8 (x : Int) : cutOf x 0 8 = x % 256 := by unfold cutOf; simp
theorem cut_v_44 (x : Int) : cutOf x 10 44 = x / 1024 % 17592186044416 := by unfold cutOf; rfl
theorem okU_mod (x : Int) : okU (x % 18446744073709551616) := ⟨by omega, by omega⟩

theorem or_parts (p f : Int) (hp : 0 ≤ p) (hp1 : p < 17592186044416) (hf : 0 ≤ f) (hf1 : f < 256) : bits .or .u64 (p * 1024) f = p * 1024 + f := by
  exact bits_join .u64 64 (by decide) (fun m h0 h1 => by rw [IntKind.wrap_u64]; omega) 10 _ _ (by omega) (by omega) (by omega) hf (by omega) (by omega)

theorem encode_ok (F P : Int) (w : World) :
    Calls Try.prog 64 #[.agg #[.int .i64 F, .int .i64 P]] w fun e w' => e = .returned (.int .u64 (encOf F P)) ∧ Below w.heap.size w w' := by
  have hu : IntKind.u64.wrap F = F % 18446744073709551616 := IntKind.wrap_u64 F
  have hv : IntKind.u64.wrap P = P % 18446744073709551616 := IntKind.wrap_u64 P
  have C1 := cut_ok (P % 18446744073709551616) 0 44 0 44 (okU_mod P) (by decide) (by decide) rfl rfl
  have C2 := cut_ok (F % 18446744073709551616) 0 8 0 8 (okU_mod F) (by decide) (by decide) rfl rfl
  rw [cut_0_44] at C1
  rw [cut_0_8] at C2
  have H1 := Lib.hid C1
  have H2 := Lib.hid C2
  have HO := Lib.hid (or_parts (P % 17592186044416) (F % 256) (by omega) (by omega) (by omega) (by omega))
  have b0 : ∀ (w : World) n, Below w.heap.size w ((w.alloc (.cells #[.int .i64 F, .int .i64 P] 44)).drewN n) := fun w n => Below.drewK ((Below.refl _ _).alloc (Nat.le_refl _) _) n
  have B0 := Lib.hid b0
  clear C1 C2 b0
  go_enter Try.func64, Try.ntmps64
  go_wp2_with fail
  go_quiet (first | (with_reducible exact Calls.quiet_of (H1.out _)) | (with_reducible exact Calls.quiet_of (H2.out _)))
  go_wp2_with fail
  go_ret
  refine ⟨?_, B0.out _ _⟩
  unfold encOf
  rw [← HO.out]
  rfl

theorem decode_ok (v : Int) (hv : okU v) (w : World) :
    Calls Try.prog 84 #[.int .u64 v] w fun e w' => e = .returned (.agg #[.int .i64 (flagOf v), .int .i64 (ppnOf v)]) ∧ Below w.heap.size w w' := by
  have C1 := cut_ok v 0 8 0 8 hv (by decide) (by decide) rfl rfl
  have C2 := cut_ok v 10 44 10 44 hv (by decide) (by decide) rfl rfl
  rw [cut_v_8] at C1
  rw [cut_v_44] at C2
  have H1 := Lib.hid C1
  have H2 := Lib.hid C2
  clear C1 C2 hv
  go_enter Try.func84, Try.ntmps84
  go_wp2_with fail
  refine (H1.out _).mono ?_
  rintro e w' ⟨rfl, k, rfl⟩
  go_wp2_with fail
  refine (H2.out _).mono ?_
  rintro e w' ⟨rfl, k2, rfl⟩
  go_wp2_with fail
  refine bodyPost_ret (results_cell_row rfl _ _ w.heap.size _ #[.int .i64 (v % 256), .int .i64 (v / 1024 % 17592186044416)] (0, 0) _ rfl (heap_entry w (k + k2) _ _ _ _ _ rfl rfl) Try.underlying44 (by kernel_rfl) (by kernel_rfl)) rfl ?_
  exact ⟨rfl, below_entry w _ _ _ _⟩

theorem ref_decode_ok (v : Int) (hv : okU v) (w : World) :
    Calls Try.prog 50 #[.int .u64 v] w fun e w' => e = .returned (.agg #[.int .i64 (flagOf v), .int .i64 (ppnOf v)]) ∧ Below w.heap.size w w' := by
  have h0 := hv.1
  have h1 := hv.2
  have C1 := fun w => calls_flip (low_ok v 8 8 hv (by decide) rfl w)
  have C2 := fun w => calls_flip (low_ok (v / 1024) 44 44 ⟨by omega, by omega⟩ (by decide) rfl w)
  rw [show v % 2 ^ 8 = v % 256 by omega] at C1
  rw [show v / 1024 % 2 ^ 44 = v / 1024 % 17592186044416 by omega] at C2
  have H1 := Lib.hid C1
  have H2 := Lib.hid C2
  clear C1 C2 hv
  go_enter Try.func50, Try.ntmps50
  go_wp2_with fail
  refine (H1.out _).mono ?_
  rintro e w' ⟨rfl, rfl⟩
  go_wp2_with fail
  refine (H2.out _).mono ?_
  rintro e w' ⟨rfl, rfl⟩
  go_wp2_with fail
  refine bodyPost_ret (results_cell_row rfl _ _ w.heap.size _ #[.int .i64 (v % 256), .int .i64 (v / 1024 % 17592186044416)] (0, 0) _ rfl (heap_alloc_new w _) Try.underlying44 (by kernel_rfl) (by kernel_rfl)) rfl ?_
  exact ⟨rfl, (Below.refl _ w).alloc (Nat.le_refl _) _⟩
end Go.Proofs.Ytlieommbomjdaaa

namespace Go.Proofs.Ytlieommbomjdaaa
open Go.ChangeShapes Go.WideShapes Go.RowKit
set_option linter.unusedVariables false

theorem cut_12_27 (x : Int) : cutOf (x % 18446744073709551616) 12 27 = vpnOf x := by unfold cutOf vpnOf; simp; omega
theorem cut_0_12 (x : Int) : cutOf (x % 18446744073709551616) 0 12 = byteOf x := by unfold cutOf byteOf; simp
theorem cut_0_9 (x : Int) : cutOf (x % 18446744073709551616) 0 9 = x % 512 := by unfold cutOf; simp
theorem cut_9_9 (x : Int) : cutOf (x % 18446744073709551616) 9 9 = x / 512 % 512 := by unfold cutOf; simp; omega
theorem cut_18_9 (x : Int) : cutOf (x % 18446744073709551616) 18 9 = x / 262144 % 512 := by unfold cutOf; simp; omega

theorem vpn_lt (x : Int) : 0 ≤ vpnOf x ∧ vpnOf x < 134217728 := by unfold vpnOf; omega
theorem byte_lt (x : Int) : 0 ≤ byteOf x ∧ byteOf x < 4096 := by unfold byteOf; omega

theorem index_ok (x l : Int) (w : World) :
    Calls Try.prog 61 #[.int .i64 x, .int .i64 l] w fun e w' => e = .returned (.int .i64 (indexOf x l)) ∧ ∃ k, w' = w.drewN k := by
  have hu : IntKind.u64.wrap x = x % 18446744073709551616 := IntKind.wrap_u64 x
  have C1 := cut_ok (x % 18446744073709551616) 0 9 0 9 (okU_mod x) (by decide) (by decide) rfl rfl
  have C2 := cut_ok (x % 18446744073709551616) 9 9 9 9 (okU_mod x) (by decide) (by decide) rfl rfl
  have C3 := cut_ok (x % 18446744073709551616) 18 9 18 9 (okU_mod x) (by decide) (by decide) rfl rfl
  rw [cut_0_9] at C1
  rw [cut_9_9] at C2
  rw [cut_18_9] at C3
  have H1 := Lib.hid C1
  have H2 := Lib.hid C2
  have H3 := Lib.hid C3
  clear C1 C2 C3
  by_cases h0 : l = 0
  · subst h0
    go_enter Try.func61, Try.ntmps61
    go_wp2_with fail
    refine (H1.out _).mono ?_
    rintro e w' ⟨rfl, k, rfl⟩
    go_wp2_with fail
    go_ret
    exact ⟨rfl, _, rfl⟩
  · by_cases h1 : l = 1
    · subst h1
      go_enter Try.func61, Try.ntmps61
      go_wp2_with fail
      refine (H2.out _).mono ?_
      rintro e w' ⟨rfl, k, rfl⟩
      go_wp2_with fail
      go_ret
      exact ⟨rfl, _, rfl⟩
    · by_cases h2 : l = 2
      · subst h2
        go_enter Try.func61, Try.ntmps61
        go_wp2_with fail
        refine (H3.out _).mono ?_
        rintro e w' ⟨rfl, k, rfl⟩
        go_wp2_with fail
        go_ret
        exact ⟨rfl, _, rfl⟩
      · have e0 : (l == 0) = false := by simp [h0]
        have e1 : (l == 1) = false := by simp [h1]
        have e2 : (l == 2) = false := by simp [h2]
        have hI := Lib.hid (show indexOf x l = 0 by simp [indexOf, h0, h1, h2])
        clear h0 h1 h2
        go_enter Try.func61, Try.ntmps61
        go_wp2_with fail
        go_ret
        rw [hI.out]
        exact ⟨rfl, 0, rfl⟩

theorem ref_index_ok (x l : Int) (w : World) :
    Calls Try.prog 49 #[.int .i64 x, .int .i64 l] w fun e w' => e = .returned (.int .i64 (indexOf x l)) ∧ w = w' := by
  have hu : IntKind.u64.wrap x = x % 18446744073709551616 := IntKind.wrap_u64 x
  have C1 := low_ok (x % 18446744073709551616) 9 9 (okU_mod x) (by decide) rfl
  have C2 := low_ok (x % 18446744073709551616 / 512) 9 9 ⟨by omega, by omega⟩ (by decide) rfl
  have C3 := low_ok (x % 18446744073709551616 / 262144) 9 9 ⟨by omega, by omega⟩ (by decide) rfl
  rw [show x % 18446744073709551616 % 2 ^ 9 = x % 512 by omega] at C1
  rw [show x % 18446744073709551616 / 512 % 2 ^ 9 = x / 512 % 512 by omega] at C2
  rw [show x % 18446744073709551616 / 262144 % 2 ^ 9 = x / 262144 % 512 by omega] at C3
  have H1 := Lib.hid C1
  have H2 := Lib.hid C2
  have H3 := Lib.hid C3
  clear C1 C2 C3
  by_cases h0 : l = 0
  · subst h0
    go_enter Try.func49, Try.ntmps49
    go_wp2_with fail
    refine (H1.out _).mono ?_
    rintro e w' ⟨rfl, rfl⟩
    go_wp2_with fail
    go_ret
    exact ⟨rfl, rfl⟩
  · by_cases h1 : l = 1
    · subst h1
      go_enter Try.func49, Try.ntmps49
      go_wp2_with fail
      refine (H2.out _).mono ?_
      rintro e w' ⟨rfl, rfl⟩
      go_wp2_with fail
      go_ret
      exact ⟨rfl, rfl⟩
    · by_cases h2 : l = 2
      · subst h2
        go_enter Try.func49, Try.ntmps49
        go_wp2_with fail
        refine (H3.out _).mono ?_
        rintro e w' ⟨rfl, rfl⟩
        go_wp2_with fail
        go_ret
        exact ⟨rfl, rfl⟩
      · have hI := Lib.hid (show indexOf x l = 0 by simp [indexOf, h0, h1, h2])
        by_cases hn : l < 0
        · have e0 : decide (l < 0) = true := by simpa using hn
          clear h0 h1 h2
          go_enter Try.func49, Try.ntmps49
          go_wp2_with fail
          go_ret
          rw [hI.out]
          exact ⟨rfl, rfl⟩
        · have e0 : decide (l < 0) = false := by simpa using hn
          have e1 : decide (l > 2) = true := by simp; omega
          clear h0 h1 h2 hn
          go_enter Try.func49, Try.ntmps49
          go_wp2_with fail
          go_ret
          rw [hI.out]
          exact ⟨rfl, rfl⟩

end Go.Proofs.Ytlieommbomjdaaa

namespace Go.Proofs.Ytlieommbomjdaaa
open Go.ChangeShapes Go.WideShapes Go.RowKit
set_option linter.unusedVariables false

theorem or_i64 (x y : Int) (i : Nat) (hx : 0 ≤ x) (h0 : x % 2 ^ i = 0) (h1 : x < 9223372036854775808) (h2 : 0 ≤ y) (h3 : y < 2 ^ i) (h4 : y < 9223372036854775808) : bits .or .i64 x y = x + y :=
  bits_join .i64 63 (by decide) (fun m m0 m1 => by rw [IntKind.wrap_i64]; omega) i x y hx h0 (by omega) h2 h3 (by omega)

theorem gath_join (a b c : Int) (ha : 0 ≤ a ∧ a < 512) (hb : 0 ≤ b ∧ b < 512) (hc : 0 ≤ c ∧ c < 512) : gath [a * 262144, b * 512, c] = a * 262144 + b * 512 + c := by
  show bits .or .i64 (bits .or .i64 (bits .or .i64 0 (a * 262144)) (b * 512)) c = _
  rw [or_i64 0 (a * 262144) 27 (by omega) (by omega) (by omega) (by omega) (by omega) (by omega)]
  rw [or_i64 _ (b * 512) 18 (by omega) (by omega) (by omega) (by omega) (by omega) (by omega)]
  rw [or_i64 _ c 9 (by omega) (by omega) (by omega) (by omega) (by omega) (by omega)]
  omega

/-- Numbers that a call lays into a new block, to be gathered. -/
theorem ints_new (w : World) (k : Nat) (xs : List Int) (t : TypeId) : Ints ((w.alloc (.cells (xs.map (Value.int .i64)).toArray t)).drewN k) (some ⟨w.heap.size, 0, none⟩) xs.length xs := by
  refine ⟨rfl, .inr ⟨_, _, rfl, fun i x hi => ?_⟩⟩
  rw [World.cell?_drewN, cell_of_row _ w.heap.size (0 + i) _ t (0, 0) (heap_alloc_new w _)]
  simp [hi]

/-- The bits from 38 on, up to t of them, are all alike. -/
def Alike (x : Int) (t : Nat) : Prop := x % 18446744073709551616 / 274877906944 % 2 ^ t = x % 18446744073709551616 / 274877906944 % 2 * (2 ^ t - 1)

theorem alike_one (x : Int) : Alike x 1 := by unfold Alike; omega

theorem shr_more (u : Int) (t : Nat) : u / 2 ^ (38 + t) = u / 274877906944 / 2 ^ t := by
  rw [Int.pow_add, Int.ediv_ediv_of_nonneg (by decide)]
  rfl

theorem alike_step (x : Int) (t : Nat) (h : Alike x t) : Alike x (t + 1) ↔ x % 18446744073709551616 / 2 ^ (38 + t) % 2 = x % 18446744073709551616 / 274877906944 % 2 := by
  unfold Alike at *
  rw [shr_more]
  have h0 : (0 : Int) ≤ x % 18446744073709551616 / 274877906944 := by omega
  generalize x % 18446744073709551616 / 274877906944 = m at *
  rw [← low_step m t h0, h]
  have hp := pow_pos_int t
  have h3 : (2 : Int) ^ (t + 1) = 2 ^ t * 2 := Int.pow_succ _ _
  rw [h3]
  generalize (2 : Int) ^ t = p at *
  have hb : m % 2 = 0 ∨ m % 2 = 1 := by omega
  have hc : m / p % 2 = 0 ∨ m / p % 2 = 1 := by omega
  rcases hb with e | e <;> rcases hc with f | f <;> rw [e, f] <;> constructor <;> intro _ <;> omega

theorem alike_all (x : Int) (hx : okI x) (h : Alike x 26) : canonOf x = true := by
  unfold Alike at h
  unfold canonOf
  have h1 := hx.1
  have h2 := hx.2
  have hb : x % 18446744073709551616 / 274877906944 % 2 = 0 ∨ x % 18446744073709551616 / 274877906944 % 2 = 1 := by omega
  rcases hb with e | e <;> rw [e] at h <;> simp at h ⊢ <;> omega

theorem canon_bit (x : Int) (hx : okI x) (q : Nat) (h0 : 38 ≤ q) (h1 : q < 64) (hc : canonOf x = true) : x % 18446744073709551616 / 2 ^ q % 2 = x % 18446744073709551616 / 274877906944 % 2 := by
  have hx1 := hx.1
  have hx2 := hx.2
  simp [canonOf] at hc
  obtain ⟨t, rfl⟩ : ∃ t, q = 38 + t := ⟨q - 38, by omega⟩
  rw [shr_more]
  have hm : x % 18446744073709551616 / 274877906944 = 0 ∨ x % 18446744073709551616 / 274877906944 = 67108863 := by omega
  rcases hm with e | e <;> rw [e]
  · simp
  · have h : ∀ t : Fin 26, (67108863 : Int) / 2 ^ t.val % 2 = 67108863 % 2 := by decide
    exact h ⟨t, by omega⟩

theorem okU_38 (x : Int) : okU (x % 18446744073709551616 / 274877906944) := ⟨by omega, by omega⟩

end Go.Proofs.Ytlieommbomjdaaa
