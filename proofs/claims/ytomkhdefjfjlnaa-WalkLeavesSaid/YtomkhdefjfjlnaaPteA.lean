/- Calls of package pte's small functions, and of the document's: bits cut, asked, gathered. -/
import Derived.Test.YtomkhdefjfjlnaaRows
import Derived.Test.YtomkhdefjfjlnaaPBits
import Derived.Test.YtomkhdefjfjlnaaGen
import Derived.WalkKit
import Derived.ProofKit
import Derived.OpenShut
import Derived.WalkLawsBesides
import Derived.WalkSpells
import Derived.BigQuiet
import Derived.WalkArith
import Derived.Laws.Unary
import Derived.Deep.QuietTactic
import Derived.Deep.DeepMust
import Derived.Outline
import Derived.Below
import Derived.Lib.Hide
namespace Go.Proofs.Ytomkhdefjfjlnaa
open Go.ChangeShapes Go.WideShapes Go.RowKit
set_option linter.unusedVariables false

/-- What a call answers that reads and draws alone. -/
def Tells (f : Nat) (args : Array Value) (v : Value) : Prop := ∀ w, Calls Try.prog f args w fun e w' => e = .returned v ∧ ∃ k, w' = w.drewN k

theorem bit_ne (x k : Int) (hk : IsBit k) : (one (bit x k) k != 0) = bit x k := by
  cases bit x k
  · simp [one]
  · rcases hk with rfl | rfl | rfl | rfl | rfl <;> rfl

theorem has_ok (x k : Int) (hk : IsBit k) (w : World) :
    Calls Try.prog 51 #[.int .i64 x, .int .i64 k] w fun e w' => e = .returned (.bool (bit x k)) ∧ w = w' := by
  have hb := and_bit x k hk
  go_enter Try.func51, Try.ntmps51
  go_wp2
  go_ret
  refine ⟨?_, rfl⟩
  show Ending.returned (.bool (one (bit x k) k != 0)) = _
  rw [bit_ne x k hk]

theorem is_ok (x k : Int) (hk : IsBit k) (hx : 0 ≤ x) (h1 : x ≤ 9223372036854775807) (w : World) :
    Calls Try.prog 61 #[.int .i64 x, .int .i64 k] w fun e w' => e = .returned (.bool (bit x k)) ∧ w = w' := by
  rcases hk with rfl | rfl | rfl | rfl | rfl
  · have hv : bit x 1 = (x % 2 == 1) := by unfold bit; rw [Int.ediv_one]; rfl
    have hv := Lib.hid hv
    go_enter Try.func61, Try.ntmps61
    go_wp2
    go_ret
    refine ⟨?_, rfl⟩
    rw [hv.out]
    rfl
  all_goals
    go_enter Try.func61, Try.ntmps61
    go_wp2
    go_ret
    exact ⟨rfl, rfl⟩

theorem when_ok (b : Bool) (x : Int) (w : World) :
    Calls Try.prog 63 #[.bool b, .int .i64 x] w fun e w' => e = .returned (.int .i64 (one b x)) ∧ w = w' := by
  cases b
  · go_enter Try.func63, Try.ntmps63
    go_wp2
    go_ret
    exact ⟨rfl, rfl⟩
  · go_enter Try.func63, Try.ntmps63
    go_wp2
    go_ret
    exact ⟨rfl, rfl⟩

theorem cut_ok (x A M : Int) (a n : Nat) (hx : okU x) (ha : a ≤ 63) (hn : n ≤ 63) (hA : A = a) (hM : M = n) (w : World) :
    Calls Try.prog 56 #[.int .u64 x, .int .i64 A, .int .i64 M] w fun e w' => e = .returned (.int .u64 (cutOf x a n)) ∧ ∃ k, w' = w.drewN k := by
  subst hA hM
  have hm := mask_word n hn
  rw [Int.one_mul] at hm
  have hb := and_mask_u64 (x / 2 ^ a) n (okU_div x a hx) hn
  go_enter Try.func56, Try.ntmps56
  go_wp2_with fail
  go_quiet (fail)
  go_wp2_with fail
  go_ret
  exact ⟨rfl, _, rfl⟩

/-- Bits summed up from the lowest on. -/
theorem low_step (x : Int) (i : Nat) (hx : 0 ≤ x) : x % 2 ^ i + x / 2 ^ i % 2 * 2 ^ i = x % 2 ^ (i + 1) := by
  obtain ⟨n, rfl⟩ := Int.eq_ofNat_of_zero_le hx
  have h := Nat.mod_mul (x := n) (a := 2 ^ i) (b := 2)
  rw [← Nat.pow_succ] at h
  have e : ((n % 2 ^ (i + 1) : Nat) : Int) = ((n % 2 ^ i + 2 ^ i * (n / 2 ^ i % 2) : Nat) : Int) := congrArg Nat.cast h
  push_cast at e
  rw [e, Int.mul_comm]

theorem and_one_u64 (x : Int) (hx : okU x) : bits .and .u64 x 1 = x % 2 := and_mask_u64 x 1 hx (by decide)

theorem low_round (x : Int) (q : Nat) (hx : okU x) (hq : q ≤ 62) : IntKind.u64.wrap (x % 2 ^ q + IntKind.u64.wrap (bits BinOp.and IntKind.u64 (x / 2 ^ q) 1 * 2 ^ q)) = x % 2 ^ (q + 1) := by
  rw [and_one_u64 _ (okU_div x q hx), ← low_step x q hx.1]
  have h1 := pow_le_63 (q + 1) (by omega)
  have h2 := pow_pos_int q
  have h3 : (2 : Int) ^ (q + 1) = 2 ^ q * 2 := Int.pow_succ _ _
  have h4 := Int.emod_lt_of_pos x (show (0 : Int) < 2 ^ q by omega)
  have h5 := Int.emod_nonneg x (show (2 : Int) ^ q ≠ 0 by omega)
  have h6 : x / 2 ^ q % 2 * 2 ^ q = 0 ∨ x / 2 ^ q % 2 * 2 ^ q = 2 ^ q := by
    have : x / 2 ^ q % 2 = 0 ∨ x / 2 ^ q % 2 = 1 := by omega
    rcases this with e | e <;> rw [e]
    · left; omega
    · right; omega
  rw [IntKind.wrap_u64, IntKind.wrap_u64]
  omega

theorem low_ok (x N : Int) (n : Nat) (hx : okU x) (hn : n ≤ 63) (hN : N = n) (w : World) :
    Calls Try.prog 54 #[.int .u64 x, .int .i64 N] w fun e w' => e = .returned (.int .u64 (x % 2 ^ n)) ∧ w = w' := by
  subst hN
  have HX := Lib.hid hx
  clear hx
  go_enter Try.func54, Try.ntmps54
  go_wp2
  go_loop [5, 6] (fun t k => ∃ q : Nat, q ≤ n ∧ k = .int .i64 q ∧ t = .int .u64 (x % 2 ^ q)) (fun _ k => n - (intOf k).toNat)
  case atStart => exact ⟨0, by omega, rfl, by simp⟩
  case round =>
    obtain ⟨q, hq, rfl, rfl⟩ := hrel
    by_cases hlt : q < n
    · go_wp2
      go_round
      case rel =>
        refine ⟨q + 1, by omega, by go_num, ?_⟩
        rw [low_round x q HX.out (by omega)]
      case measure => simp [intOf]; omega
    · obtain rfl : q = n := by omega
      go_wp2
      go_ret
      exact ⟨rfl, rfl⟩
/-- A slice reads as numbers. -/
structure Ints (w : World) (s : Option Addr) (l : Nat) (xs : List Int) : Prop where
  len : xs.length = l
  cells : l = 0 ∨ ∃ g o, s = some ⟨g, o, none⟩ ∧ ∀ i x, xs[i]? = some x → w.cell? ⟨g, o + i, none⟩ = some (.int .i64 x)

/-- The bits of all of them. -/
def gath (xs : List Int) : Int := xs.foldl (fun a x => bits .or .i64 a x) 0

theorem gath_snoc (xs : List Int) (x : Int) : gath (xs ++ [x]) = bits .or .i64 (gath xs) x := by simp [gath]

theorem gather_ok (w : World) (s : Option Addr) (l : Nat) (c : Nat) (xs : List Int) (h : Ints w s l xs) (hl : l ≤ 100) :
    Calls Try.prog 62 #[.slice s l c] w fun e w' => e = .returned (.int .i64 (gath xs)) ∧ w = w' := by
  have H := Lib.hid h
  clear h
  go_enter Try.func62, Try.ntmps62
  go_wp2
  go_loop [3, 8] (fun t k => ∃ q : Nat, q ≤ l ∧ k = .int .i64 q ∧ t = .int .i64 (gath (xs.take q))) (fun _ k => l - (intOf k).toNat)
  case atStart => exact ⟨0, by omega, rfl, rfl⟩
  case round =>
    obtain ⟨q, hq, rfl, rfl⟩ := hrel
    by_cases hlt : q < l
    · obtain ⟨y, hy⟩ : ∃ y, xs[q]? = some y := ⟨_, List.getElem?_eq_getElem (by rw [H.out.len]; exact hlt)⟩
      obtain ⟨g, o, rfl, hc⟩ : ∃ g o, s = some ⟨g, o, none⟩ ∧ w.cell? ⟨g, o + q, none⟩ = some (.int .i64 y) := by
        rcases H.out.cells with h0 | ⟨g, o, hs, hc⟩
        · omega
        · exact ⟨g, o, hs, hc q y hy⟩
      have HY := Lib.hid hy
      clear hy
      go_wp2
      go_round
      case rel =>
        refine ⟨q + 1, by omega, by go_num, ?_⟩
        have hs : xs.take (q + 1) = xs.take q ++ [y] := by
          rw [List.take_add_one, HY.out]; rfl
        rw [hs, gath_snoc]
      case measure => simp [intOf]; omega
    · obtain rfl : q = l := by omega
      have hx : xs.take q = xs := List.take_of_length_le (by rw [H.out.len]; omega)
      have HX := Lib.hid hx
      clear hx
      go_wp2
      go_ret
      refine ⟨?_, rfl⟩
      show Ending.returned (.int .i64 (gath (xs.take q))) = _
      rw [HX.out]
end Go.Proofs.Ytomkhdefjfjlnaa
