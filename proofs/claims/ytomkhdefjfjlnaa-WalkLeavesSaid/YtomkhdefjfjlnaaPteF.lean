/- Calls of package pte, and of the document's: parts joined; whether all high bits are alike. -/
import Derived.Test.YtomkhdefjfjlnaaPteE
namespace Go.Proofs.Ytomkhdefjfjlnaa
open Go.ChangeShapes Go.WideShapes Go.RowKit
set_option linter.unusedVariables false

theorem or_i64 (x y : Int) (i : Nat) (hx : 0 ≤ x) (h0 : x % 2 ^ i = 0) (h1 : x < 9223372036854775808) (h2 : 0 ≤ y) (h3 : y < 2 ^ i) (h4 : y < 9223372036854775808) : bits .or .i64 x y = x + y :=
  bits_join .i64 63 (by decide) (fun m m0 m1 => by rw [IntKind.wrap_i64]; omega) i x y hx h0 (by omega) h2 h3 (by omega)

theorem gath_join (a b c : Int) (ha : 0 ≤ a ∧ a < 512) (hb : 0 ≤ b ∧ b < 512) (hc : 0 ≤ c ∧ c < 512) : gath [a * 262144, b * 512, c] = a * 262144 + b * 512 + c := by
  show bits .or .i64 (bits .or .i64 (bits .or .i64 0 (a * 262144)) (b * 512)) c = _
  rw [or_i64 0 (a * 262144) 27 (by omega) (by omega) (by omega) (by omega) (by omega) (by omega)]
  rw [or_i64 _ (b * 512) 18 (by omega) (by omega) (by omega) (by omega) (by omega) (by omega)]
  rw [or_i64 _ c 9 (by omega) (by omega) (by omega) (by omega) (by omega) (by omega)]
  omega

/-- Numbers that a call lays into a new block, to be gathered. -/
theorem ints_new (w : World) (k : Nat) (xs : List Int) (t : TypeId) : Ints ((w.alloc (.cells (xs.map (Value.int .i64)).toArray t)).drewN k) (some ⟨w.heap.size, 0, none⟩) xs.length xs := by
  refine ⟨rfl, .inr ⟨_, _, rfl, fun i x hi => ?_⟩⟩
  rw [World.cell?_drewN, cell_of_row _ w.heap.size (0 + i) _ t (0, 0) (heap_alloc_new w _)]
  simp [hi]

theorem ref_join_ok (a b c : Int) (w : World) :
    Calls Try.prog 45 #[.int .i64 a, .int .i64 b, .int .i64 c] w fun e w' => e = .returned (.int .i64 (joinOf a b c)) ∧ w = w' := by
  have hu : IntKind.u64.wrap a = a % 18446744073709551616 := IntKind.wrap_u64 a
  have hv : IntKind.u64.wrap b = b % 18446744073709551616 := IntKind.wrap_u64 b
  have hx : IntKind.u64.wrap c = c % 18446744073709551616 := IntKind.wrap_u64 c
  have C1 := low_ok (a % 18446744073709551616) 9 9 (okU_mod a) (by decide) rfl
  have C2 := low_ok (b % 18446744073709551616) 9 9 (okU_mod b) (by decide) rfl
  have C3 := low_ok (c % 18446744073709551616) 9 9 (okU_mod c) (by decide) rfl
  rw [show a % 18446744073709551616 % 2 ^ 9 = a % 512 by omega] at C1
  rw [show b % 18446744073709551616 % 2 ^ 9 = b % 512 by omega] at C2
  rw [show c % 18446744073709551616 % 2 ^ 9 = c % 512 by omega] at C3
  have H1 := Lib.hid C1
  have H2 := Lib.hid C2
  have H3 := Lib.hid C3
  clear C1 C2 C3
  go_enter Try.func45, Try.ntmps45
  go_wp2_with fail
  refine (H1.out _).mono ?_
  rintro e w' ⟨rfl, rfl⟩
  go_wp2_with fail
  refine (H2.out _).mono ?_
  rintro e w' ⟨rfl, rfl⟩
  go_wp2_with fail
  refine (H3.out _).mono ?_
  rintro e w' ⟨rfl, rfl⟩
  go_wp2_with fail
  go_ret
  exact ⟨rfl, rfl⟩

/-- The bits from 38 on, up to t of them, are all alike. -/
def Alike (x : Int) (t : Nat) : Prop := x % 18446744073709551616 / 274877906944 % 2 ^ t = x % 18446744073709551616 / 274877906944 % 2 * (2 ^ t - 1)

theorem alike_one (x : Int) : Alike x 1 := by unfold Alike; omega

theorem shr_more (u : Int) (t : Nat) : u / 2 ^ (38 + t) = u / 274877906944 / 2 ^ t := by
  rw [Int.pow_add, Int.ediv_ediv_of_nonneg (by decide)]
  rfl

theorem alike_step (x : Int) (t : Nat) (h : Alike x t) : Alike x (t + 1) ↔ x % 18446744073709551616 / 2 ^ (38 + t) % 2 = x % 18446744073709551616 / 274877906944 % 2 := by
  unfold Alike at *
  rw [shr_more]
  have h0 : (0 : Int) ≤ x % 18446744073709551616 / 274877906944 := by omega
  generalize x % 18446744073709551616 / 274877906944 = m at *
  rw [← low_step m t h0, h]
  have hp := pow_pos_int t
  have h3 : (2 : Int) ^ (t + 1) = 2 ^ t * 2 := Int.pow_succ _ _
  rw [h3]
  generalize (2 : Int) ^ t = p at *
  have hb : m % 2 = 0 ∨ m % 2 = 1 := by omega
  have hc : m / p % 2 = 0 ∨ m / p % 2 = 1 := by omega
  rcases hb with e | e <;> rcases hc with f | f <;> rw [e, f] <;> constructor <;> intro _ <;> omega

theorem alike_all (x : Int) (hx : okI x) (h : Alike x 26) : canonOf x = true := by
  unfold Alike at h
  unfold canonOf
  have h1 := hx.1
  have h2 := hx.2
  have hb : x % 18446744073709551616 / 274877906944 % 2 = 0 ∨ x % 18446744073709551616 / 274877906944 % 2 = 1 := by omega
  rcases hb with e | e <;> rw [e] at h <;> simp at h ⊢ <;> omega

theorem canon_bit (x : Int) (hx : okI x) (q : Nat) (h0 : 38 ≤ q) (h1 : q < 64) (hc : canonOf x = true) : x % 18446744073709551616 / 2 ^ q % 2 = x % 18446744073709551616 / 274877906944 % 2 := by
  have hx1 := hx.1
  have hx2 := hx.2
  simp [canonOf] at hc
  obtain ⟨t, rfl⟩ : ∃ t, q = 38 + t := ⟨q - 38, by omega⟩
  rw [shr_more]
  have hm : x % 18446744073709551616 / 274877906944 = 0 ∨ x % 18446744073709551616 / 274877906944 = 67108863 := by omega
  rcases hm with e | e <;> rw [e]
  · simp
  · have h : ∀ t : Fin 26, (67108863 : Int) / 2 ^ t.val % 2 = 67108863 % 2 := by decide
    exact h ⟨t, by omega⟩

theorem okU_38 (x : Int) : okU (x % 18446744073709551616 / 274877906944) := ⟨by omega, by omega⟩

theorem ref_canonical_ok (x : Int) (hx : okI x) (w : World) :
    Calls Try.prog 35 #[.int .i64 x] w fun e w' => e = .returned (.bool (canonOf x)) ∧ w = w' := by
  have hu : IntKind.u64.wrap x = x % 18446744073709551616 := IntKind.wrap_u64 x
  have HX := Lib.hid hx
  obtain ⟨B, hB⟩ : ∃ B, bits .and .u64 (x % 18446744073709551616 / 274877906944) 1 = B := ⟨_, rfl⟩
  have HB := Lib.hid hB
  clear hx
  go_enter Try.func35, Try.ntmps35
  go_wp2_with fail
  go_loop [3] (fun i => ∃ q : Nat, 39 ≤ q ∧ q ≤ 64 ∧ i = .int .i64 q ∧ Hid (Alike x (q - 38))) (fun i => 64 - (intOf i).toNat)
  case atStart => exact ⟨39, by omega, by omega, rfl, alike_one x⟩
  case round =>
    obtain ⟨q, hq0, hq, rfl, HA⟩ := hrel
    by_cases hlt : q < 64
    · obtain ⟨A, hA⟩ : ∃ A, bits .and .u64 (x % 18446744073709551616 / 2 ^ q) 1 = A := ⟨_, rfl⟩
      have HA1 := Lib.hid hA
      by_cases hab : A = B
      · have e0 : (A != B) = false := by simp [hab]
        have HAB := Lib.hid hab
        clear hab
        go_wp2
        go_round
        case rel =>
          refine ⟨q + 1, by omega, by omega, by go_num, ?_⟩
          obtain ⟨t, rfl⟩ : ∃ t, q = 38 + t := ⟨q - 38, by omega⟩
          have ht : 38 + t - 38 = t := by omega
          have ht1 : 38 + t + 1 - 38 = t + 1 := by omega
          rw [ht] at HA
          rw [ht1]
          refine (alike_step x t HA.out).2 ?_
          rw [← and_one_u64 _ (okU_div _ _ (okU_mod x)), ← and_one_u64 _ (okU_38 x), HA1.out, HAB.out]
          exact HB.out.symm
        case measure => simp [intOf]; omega
      · have e0 : (A != B) = true := by simp [hab]
        have hf : canonOf x = false := by
          cases hc : canonOf x with
          | false => rfl
          | true =>
            have := canon_bit x HX.out q (by omega) hlt hc
            rw [← and_one_u64 _ (okU_div _ _ (okU_mod x)), ← and_one_u64 _ (okU_38 x), hA] at this
            exact absurd (this.trans hB) hab
        have HF := Lib.hid hf
        clear hab hf
        go_wp2
        go_ret
        rw [HF.out]
        exact ⟨rfl, rfl⟩
    · obtain rfl : q = 64 := by omega
      have HF := Lib.hid (alike_all x HX.out HA.out)
      go_wp2
      go_ret
      rw [HF.out]
      exact ⟨rfl, rfl⟩
end Go.Proofs.Ytomkhdefjfjlnaa
