/- PteBack, walked: it answers true, and nothing that was there has turned. -/
import Derived.Test.YtkpbkmfogkkheaaPteLives
namespace Go.Proofs.Ytkpbkmfogkkheaa
open Go.ChangeShapes Go.WideShapes Go.RowKit
set_option linter.unusedVariables false

theorem strike_nat (hi mid lo : Nat) (hm : mid < 4) (hl : lo < 256) (hh : hi < 2 ^ 44) :
    (BitVec.ofNat 64 (2 ^ 10 * hi + (2 ^ 8 * mid + lo)) &&& ~~~ (BitVec.ofNat 64 768)).toNat = 2 ^ 10 * hi + lo := by
  apply Nat.eq_of_testBit_eq
  intro j
  have hx : 2 ^ 10 * hi + (2 ^ 8 * mid + lo) < 2 ^ 64 := by omega
  have hy : 2 ^ 10 * hi + lo < 2 ^ 64 := by omega
  rw [← BitVec.getLsbD, BitVec.getLsbD_and, BitVec.getLsbD_not, BitVec.getLsbD_ofNat, BitVec.getLsbD_ofNat]
  rw [Nat.testBit_two_pow_mul_add hi (by omega : 2 ^ 8 * mid + lo < 2 ^ 10), Nat.testBit_two_pow_mul_add hi (by omega : lo < 2 ^ 10)]
  by_cases h64 : j < 64
  · by_cases h10 : j < 10
    · rw [if_pos h10, if_pos h10, Nat.testBit_two_pow_mul_add mid (by omega : lo < 2 ^ 8)]
      by_cases h8 : j < 8
      · rw [if_pos h8]
        have : Nat.testBit 768 j = false := by
          have h : ∀ j : Fin 8, Nat.testBit 768 j.val = false := by decide
          exact h ⟨j, h8⟩
        simp [h64, this]
      · rw [if_neg h8]
        have h7 : lo.testBit j = false := Nat.testBit_lt_two_pow (Nat.lt_of_lt_of_le (show lo < 2 ^ 8 by omega) (Nat.pow_le_pow_right (by decide) (by omega)))
        have : Nat.testBit 768 j = true := by
          have : j = 8 ∨ j = 9 := by omega
          rcases this with rfl | rfl <;> decide
        simp [h64, this, h7]
    · rw [if_neg h10, if_neg h10]
      have : Nat.testBit 768 j = false := Nat.testBit_lt_two_pow (Nat.lt_of_lt_of_le (show 768 < 2 ^ 10 by omega) (Nat.pow_le_pow_right (by decide) (by omega)))
      simp [h64, this]
  · have h : hi.testBit (j - 10) = false := Nat.testBit_lt_two_pow (Nat.lt_of_lt_of_le hh (Nat.pow_le_pow_right (by decide) (by omega)))
    rw [if_neg (by omega), if_neg (by omega), h]
    simp

theorem strike (v : Int) (hv : okU v) : bits .andNot .u64 (bits .and .u64 v 18014398509481983) 768 = encOf (flagOf v) (ppnOf v) := by
  have h0 := hv.1
  have h1 := hv.2
  have e1 : bits .and .u64 v 18014398509481983 = v % 18014398509481984 := and_mask_u64 v 54 hv (by decide)
  rw [e1]
  obtain ⟨n, rfl⟩ := Int.eq_ofNat_of_zero_le h0
  have e2 : ((n : Int) % 18014398509481984) = ((2 ^ 10 * (n / 1024 % 17592186044416) + (2 ^ 8 * (n / 256 % 4) + n % 256) : Nat) : Int) := by omega
  have e3 := strike_nat (n / 1024 % 17592186044416) (n / 256 % 4) (n % 256) (by omega) (by omega) (by omega)
  rw [e2]
  show IntKind.u64.wrap ((BitVec.ofInt 64 ((2 ^ 10 * (n / 1024 % 17592186044416) + (2 ^ 8 * (n / 256 % 4) + n % 256) : Nat) : Int) &&& ~~~ BitVec.ofInt 64 ((768 : Nat) : Int)).toNat : Nat) = _
  rw [BitVec.ofInt_natCast, BitVec.ofInt_natCast, e3, IntKind.wrap_u64]
  unfold encOf flagOf ppnOf
  omega

theorem back_flag (F P : Int) (hF : 0 ≤ F ∧ F < 256) (hP : 0 ≤ P ∧ P < 17592186044416) : flagOf (encOf F P) = F := by unfold flagOf encOf; omega
theorem back_ppn (F P : Int) (hF : 0 ≤ F ∧ F < 256) (hP : 0 ≤ P ∧ P < 17592186044416) : ppnOf (encOf F P) = P := by unfold ppnOf encOf; omega
theorem okU_enc (F P : Int) : okU (encOf F P) := by unfold encOf; exact ⟨by omega, by omega⟩

set_option maxRecDepth 100000 in
set_option maxHeartbeats 4000000 in
theorem back_walk (w : World) (f p v : Int) (hf : okU f) (hp : okU p) (hv : okU v) :
    Calls Try.prog 6 #[.int .u64 f, .int .u64 p, .int .u64 v] w fun e w' => e = .returned (.bool true) ∧ Below w.heap.size w w' := by
  obtain ⟨f0, f1⟩ := hf
  obtain ⟨p0, p1⟩ := hp
  have HS := Lib.hid (strike v hv)
  have F0 : 0 ≤ f % 256 ∧ f % 256 < 256 := by omega
  have P0 : 0 ≤ p % 17592186044416 ∧ p % 17592186044416 < 17592186044416 := by omega
  have HE := Lib.hid (encode_ok (f % 256) (p % 17592186044416))
  have HD0 := decode_ok (encOf (f % 256) (p % 17592186044416)) (okU_enc _ _)
  rw [back_flag _ _ F0 P0, back_ppn _ _ F0 P0] at HD0
  have HD := Lib.hid HD0
  have HDv := Lib.hid (decode_ok v hv)
  have HEv := Lib.hid (encode_ok (flagOf v) (ppnOf v))
  have HN := Lib.hid (EntAt.new w (f % 256) (p % 17592186044416) 23)
  have HZ := Lib.hid ((Below.refl _ w).alloc (Nat.le_refl _) (.cells #[.int .i64 (f % 256), .int .i64 (p % 17592186044416)] 23)).drew
  have hs := HS.out
  clear HD0 hv F0 P0
  generalize encOf (flagOf v) (ppnOf v) = ev at *
  generalize flagOf v = A at *
  generalize ppnOf v = B at *
  generalize encOf (f % 256) (p % 17592186044416) = E at *
  go_enter Try.func6, Try.ntmps6
  go_wp2_with fail
  generalize f % 256 = F at *
  generalize p % 17592186044416 = P at *
  have hk : (w.alloc (.cells #[.int .i64 F, .int .i64 P] 23)).drew.cell? ⟨w.heap.size, 0, none⟩ = some (.int .i64 F) ∧ (w.alloc (.cells #[.int .i64 F, .int .i64 P] 23)).drew.cell? ⟨w.heap.size, 1, none⟩ = some (.int .i64 P) := ⟨HN.out.flags, HN.out.ppn⟩
  go_region_held3 (fun w' => w'.cell? ⟨w.heap.size, 0, none⟩ = some (.int .i64 F) ∧ w'.cell? ⟨w.heap.size, 1, none⟩ = some (.int .i64 P)) (exact hk)
    (first
      | (go_at_call 12; with_reducible refine ((HE.out _).mono ?_); rintro e w5 ⟨rfl, h5⟩; replace hk := past2 hk h5; replace HZ := Lib.hid (HZ.out.trans (h5.mono HZ.out.size)); clear h5)
      | (go_at_call 11; with_reducible refine ((HD.out _).mono ?_); rintro e w5 ⟨rfl, h5⟩; replace hk := past2 hk h5; replace HZ := Lib.hid (HZ.out.trans (h5.mono HZ.out.size)); clear h5))
  all_goals
    go_wp2_with fail
    refine (HDv.out _).mono ?_
    rintro e w6 ⟨rfl, h6⟩
    replace HZ := Lib.hid (HZ.out.trans (h6.mono HZ.out.size))
    clear h6
    go_wp2_with fail
    refine (HEv.out _).mono ?_
    rintro e w7 ⟨rfl, h7⟩
    replace HZ := Lib.hid (HZ.out.trans (h7.mono HZ.out.size))
    clear h7
    go_wp2_with fail
    refine (lives_ok _).mono ?_
    rintro e w8 ⟨rfl, h8⟩
    replace HZ := Lib.hid (HZ.out.trans (h8.mono HZ.out.size))
    clear h8
    go_wp2_with fail
    go_ret
    exact ⟨rfl, HZ.out⟩
end Go.Proofs.Ytkpbkmfogkkheaa
