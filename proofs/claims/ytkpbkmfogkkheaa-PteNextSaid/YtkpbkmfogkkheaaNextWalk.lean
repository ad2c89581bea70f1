/- PteNext, walked: it answers true, and nothing that was there has turned. -/
import Derived.Test.YtkpbkmfogkkheaaPteLives
namespace Go.Proofs.Ytkpbkmfogkkheaa
open Go.ChangeShapes Go.WideShapes Go.RowKit
set_option linter.unusedVariables false

/-- What is carried to a level. -/
def carryOf (n : Int) : Nat → Int
  | 0 => 1
  | l + 1 => if indexOf n l + carryOf n l < 512 then 0 else carryOf n l

theorem carry_01 (n : Int) : ∀ l : Nat, carryOf n l = 0 ∨ carryOf n l = 1
  | 0 => .inr rfl
  | l + 1 => by
    unfold carryOf
    split
    · exact .inl rfl
    · exact carry_01 n l

theorem index_lt (n l : Int) : 0 ≤ indexOf n l ∧ indexOf n l < 512 := by
  unfold indexOf
  split
  · omega
  · split
    · omega
    · split <;> omega

theorem next_index (n : Int) (hn : 0 ≤ n) (l : Nat) (hl : l < 3) : indexOf (n + 1) l = (indexOf n l + carryOf n l) % 512 := by
  match l, hl with
  | 0, _ =>
    show (n + 1) % 512 = (n % 512 + 1) % 512
    omega
  | 1, _ =>
    show (n + 1) / 512 % 512 = (n / 512 % 512 + if n % 512 + 1 < 512 then 0 else 1) % 512
    split <;> omega
  | 2, _ =>
    show (n + 1) / 262144 % 512 = (n / 262144 % 512 + if n / 512 % 512 + (if n % 512 + 1 < 512 then 0 else 1) < 512 then 0 else if n % 512 + 1 < 512 then 0 else 1) % 512
    split <;> split <;> omega

theorem split_last (n : Int) (h0 : 0 ≤ n) (h1 : n < 67108863) : vpnOf (n * 4096 + 4095) = n ∧ byteOf (n * 4096 + 4095) = 4095 := by
  unfold vpnOf byteOf; omega
theorem split_first (n : Int) (h0 : 0 ≤ n) (h1 : n < 67108863) : vpnOf (n * 4096 + 4096) = n + 1 ∧ byteOf (n * 4096 + 4096) = 0 := by
  unfold vpnOf byteOf; omega

set_option maxHeartbeats 4000000 in
theorem next_walk (w : World) (v : Int) (hv : okU v) :
    Calls Try.prog 10 #[.int .u64 v] w fun e w' => e = .returned (.bool true) ∧ Below w.heap.size w w' := by
  obtain ⟨v0, v1⟩ := hv
  have n0 : 0 ≤ v % 67108863 := by omega
  have n1 : v % 67108863 < 67108863 := by omega
  have S1 := split_ok (v % 67108863 * 4096 + 4095)
  have S2 := split_ok (v % 67108863 * 4096 + 4096)
  rw [(split_last _ n0 n1).1, (split_last _ n0 n1).2] at S1
  rw [(split_first _ n0 n1).1, (split_first _ n0 n1).2] at S2
  have H1 := Lib.hid S1
  have H2 := Lib.hid S2
  clear S1 S2
  go_enter Try.func10, Try.ntmps10
  go_wp2_with fail
  generalize v % 67108863 = n at *
  refine (H1.out _).mono ?_
  rintro e w' ⟨rfl, k1, rfl⟩
  go_wp2_with fail
  refine (H2.out _).mono ?_
  rintro e w' ⟨rfl, k2, rfl⟩
  go_wp2_with fail
  go_loopw [8, 9] (fun c k wr => ∃ q : Nat, q ≤ 3 ∧ k = .int .i64 q ∧ c = .int .i64 (carryOf n q) ∧ Hid (Below w.heap.size w wr)) (fun _ k _ => 3 - (intOf k).toNat)
  case atStart => exact ⟨0, by omega, rfl, rfl, Below.drewK (Below.refl _ w) _⟩
  case round =>
    obtain ⟨q, hq, rfl, rfl, HB⟩ := hrel
    by_cases hlt : q < 3
    · have HI := Lib.hid (index_ok n q)
      have HK := Lib.hid (index_ok (n + 1) q)
      have hn := next_index n n0 q hlt
      rw [hn] at HK
      have i0 := (index_lt n q).1
      have i1 := (index_lt n q).2
      have c0 : 0 ≤ carryOf n q := by rcases carry_01 n q with e | e <;> omega
      have c1 : carryOf n q ≤ 1 := by rcases carry_01 n q with e | e <;> omega
      by_cases hs : indexOf n q + carryOf n q < 512
      · have HC := Lib.hid (show carryOf n (q + 1) = 0 by unfold carryOf; rw [if_pos hs])
        have d0 : decide (indexOf n q + carryOf n q < 512) = true := by simp [hs]
        clear hn
        generalize carryOf n q = c at *
        generalize indexOf n q = i at *
        go_wp2_with fail
        refine (HI.out _).mono ?_
        rintro e w' ⟨rfl, k3, rfl⟩
        go_wp2_with fail
        refine (HK.out _).mono ?_
        rintro e w' ⟨rfl, k4, rfl⟩
        go_wp2_with fail
        go_round
        case rel => exact ⟨q + 1, by omega, by go_num, by rw [HC.out], Below.drewK HB.out _⟩
        case measure => simp [intOf]; omega
      · have HC := Lib.hid (show carryOf n (q + 1) = carryOf n q by rw [show carryOf n (q + 1) = if indexOf n q + carryOf n q < 512 then 0 else carryOf n q from rfl, if_neg hs])
        have d0 : decide (indexOf n q + carryOf n q < 512) = false := by simp [hs]
        clear hn
        generalize carryOf n q = c at *
        generalize indexOf n q = i at *
        go_wp2_with fail
        refine (HI.out _).mono ?_
        rintro e w' ⟨rfl, k3, rfl⟩
        go_wp2_with fail
        refine (HK.out _).mono ?_
        rintro e w' ⟨rfl, k4, rfl⟩
        go_wp2_with fail
        go_round
        case rel => exact ⟨q + 1, by omega, by go_num, by rw [HC.out], Below.drewK HB.out _⟩
        case measure => simp [intOf]; omega
    · obtain rfl : q = 3 := by omega
      go_wp2_with fail
      refine (lives_ok _).mono ?_
      rintro e w8 ⟨rfl, h8⟩
      have HY := Lib.hid (HB.out.trans (h8.mono HB.out.size))
      clear h8
      go_wp2_with fail
      go_ret
      exact ⟨rfl, HY.out⟩
end Go.Proofs.Ytkpbkmfogkkheaa
