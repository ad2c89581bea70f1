/- Calls of package pte, and of the document's, on the parts of addresses. -/
import Derived.Test.YtomkhdefjfjlnaaPteC
namespace Go.Proofs.Ytomkhdefjfjlnaa
open Go.ChangeShapes Go.WideShapes Go.RowKit
set_option linter.unusedVariables false

theorem cut_12_27 (x : Int) : cutOf (x % 18446744073709551616) 12 27 = vpnOf x := by unfold cutOf vpnOf; simp; omega
theorem cut_0_12 (x : Int) : cutOf (x % 18446744073709551616) 0 12 = byteOf x := by unfold cutOf byteOf; simp
theorem cut_0_9 (x : Int) : cutOf (x % 18446744073709551616) 0 9 = x % 512 := by unfold cutOf; simp
theorem cut_9_9 (x : Int) : cutOf (x % 18446744073709551616) 9 9 = x / 512 % 512 := by unfold cutOf; simp; omega
theorem cut_18_9 (x : Int) : cutOf (x % 18446744073709551616) 18 9 = x / 262144 % 512 := by unfold cutOf; simp; omega

theorem vpn_lt (x : Int) : 0 ≤ vpnOf x ∧ vpnOf x < 134217728 := by unfold vpnOf; omega
theorem byte_lt (x : Int) : 0 ≤ byteOf x ∧ byteOf x < 4096 := by unfold byteOf; omega

theorem split_ok (x : Int) (w : World) :
    Calls Try.prog 31 #[.int .i64 x] w fun e w' => e = .returned (.tuple #[.int .i64 (vpnOf x), .int .i64 (byteOf x)]) ∧ ∃ k, w' = w.drewN k := by
  have hu : IntKind.u64.wrap x = x % 18446744073709551616 := IntKind.wrap_u64 x
  have C1 := cut_ok (x % 18446744073709551616) 12 27 12 27 (okU_mod x) (by decide) (by decide) rfl rfl
  have C2 := cut_ok (x % 18446744073709551616) 0 12 0 12 (okU_mod x) (by decide) (by decide) rfl rfl
  rw [cut_12_27] at C1
  rw [cut_0_12] at C2
  have H1 := Lib.hid C1
  have H2 := Lib.hid C2
  have v0 := (vpn_lt x).1
  have v1 := (vpn_lt x).2
  have v2 := (byte_lt x).1
  have v3 := (byte_lt x).2
  clear C1 C2
  go_enter Try.func31, Try.ntmps31
  go_wp2_with fail
  refine (H1.out _).mono ?_
  rintro e w' ⟨rfl, k, rfl⟩
  go_wp2_with fail
  refine (H2.out _).mono ?_
  rintro e w' ⟨rfl, k2, rfl⟩
  go_wp2_with fail
  go_ret2
  exact ⟨rfl, _, rfl⟩

theorem ref_split_ok (x : Int) (w : World) :
    Calls Try.prog 37 #[.int .i64 x] w fun e w' => e = .returned (.tuple #[.int .i64 (vpnOf x), .int .i64 (byteOf x)]) ∧ w = w' := by
  have hu : IntKind.u64.wrap x = x % 18446744073709551616 := IntKind.wrap_u64 x
  have C1 := low_ok (x % 18446744073709551616 / 4096) 27 27 ⟨by omega, by omega⟩ (by decide) rfl
  have C2 := low_ok (x % 18446744073709551616) 12 12 (okU_mod x) (by decide) rfl
  rw [show x % 18446744073709551616 / 4096 % 2 ^ 27 = vpnOf x by unfold vpnOf; omega] at C1
  rw [show x % 18446744073709551616 % 2 ^ 12 = byteOf x by unfold byteOf; omega] at C2
  have H1 := Lib.hid C1
  have H2 := Lib.hid C2
  have v0 := (vpn_lt x).1
  have v1 := (vpn_lt x).2
  have v2 := (byte_lt x).1
  have v3 := (byte_lt x).2
  clear C1 C2
  go_enter Try.func37, Try.ntmps37
  go_wp2_with fail
  refine (H1.out _).mono ?_
  rintro e w' ⟨rfl, rfl⟩
  go_wp2_with fail
  refine (H2.out _).mono ?_
  rintro e w' ⟨rfl, rfl⟩
  go_wp2_with fail
  go_ret2
  exact ⟨rfl, rfl⟩

theorem index_ok (x l : Int) (w : World) :
    Calls Try.prog 42 #[.int .i64 x, .int .i64 l] w fun e w' => e = .returned (.int .i64 (indexOf x l)) ∧ ∃ k, w' = w.drewN k := by
  have hu : IntKind.u64.wrap x = x % 18446744073709551616 := IntKind.wrap_u64 x
  have C1 := cut_ok (x % 18446744073709551616) 0 9 0 9 (okU_mod x) (by decide) (by decide) rfl rfl
  have C2 := cut_ok (x % 18446744073709551616) 9 9 9 9 (okU_mod x) (by decide) (by decide) rfl rfl
  have C3 := cut_ok (x % 18446744073709551616) 18 9 18 9 (okU_mod x) (by decide) (by decide) rfl rfl
  rw [cut_0_9] at C1
  rw [cut_9_9] at C2
  rw [cut_18_9] at C3
  have H1 := Lib.hid C1
  have H2 := Lib.hid C2
  have H3 := Lib.hid C3
  clear C1 C2 C3
  by_cases h0 : l = 0
  · subst h0
    go_enter Try.func42, Try.ntmps42
    go_wp2_with fail
    refine (H1.out _).mono ?_
    rintro e w' ⟨rfl, k, rfl⟩
    go_wp2_with fail
    go_ret
    exact ⟨rfl, _, rfl⟩
  · by_cases h1 : l = 1
    · subst h1
      go_enter Try.func42, Try.ntmps42
      go_wp2_with fail
      refine (H2.out _).mono ?_
      rintro e w' ⟨rfl, k, rfl⟩
      go_wp2_with fail
      go_ret
      exact ⟨rfl, _, rfl⟩
    · by_cases h2 : l = 2
      · subst h2
        go_enter Try.func42, Try.ntmps42
        go_wp2_with fail
        refine (H3.out _).mono ?_
        rintro e w' ⟨rfl, k, rfl⟩
        go_wp2_with fail
        go_ret
        exact ⟨rfl, _, rfl⟩
      · have e0 : (l == 0) = false := by simp [h0]
        have e1 : (l == 1) = false := by simp [h1]
        have e2 : (l == 2) = false := by simp [h2]
        have hI := Lib.hid (show indexOf x l = 0 by simp [indexOf, h0, h1, h2])
        clear h0 h1 h2
        go_enter Try.func42, Try.ntmps42
        go_wp2_with fail
        go_ret
        rw [hI.out]
        exact ⟨rfl, 0, rfl⟩

theorem ref_index_ok (x l : Int) (w : World) :
    Calls Try.prog 44 #[.int .i64 x, .int .i64 l] w fun e w' => e = .returned (.int .i64 (indexOf x l)) ∧ w = w' := by
  have hu : IntKind.u64.wrap x = x % 18446744073709551616 := IntKind.wrap_u64 x
  have C1 := low_ok (x % 18446744073709551616) 9 9 (okU_mod x) (by decide) rfl
  have C2 := low_ok (x % 18446744073709551616 / 512) 9 9 ⟨by omega, by omega⟩ (by decide) rfl
  have C3 := low_ok (x % 18446744073709551616 / 262144) 9 9 ⟨by omega, by omega⟩ (by decide) rfl
  rw [show x % 18446744073709551616 % 2 ^ 9 = x % 512 by omega] at C1
  rw [show x % 18446744073709551616 / 512 % 2 ^ 9 = x / 512 % 512 by omega] at C2
  rw [show x % 18446744073709551616 / 262144 % 2 ^ 9 = x / 262144 % 512 by omega] at C3
  have H1 := Lib.hid C1
  have H2 := Lib.hid C2
  have H3 := Lib.hid C3
  clear C1 C2 C3
  by_cases h0 : l = 0
  · subst h0
    go_enter Try.func44, Try.ntmps44
    go_wp2_with fail
    refine (H1.out _).mono ?_
    rintro e w' ⟨rfl, rfl⟩
    go_wp2_with fail
    go_ret
    exact ⟨rfl, rfl⟩
  · by_cases h1 : l = 1
    · subst h1
      go_enter Try.func44, Try.ntmps44
      go_wp2_with fail
      refine (H2.out _).mono ?_
      rintro e w' ⟨rfl, rfl⟩
      go_wp2_with fail
      go_ret
      exact ⟨rfl, rfl⟩
    · by_cases h2 : l = 2
      · subst h2
        go_enter Try.func44, Try.ntmps44
        go_wp2_with fail
        refine (H3.out _).mono ?_
        rintro e w' ⟨rfl, rfl⟩
        go_wp2_with fail
        go_ret
        exact ⟨rfl, rfl⟩
      · have hI := Lib.hid (show indexOf x l = 0 by simp [indexOf, h0, h1, h2])
        by_cases hn : l < 0
        · have e0 : decide (l < 0) = true := by simpa using hn
          clear h0 h1 h2
          go_enter Try.func44, Try.ntmps44
          go_wp2_with fail
          go_ret
          rw [hI.out]
          exact ⟨rfl, rfl⟩
        · have e0 : decide (l < 0) = false := by simpa using hn
          have e1 : decide (l > 2) = true := by simp; omega
          clear h0 h1 h2 hn
          go_enter Try.func44, Try.ntmps44
          go_wp2_with fail
          go_ret
          rw [hI.out]
          exact ⟨rfl, rfl⟩

theorem canonical_ok (x : Int) (w : World) :
    Calls Try.prog 29 #[.int .i64 x] w fun e w' => e = .returned (.bool (canonOf x)) ∧ w = w' := by
  by_cases h0 : x / 274877906944 = 0
  · have e0 : (x / 274877906944 == 0) = true := by simp [h0]
    have hC := Lib.hid (show canonOf x = true by simp [canonOf, h0])
    clear h0
    go_enter Try.func29, Try.ntmps29
    go_wp2_with fail
    go_ret
    rw [hC.out]
    exact ⟨rfl, rfl⟩
  · have e0 : (x / 274877906944 == 0) = false := by simp [h0]
    have hC := Lib.hid (show canonOf x = (x / 274877906944 == -1) by simp only [canonOf, h0, decide_false, Bool.false_or]; rfl)
    clear h0
    go_enter Try.func29, Try.ntmps29
    go_wp2_with fail
    go_ret
    rw [hC.out]
    exact ⟨rfl, rfl⟩
end Go.Proofs.Ytomkhdefjfjlnaa
