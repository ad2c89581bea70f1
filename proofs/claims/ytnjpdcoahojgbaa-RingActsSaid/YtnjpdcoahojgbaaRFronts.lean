/- The law on what is put to the front, walked: it answers true, and nothing that was there has turned. -/
import Derived.Test.YtnjpdcoahojgbaaRLaws
namespace Go.Proofs.Ytnjpdcoahojgbaa.RInt
open Go.ChangeShapes Go.WideShapes Go.ChangeAt Go.RowKit
set_option linter.unusedVariables false

theorem u64_of_wf {x : Int} (h : (Lit.int .u64 x).wf = true) : 0 ≤ x ∧ x < 18446744073709551616 := by
  simp [Lit.wf, IntKind.min, IntKind.max, IntKind.signed, IntKind.bits] at h
  omega

theorem rem_nat {x : Int} (h : (Lit.int .u64 x).wf = true) (c : Nat) (hc : 0 < c) (hc2 : c ≤ 10000) : ∃ m : Nat, m < c ∧ wrap64 (x.tmod (c : Int)) = m := by
  have hb := u64_of_wf h
  have e1 : x.tmod (c : Int) = x % (c : Int) := Int.tmod_eq_emod_of_nonneg hb.1
  have h0 := Int.emod_nonneg x (b := (c : Int)) (by omega)
  have h1 := Int.emod_lt_of_pos x (b := (c : Int)) (by omega)
  refine ⟨(x % (c : Int)).toNat, by omega, ?_⟩
  rw [e1, Int.toNat_of_nonneg h0]
  unfold wrap64
  omega

theorem fronts_walk (w : World) (n : Int) (hn : (Lit.int .u64 n).wf = true) (k : Int) (hk : (Lit.int .u64 k).wf = true) :
    Calls Try.prog 9 #[.int .u64 n, .int .u64 k] w fun e w' => e = .returned (.bool true) ∧ Below w.heap.size w w' := by
  obtain ⟨m, hm, em⟩ := rem_nat hn 50 (by omega) (by omega)
  obtain ⟨t, ht, et⟩ := rem_nat hk 60 (by omega) (by omega)
  have EM := Lib.hid em
  have ET := Lib.hid et
  clear em et hn hk
  go_enter Try.func9, Try.ntmps9
  go_wp2_with fail
  refine (Live.start (w0 := w) 1 (by omega) (by omega)).mono ?_
  rintro e w1 ⟨b, rfl, h1⟩
  have H1 := Lib.hid h1
  clear h1
  go_wp2_with fail
  have em : wrap64 (n.tmod 50) = (m : Int) := EM.out
  simp only [em]
  clear em
  go_loopw [7] (fun i wr => ∃ j : Nat, j ≤ m ∧ i = .int .i64 j ∧ Hid (Live w wr b [fronted j])) (fun i _ => m - (intOf i).toNat)
  case atStart => exact ⟨0, by omega, rfl, H1⟩
  case round =>
    obtain ⟨j, hj, rfl, HL⟩ := hrel
    by_cases hlt : j < m
    · go_wp2_with fail
      refine ((HL.out.front 0 (x := (j : Int)) (ok_of (by omega))).mono ?_)
      obtain ⟨f1, f2⟩ := front_step j (by omega)
      rw [decide_eq_true f1, f2]
      clear f1 f2
      rintro e w2 ⟨rfl, h2⟩
      have H2 := Lib.hid h2
      clear h2
      go_wp2
      go_roundw
      case rel => exact ⟨j + 1, by omega, by go_num, H2⟩
      case measure => simp [intOf]; omega
    · obtain rfl : m = j := by omega
      rw [turned_start] at HL
      clear hj
      go_wp2_with fail
      have et : wrap64 (k.tmod 60) = (t : Int) := ET.out
      simp only [et]
      clear et
      go_loopw [9] (fun i wr => ∃ j : Nat, j ≤ t ∧ i = .int .i64 j ∧ Hid (Live w wr b [turned m j 0])) (fun i _ => t - (intOf i).toNat)
      case atStart => exact ⟨0, by omega, rfl, HL⟩
      case round =>
        obtain ⟨j, hj, rfl, HT⟩ := hrel
        by_cases hlt : j < t
        · go_wp2_with fail
          refine ((HT.out.turn 0).mono ?_)
          rw [row_one]
          rintro e w2 ⟨rfl, h2⟩
          rw [turn_step m j] at h2
          rw [turned_empty]
          have H2 := Lib.hid h2
          clear h2
          go_wp2
          go_roundw
          case rel => exact ⟨j + 1, by omega, by go_num, H2⟩
          case measure => simp [intOf]; omega
        · obtain rfl : t = j := by omega
          clear hj
          go_wp2_with fail
          go_loopw [10] (fun i wr => ∃ j : Nat, j ≤ m ∧ i = .int .i64 j ∧ Hid (Live w wr b [turned m t j])) (fun i _ => m - (intOf i).toNat)
          case atStart => exact ⟨0, by omega, rfl, HT⟩
          case round =>
            obtain ⟨j, hj, rfl, HS⟩ := hrel
            by_cases hlt : j < m
            · go_wp2_with fail
              refine ((HS.out.shift 0).mono ?_)
              rw [row_one, turned_cons m t j hlt]
              unfold firstV
              simp only
              rintro e w2 ⟨rfl, h2⟩
              rw [← turned_cons m t j hlt, shift_step m t j hlt] at h2
              have H2 := Lib.hid h2
              clear h2
              have hr0 : 0 ≤ ((t : Int) + (j : Int)) % (m : Int) := Int.emod_nonneg _ (by omega)
              have hr1 : ((t : Int) + (j : Int)) % (m : Int) < (m : Int) := Int.emod_lt_of_pos _ (by omega)
              go_wp2
              go_roundw
              case rel => exact ⟨j + 1, by omega, by go_num, H2⟩
              case measure => simp [intOf]; omega
            · obtain rfl : m = j := by omega
              clear hj
              go_wp2_with fail
              refine ((HS.out.len 0).mono ?_)
              rintro e w2 ⟨rfl, rfl⟩
              have el : (rowS 0 [turned m t m]).length = 0 := by rw [row_one]; simp [turned]
              rw [el]
              clear el
              go_wp2_with fail
              refine ((lives_ok _).mono ?_)
              rintro e w3 ⟨rfl, hb⟩
              have HB := Lib.hid hb
              clear hb
              go_wp2
              go_ret
              exact ⟨rfl, HS.out.below.trans (HB.out.mono HS.out.below.size)⟩
end Go.Proofs.Ytnjpdcoahojgbaa.RInt
