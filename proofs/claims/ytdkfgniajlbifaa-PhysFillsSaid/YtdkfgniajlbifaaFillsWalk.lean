/- PhysFills answers true, whatever the bytes, and changes nothing that was there. -/
import Derived.Test.YtdkfgniajlbifaaPhysE
namespace Go.Proofs.Ytdkfgniajlbifaa
open Go.ChangeShapes Go.WideShapes Go.ChangeAt Go.RowKit
open Extern.Stop (cell)
set_option linter.unusedVariables false

set_option maxHeartbeats 1000000 in
set_option maxRecDepth 100000 in
theorem fills_walk (w : World) (s0 : Option Addr) (l0 c0 : Nat) (b0 : List UInt8) (S0 : Src w s0 l0 b0) (s1 : Option Addr) (l1 c1 : Nat) (b1 : List UInt8) (S1 : Src w s1 l1 b1) :
    Calls Try.prog 8 #[.slice s0 l0 c0, .slice s1 l1 c1] w fun e w' => e = .returned (.bool true) ∧ Below w.heap.size w w' := by
  have HS0 := Lib.hid S0
  have HS1 := Lib.hid S1
  clear S0 S1
  by_cases hbig : 5000 < l0 ∨ 5000 < l1
  · have big : ∀ (d0 : decide ((l0 : Int) > 5000) = true ∨ (decide ((l0 : Int) > 5000) = false ∧ decide ((l1 : Int) > 5000) = true)), Calls Try.prog 8 #[.slice s0 l0 c0, .slice s1 l1 c1] w fun e w' => e = .returned (.bool true) ∧ Below w.heap.size w w' := by
      rintro (d0 | ⟨d0, d1⟩)
      all_goals
        clear hbig
        go_enter Try.func8, Try.ntmps8
        go_wp2_with fail
        refine (newE w (Below.refl _ _) _ 1 rfl (by omega) (by omega)).mono ?_
        rintro e w1 ⟨rfl, h1, -⟩
        have H1 := Lib.hid h1
        clear h1
        go_wp2_with fail
        refine (livesE H1.out).mono ?_
        rintro e w2 ⟨rfl, h2, -⟩
        have H2 := Lib.hid h2
        clear h2
        go_wp2_with fail
        go_ret
        exact ⟨rfl, H2.out.below⟩
    exact big (by
      by_cases h : 5000 < l0
      · exact .inl (by simp; omega)
      · exact .inr ⟨by simp; omega, by simp; omega⟩)
  · have d0 : decide ((l0 : Int) > 5000) = false := by simp; omega
    have d1 : decide ((l1 : Int) > 5000) = false := by simp; omega
    have hl1 : l1 ≤ 5000 := by omega
    clear hbig
    go_enter Try.func8, Try.ntmps8
    go_wp2_with fail
    refine (newE w (Below.refl _ _) _ 1 rfl (by omega) (by omega)).mono ?_
    rintro e w1 ⟨rfl, h1, -⟩
    generalize w.heap.size + 1 = m at *
    have HL0 : Hid ((List.replicate (1 * 4096) (0 : UInt8)).length = 1 * 4096) := List.length_replicate
    generalize List.replicate (1 * 4096) (0 : UInt8) = L0 at *
    have H1 := Lib.hid h1
    clear h1
    go_wp2_with fail
    refine (fillE H1.out _ 0 rfl (by omega) s0 l0 c0 b0 (HS0.out.below H1.out.below)).mono ?_
    rintro e w2 ⟨rfl, h2, -⟩
    have HL2 := Lib.hid h2.len
    generalize splice L0 (0 * 4096) (fillOf b0) = L2 at *
    have H2 := Lib.hid h2
    clear h2
    go_wp2_with fail
    refine (fillE H2.out _ 0 rfl (by omega) s1 l1 c1 b1 (HS1.out.below H2.out.below)).mono ?_
    rintro e w3 ⟨rfl, h3, -⟩
    have HP : Hid (pageOf (splice L2 (0 * 4096) (fillOf b1)) 0 = fillOf b1) := pageOf_whole HL2.out (by omega) (fillOf_length _)
    generalize splice L2 (0 * 4096) (fillOf b1) = L3 at *
    have H3 := Lib.hid h3
    clear h3
    go_wp2_with fail
    refine (pageE H3.out _ 0 rfl (by omega)).mono ?_
    rintro e w4 ⟨rfl, h4, -, hpage⟩
    rw [HP.out] at hpage
    generalize w3.heap.size = g at *
    have HG := Lib.hid hpage
    have H4 := Lib.hid h4
    clear h4 hpage
    go_wp2_with fail
    go_loop [44] (fun k => ∃ q : Nat, q ≤ 4096 ∧ k = .int .i64 q) (fun k => 4096 - (intOf k).toNat)
    case atStart => exact ⟨0, by omega, rfl⟩
    case round =>
      obtain ⟨q, hq, rfl⟩ := hrel
      by_cases hlt : q < 4096
      · have hc := cell_of_bytes HG.out q (by rw [fillOf_length]; exact hlt)
        by_cases hin : q < l1
        · rw [fillOf_getD_in b1 q (by rw [HS1.out.1]; exact hin) hlt] at hc
          obtain ⟨g1, o1, rfl, hc1⟩ := (HS1.out.below H4.out.below).cell q hin
          generalize ((b1.getD q 0).toNat : Int) = x at *
          go_wp2_with fail
          go_round
          case rel => exact ⟨q + 1, by omega, by go_num⟩
          case measure => simp [intOf]; omega
        · rw [fillOf_getD_out b1 q (by rw [HS1.out.1]; omega)] at hc
          have hc0 : w4.cell? ⟨g, q, none⟩ = some (.int .u8 0) := hc
          have hout : l1 ≤ q := by omega
          clear hc
          go_wp2_with fail
          go_round
          case rel => exact ⟨q + 1, by omega, by go_num⟩
          case measure => simp [intOf]; omega
      · go_wp2_with fail
        refine (livesE H4.out).mono ?_
        rintro e w5 ⟨rfl, h5, -⟩
        have H5 := Lib.hid h5
        clear h5
        go_wp2_with fail
        go_ret
        exact ⟨rfl, H5.out.below⟩
end Go.Proofs.Ytdkfgniajlbifaa
