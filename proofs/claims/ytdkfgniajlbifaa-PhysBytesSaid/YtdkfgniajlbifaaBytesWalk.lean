/- PhysBytes answers true, whatever the bytes, the place and the byte, and changes nothing that was there. -/
import Derived.Test.YtdkfgniajlbifaaBytesEq
import Derived.Test.YtdkfgniajlbifaaActs
namespace Go.Proofs.Ytdkfgniajlbifaa
open Go.ChangeShapes Go.WideShapes Go.ChangeAt Go.RowKit
open Extern.Stop (cell)
set_option linter.unusedVariables false

set_option maxHeartbeats 1000000 in
set_option maxRecDepth 100000 in
theorem bytes_walk0 (w : World) (s0 : Option Addr) (l0 c0 : Nat) (b0 : List UInt8) (S0 : Src w s0 l0 b0) (i : Nat) (x : Int) (hx0 : 0 ≤ x) (hx1 : x < 256) :
    Calls Try.prog 9 #[.slice s0 l0 c0, .int .u64 i, .int .u8 x] w fun e w' => e = .returned (.bool true) ∧ Below w.heap.size w w' := by
  have HS0 := Lib.hid S0
  have HX0 := Lib.hid hx0
  have HX1 := Lib.hid hx1
  clear S0
  by_cases hbig : 5000 < l0
  · have d0 : decide ((l0 : Int) > 5000) = true := by simp; omega
    clear hbig
    go_enter Try.func9, Try.ntmps9
    go_wp2_with fail
    refine (newE w (Below.refl _ _) _ 2 rfl (by omega) (by omega)).mono ?_
    rintro e w1 ⟨rfl, h1, -⟩
    have H1 := Lib.hid h1
    clear h1
    go_wp2_with fail
    refine (livesE H1.out).mono ?_
    rintro e w2 ⟨rfl, h2, -⟩
    have H2 := Lib.hid h2
    clear h2
    go_wp2_with fail
    go_ret
    exact ⟨rfl, H2.out.below⟩
  · have d0 : decide ((l0 : Int) > 5000) = false := by simp; omega
    clear hbig
    obtain ⟨k, hk⟩ : ∃ k, k = i % 4096 := ⟨_, rfl⟩
    have hik : (i : Int) % 4096 = (k : Int) := by omega
    have hk4 : k < 4096 := by omega
    clear hk
    go_enter Try.func9, Try.ntmps9
    go_wp2_with fail
    refine (newE w (Below.refl _ _) _ 2 rfl (by omega) (by omega)).mono ?_
    rintro e w1 ⟨rfl, h1, -⟩
    have hmd : w.heap.size + 1 ≠ w.heap.size := by omega
    generalize w.heap.size + 1 = m at *
    have HL0 : Hid ((List.replicate (2 * 4096) (0 : UInt8)).length = 2 * 4096) := List.length_replicate
    generalize List.replicate (2 * 4096) (0 : UInt8) = L0 at *
    have H1 := Lib.hid h1
    clear h1
    go_wp2_with fail
    refine (fillE H1.out _ 1 rfl (by omega) s0 l0 c0 b0 (HS0.out.below H1.out.below)).mono ?_
    rintro e w2 ⟨rfl, h2, -⟩
    have HL2 := Lib.hid h2.len
    generalize splice L0 (1 * 4096) (fillOf b0) = L2 at *
    have H2 := Lib.hid h2
    clear h2
    go_wp2_with fail
    refine (pageE H2.out _ 1 rfl (by omega)).mono ?_
    rintro e w3 ⟨rfl, h3, -, hpage⟩
    have hgm := H2.out.mlt
    have hgd := H2.out.dlt
    have hgw := H2.out.below.size
    generalize w2.heap.size = g at *
    have HG := Lib.hid hpage
    have H3 := Lib.hid h3
    clear h3 hpage
    go_wp2_with fail
    refine (setByteE H3.out _ _ 1 k _ rfl (by omega) (by omega) (by omega) HX0.out HX1.out).mono ?_
    rintro e w4 ⟨rfl, h4, hG4⟩
    have hg4 := blk_kept HG.out hG4 (by simp; omega)
    have HP : Hid (pageOf (splice L2 (1 * 4096 + k) [b8 x]) 1 = splice (pageOf L2 1) k [b8 x]) := pageOf_splice_same HL2.out (by omega) (by simp; omega)
    generalize splice L2 (1 * 4096 + k) [b8 x] = L4 at *
    have HG4 := Lib.hid hg4
    have H4 := Lib.hid h4
    clear h4 hG4 hg4
    go_wp2_with fail
    refine (setByteOutE H4.out _ _ _ 1 rfl (by omega) (by omega)).mono ?_
    rintro e w5 ⟨rfl, rfl⟩
    go_wp2_with fail
    refine (setByteNoE H4.out _ _ _ (by omega)).mono ?_
    rintro e w5 ⟨rfl, rfl⟩
    have hplen := pageOf_length HL2.out 1 (by omega)
    have hc := cell_of_bytes HG4.out k (by rw [hplen]; omega)
    have hf := frozen_of_row w4 g k _ _ HG4.out
    have HR := Lib.hid (row_set HG4.out k x (by rw [hplen]; omega) HX0.out HX1.out)
    have HN := Lib.hid (H4.out.grow' (grown_setCells w4 g k [.int .u8 x]) (by omega) (by omega) (by omega))
    generalize ((pageOf L2 1).getD k 0).toNat = y at *
    have HPL := Lib.hid hplen
    clear hplen
    go_wp2_with fail
    have HN2 := Lib.hid (show St w (w4.setCell ⟨g, k, none⟩ (.int .u8 x)) m w.heap.size 2 L4 from HN.out)
    clear HN
    generalize w4.setCell ⟨g, k, none⟩ (.int .u8 x) = w5 at *
    refine (pageE HN2.out _ 1 rfl (by omega)).mono ?_
    rintro e w6 ⟨rfl, h6, hG6, hpage6⟩
    rw [HP.out] at hpage6
    have hg6 := blk_kept HR.out hG6 (by simp)
    have HA := Lib.hid (Src.of_block hpage6)
    have HB := Lib.hid (Src.of_block hg6)
    have HL := Lib.hid (show (splice (pageOf L2 1) k [b8 x]).length = 4096 by rw [length_splice _ _ _ (by simp; rw [HPL.out]; omega), HPL.out])
    rw [HL.out] at HA HB
    have H6 := Lib.hid h6
    clear h6 hG6 hpage6 hg6
    go_wp2_with fail
    refine (bytesEq HA.out HB.out _ _ true (by simp)).mono ?_
    rintro e w7 ⟨rfl, rfl⟩
    go_wp2_with fail
    refine (livesE H6.out).mono ?_
    rintro e w8 ⟨rfl, h8, -⟩
    have H8 := Lib.hid h8
    clear h8
    go_wp2_with fail
    go_ret
    exact ⟨rfl, H8.out.below⟩

theorem bytes_walk (w : World) (s0 : Option Addr) (l0 c0 : Nat) (b0 : List UInt8) (S0 : Src w s0 l0 b0) (i : Int) (wi : (Lit.int .u64 i).wf = true) (x : Int) (wx : (Lit.int .u8 x).wf = true) :
    Calls Try.prog 9 #[.slice s0 l0 c0, .int .u64 i, .int .u8 x] w fun e w' => e = .returned (.bool true) ∧ Below w.heap.size w w' := by
  have hi := u64_of_wf wi
  have hx := byte_of_wf wx
  obtain ⟨a, rfl⟩ := Int.eq_ofNat_of_zero_le hi.1
  exact bytes_walk0 w s0 l0 c0 b0 S0 a x hx.1 hx.2
end Go.Proofs.Ytdkfgniajlbifaa
