/- The document's examples of layer 1 are as it says: lives answers true, and changes nothing that was there. -/
import Derived.Test.YtdkfgniajlbifaaPhysD
namespace Go.Proofs.Ytdkfgniajlbifaa
open Go.ChangeShapes Go.WideShapes Go.ChangeAt Go.RowKit
open Extern.Stop (cell)
set_option linter.unusedVariables false

theorem getD_splice_in {L xs : List UInt8} {o j : Nat} (h : o + xs.length ≤ L.length) (h1 : o ≤ j) (h2 : j < o + xs.length) : (splice L o xs).getD j 0 = xs.getD (j - o) 0 := by
  simp only [List.getD]
  rw [get_splice L o xs h, if_neg (by omega), if_pos h2]

theorem lives_ok (w : World) : Calls Try.prog 11 #[] w fun e w' => e = .returned (.bool true) ∧ w.grownBy w' none := by
  have c1 : Calls Try.prog 12 #[.int .i64 2] w fun e w' => e = .returned (.pointer (some ⟨w.heap.size + 1, 0, none⟩)) ∧ Mem w' (w.heap.size + 1) w.heap.size 2 (List.replicate (2 * 4096) 0) ∧ w.grownBy w' none ∧ w'.heap.size = w.heap.size + 2 := new_ok 2 w (by omega) (by omega)
  have C1 := Lib.hid c1
  clear c1
  go_enter Try.func11, Try.ntmps11
  go_wp2_with fail
  refine C1.out.mono ?_
  rintro e w1 ⟨rfl, hM, hG, hz⟩
  have c2 : Calls Try.prog 28 #[.pointer (some ⟨w.heap.size + 1, 0, none⟩), .int .i64 0, .int .i64 1, .int .u64 258] w1 fun e w' => e = .returned (.bool true) ∧ w' = w1.setCells w.heap.size (0 * 4096 + 1 * 8) ((bytesOf 258).map cell) := setWord_ok hM 0 1 258 (by omega) (by omega) (by omega)
  have C2 := Lib.hid c2
  have HM := Lib.hid hM
  have HG := Lib.hid hG
  have HZ := Lib.hid hz
  clear c2 hM hG hz
  go_wp2_with fail
  refine C2.out.mono ?_
  rintro e w2 ⟨rfl, hw2⟩
  have hM2 := HM.out.stored (0 * 4096 + 1 * 8) (bytesOf 258) (by rw [bytesOf_length]; omega)
  have hG2 := grown_setCells w1 w.heap.size (0 * 4096 + 1 * 8) ((bytesOf 258).map cell)
  rw [← hw2] at hM2 hG2
  have hlen : 0 * 4096 + 1 * 8 + (bytesOf 258).length ≤ (List.replicate (2 * 4096) (0 : UInt8)).length := by rw [bytesOf_length, List.length_replicate]; omega
  have e8 : ((splice (List.replicate (2 * 4096) 0) (0 * 4096 + 1 * 8) (bytesOf 258)).getD (0 * 4096 + 8) 0).toNat = 2 := by
    rw [getD_splice_in hlen (by omega) (by rw [bytesOf_length]; omega)]; rfl
  have e9 : ((splice (List.replicate (2 * 4096) 0) (0 * 4096 + 1 * 8) (bytesOf 258)).getD (0 * 4096 + 9) 0).toNat = 1 := by
    rw [getD_splice_in hlen (by omega) (by rw [bytesOf_length]; omega)]; rfl
  have c3 := byte_ok hM2 0 8 (by omega) (by omega)
  rw [e8] at c3
  have c4 := byte_ok hM2 0 9 (by omega) (by omega)
  rw [e9] at c4
  have c5 := frames_ok hM2
  have C3 := Lib.hid (show Calls Try.prog 16 #[.pointer (some ⟨w.heap.size + 1, 0, none⟩), .int .i64 0, .int .i64 8] w2 fun e w' => e = .returned (.tuple #[.int .u8 2, .bool true]) ∧ w2 = w' from c3)
  have C4 := Lib.hid (show Calls Try.prog 16 #[.pointer (some ⟨w.heap.size + 1, 0, none⟩), .int .i64 0, .int .i64 9] w2 fun e w' => e = .returned (.tuple #[.int .u8 1, .bool true]) ∧ w2 = w' from c4)
  have C5 := Lib.hid (show Calls Try.prog 24 #[.pointer (some ⟨w.heap.size + 1, 0, none⟩)] w2 fun e w' => e = .returned (.int .i64 2) ∧ w2 = w' from c5)
  have HG2 := Lib.hid hG2
  clear c3 c4 c5 hM2 hG2 hw2 e8 e9 hlen
  go_wp2_with fail
  refine C3.out.mono ?_
  rintro e w' ⟨rfl, rfl⟩
  go_wp2_with fail
  refine C4.out.mono ?_
  rintro e w' ⟨rfl, rfl⟩
  go_wp2_with fail
  refine C5.out.mono ?_
  rintro e w' ⟨rfl, rfl⟩
  go_wp2_with fail
  go_ret
  refine ⟨rfl, ?_⟩
  have h1 := HG.out
  have h2 := HG2.out
  exact ⟨h2.os.trans h1.os, h2.tape.trans h1.tape, h2.output.trans h1.output, Nat.le_trans h1.size h2.size, fun k hk _ => (h2.block k (by have := HZ.out; omega) (by simp; omega)).trans (h1.block k hk (by simp))⟩
end Go.Proofs.Ytdkfgniajlbifaa
