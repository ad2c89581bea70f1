/- Calls of package phys at a memory that New made: bytes. -/
import Derived.Test.YtomkhdefjfjlnaaPhysNo
import Derived.Test.YtomkhdefjfjlnaaGen
namespace Go.Proofs.Ytomkhdefjfjlnaa
open Go.ChangeShapes Go.WideShapes Go.ChangeAt Go.RowKit
open Extern.Stop (cell)
set_option linter.unusedVariables false

/-- Block m is a Memory of n frames whose bytes, one frame behind the other, are L; they lie in block d. -/
structure Mem (w : World) (m d n : Nat) (L : List UInt8) : Prop where
  head : w.heap[m]? = some (.cells #[.slice (some ⟨d, 0, none⟩) n n] 108 (0, 0))
  body : w.heap[d]? = some (.cells (L.map cell).toArray 102 (0, 0))
  len : L.length = n * 4096
  ne : m ≠ d
  pos : 1 ≤ n
  le : n ≤ 256

theorem Mem.cellM {w : World} {m d n : Nat} {L : List UInt8} (h : Mem w m d n L) : w.cell? ⟨m, 0, none⟩ = some (.slice (some ⟨d, 0, none⟩) n n) := by
  rw [cell_of_row w m 0 _ _ (0, 0) h.head]; rfl

theorem Mem.kept {w w' : World} {m d n : Nat} {L : List UInt8} {r : Option Nat} (h : Mem w m d n L) (g : w.grownBy w' r) (hm : r ≠ some m) (hd : r ≠ some d) : Mem w' m d n L :=
  ⟨(g.block m (Array.getElem?_eq_some_iff.1 h.head).1 (Ne.symm hm)).trans h.head, (g.block d (Array.getElem?_eq_some_iff.1 h.body).1 (Ne.symm hd)).trans h.body, h.len, h.ne, h.pos, h.le⟩

theorem Mem.keptNone {w w' : World} {m d n : Nat} {L : List UInt8} (h : Mem w m d n L) (g : w.grownBy w' none) : Mem w' m d n L := h.kept g (by simp) (by simp)

theorem Mem.same {w w' : World} {m d n : Nat} {L : List UInt8} (h : Mem w m d n L) (e : w = w') : Mem w' m d n L := e ▸ h

/-- A stretch of a memory's bytes written over. -/
theorem Mem.stored {w : World} {m d n : Nat} {L : List UInt8} (h : Mem w m d n L) (o : Nat) (xs : List UInt8) (ho : o + xs.length ≤ n * 4096) : Mem (w.setCells d o (xs.map cell)) m d n (splice L o xs) := by
  have g := grown_setCells w d o (xs.map cell)
  refine ⟨(g.block m (Array.getElem?_eq_some_iff.1 h.head).1 (by simpa using h.ne)).trans h.head, ?_, ?_, h.ne, h.pos, h.le⟩
  · rw [heap_setCells (cs := L.map cell) (by simpa using h.body) (xs.map cell) (by simp; have := h.len; omega) (one_cells xs), map_splice]
  · rw [length_splice _ _ _ (by have := h.len; omega), h.len]

theorem frames_ok {w : World} {m d n : Nat} {L : List UInt8} (h : Mem w m d n L) :
    Calls Try.prog 55 #[.pointer (some ⟨m, 0, none⟩)] w fun e w' => e = .returned (.int .i64 n) ∧ w = w' := by
  have hm := h.cellM
  clear h
  go_enter Try.func55, Try.ntmps55
  go_wp2
  go_ret
  exact ⟨rfl, rfl⟩

theorem find_ok {w : World} {m d n : Nat} {L : List UInt8} (h : Mem w m d n L) (i : Nat) (hi : i < n) :
    Finds w (some ⟨m, 0, none⟩) i (some ⟨d, i * 4096, none⟩) := by
  have hm := h.cellM
  have hle := h.le
  have H := Lib.hid h
  clear h
  have hd : decide ((i : Int) < 0) = false := by simp
  have hd2 : decide ((i : Int) ≥ (n : Int)) = false := by simp; omega
  unfold Finds
  go_enter Try.func50, Try.ntmps50
  go_wp2_with (go_at_call 55; refine (frames_ok H.out).mono ?_; rintro e w' ⟨rfl, rfl⟩)
  go_ret
  exact ⟨rfl, rfl⟩

theorem find_out {w : World} {m d n : Nat} {L : List UInt8} (h : Mem w m d n L) (i : Int) (hi : ¬ (0 ≤ i ∧ i < n)) :
    NoFrame w (some ⟨m, 0, none⟩) i := by
  have H := Lib.hid h
  unfold NoFrame
  by_cases h0 : i < 0
  · clear h
    go_enter Try.func50, Try.ntmps50
    go_wp2_with (go_at_call 55; refine (frames_ok H.out).mono ?_; rintro e w' ⟨rfl, rfl⟩)
    go_ret
    exact ⟨rfl, rfl⟩
  · have hd : decide (i < 0) = false := by simpa using h0
    have hd2 : (n : Int) ≤ i := by omega
    clear h
    go_enter Try.func50, Try.ntmps50
    go_wp2_with (go_at_call 55; refine (frames_ok H.out).mono ?_; rintro e w' ⟨rfl, rfl⟩)
    go_ret
    exact ⟨rfl, rfl⟩

set_option maxRecDepth 100000 in
theorem findWord_ok {w : World} {m d n : Nat} {L : List UInt8} (h : Mem w m d n L) (i j : Nat) (hi : i < n) (hj : j < 512) :
    ∃ c : Nat, 8 ≤ c ∧ Calls Try.prog 53 #[.pointer (some ⟨m, 0, none⟩), .int .i64 i, .int .i64 j] w fun e w' => e = .returned (.slice (some ⟨d, i * 4096 + j * 8, none⟩) 8 c) ∧ w = w' := by
  have HF := Lib.hid (find_ok h i hi)
  have hd : decide ((j : Int) < 0) = false := by simp
  have hd2 : decide ((j : Int) ≥ 512) = false := by simp; omega
  have hs : ∀ W, (Instr.sliceAt 102 (.pointer (some ⟨d, i * 4096, none⟩)) (some (.int .i64 ((j : Int) * 8))) (some (.int .i64 (((j : Int) + 1) * 8))) none).run Try.prog W = .ok (.slice (some ⟨d, i * 4096 + j * 8, none⟩) 8 (4096 - j * 8)) W := by
    intro W
    rw [run_sliceAt_mid W 102 5 4096 Try.underlying102 (by kernel_rfl) d (i * 4096) _ _ (by omega) (by omega) (by omega)]
    have e1 : ((j : Int) * 8).toNat = j * 8 := by omega
    have e2 : (((j : Int) + 1) * 8).toNat = j * 8 + 8 := by omega
    rw [e1, e2, if_neg (by omega)]
    congr 2
    omega
  clear h
  refine ⟨4096 - j * 8, by omega, ?_⟩
  go_enter Try.func53, Try.ntmps53
  go_wp2_with (go_at_call 50; refine (Calls.mono HF.out ?_); rintro e w' ⟨rfl, rfl⟩)
  go_ret
  exact ⟨rfl, rfl⟩

theorem findWord_out {w : World} {m d n : Nat} {L : List UInt8} (h : Mem w m d n L) (i : Nat) (j : Int) (hi : i < n) (hj : ¬ (0 ≤ j ∧ j < 512)) : NoWord w (some ⟨m, 0, none⟩) i j := by
  have HF := Lib.hid (find_ok h i hi)
  clear h
  unfold NoWord
  by_cases h0 : j < 0
  · go_enter Try.func53, Try.ntmps53
    go_wp2_with (go_at_call 50; refine (Calls.mono HF.out ?_); rintro e w' ⟨rfl, rfl⟩)
    go_ret
    exact ⟨rfl, rfl⟩
  · have hd : decide (j < 0) = false := by simpa using h0
    have hd2 : 512 ≤ j := by omega
    clear hj
    go_enter Try.func53, Try.ntmps53
    go_wp2_with (go_at_call 50; refine (Calls.mono HF.out ?_); rintro e w' ⟨rfl, rfl⟩)
    go_ret
    exact ⟨rfl, rfl⟩
end Go.Proofs.Ytomkhdefjfjlnaa
