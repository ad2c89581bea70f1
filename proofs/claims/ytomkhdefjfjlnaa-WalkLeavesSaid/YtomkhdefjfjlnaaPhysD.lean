/- Calls of package phys: Fill, Same, New. -/
import Derived.Test.YtomkhdefjfjlnaaPhysC
import Derived.OwnWalk
import Derived.Laws.MakeOwn
namespace Go.Proofs.Ytomkhdefjfjlnaa
open Go.ChangeShapes Go.WideShapes Go.ChangeAt Go.RowKit
open Extern.Stop (cell)
set_option linter.unusedVariables false

theorem info_frame : (Try.prog.info? 102).map (fun i => (i.zero, i.size, i.bytes)) = some (some (.agg (zeroPage.map cell).toArray), 4096, 4096) := by kernel_rfl

theorem zeroPage_get : ∀ i (h : i < zeroPage.length), zeroPage[i] = 0 := by
  unfold zeroPage
  intro i h
  exact List.getElem_replicate h

theorem made_zero (N : Nat) : madeCells (zeroPage.map cell).toArray N = ((List.replicate N (0 : UInt8)).map cell).toArray := by
  have hl := zeroPage_length
  have hg := zeroPage_get
  generalize zeroPage = Z at *
  apply Array.ext
  · simp [madeCells]
  · intro i h1 h2
    have hlt : i % (Z.map cell).toArray.size < (Z.map cell).toArray.size := Nat.mod_lt _ (by rw [List.size_toArray, List.length_map, hl]; omega)
    simp only [madeCells, Array.getElem_map, Array.getElem_range]
    rw [getElem!_pos (Z.map cell).toArray _ hlt]
    simp [hg]

theorem new_ok (n : Nat) (w : World) (h1 : 1 ≤ n) (h2 : n ≤ 256) :
    Calls Try.prog 26 #[.int .i64 n] w fun e w' =>
      e = .returned (.pointer (some ⟨w.heap.size + 1, 0, none⟩)) ∧ Mem w' (w.heap.size + 1) w.heap.size n (List.replicate (n * 4096) 0) ∧ w.grownBy w' none ∧ w'.heap.size = w.heap.size + 2 := by
  have hmk : (Instr.makeSlice 106 (.int .i64 (n : Int)) (.int .i64 (n : Int))).run Try.prog w = .ok (.slice (some ⟨w.heap.size, 0, none⟩) n n) (w.alloc (.cells ((List.replicate (n * 4096) (0 : UInt8)).map cell).toArray 102)) := by
    obtain ⟨i0, hi, hz0, hz1, hz2⟩ := info_parts info_frame
    have hr := run_make (P := Try.prog) w 106 102 i0 _ Try.underlying106 hi hz0 .i64 .i64 (n : Int) (n : Int) (by omega) (by omega) (by rw [hz2]; omega) (by omega)
    rw [hr, Int.toNat_natCast, hz1]
    simp only [Value.cells]
    rw [made_zero]
  obtain ⟨X, hX⟩ : ∃ X, X = ((List.replicate (n * 4096) (0 : UInt8)).map cell).toArray := ⟨_, rfl⟩
  rw [← hX] at hmk
  have hd : decide ((n : Int) < 1) = false := by simp; omega
  have hd2 : decide ((n : Int) > 256) = false := by simp; omega
  have HX := Lib.hid hX
  clear hX
  go_enter Try.func26, Try.ntmps26
  go_wp2
  go_ret
  refine ⟨rfl, ⟨?_, ?_, by simp, by omega, h1, h2⟩, (World.grownBy_alloc w _ none |> grown_trans <| World.grownBy_alloc _ _ none), by simp⟩
  · have := heap_alloc_new (w.alloc (.cells X 102)) (.cells #[.slice (some ⟨w.heap.size, 0, none⟩) n n] 108)
    simpa using this
  · rw [← HX.out]
    exact heap_alloc2_old w _ _

theorem new_no (n : Int) (w : World) (h : ¬ (1 ≤ n ∧ n ≤ 256)) :
    Calls Try.prog 26 #[.int .i64 n] w fun e w' => e = .returned (.pointer none) ∧ w = w' := by
  by_cases h0 : n < 1
  · go_enter Try.func26, Try.ntmps26
    go_wp2
    go_ret
    exact ⟨rfl, rfl⟩
  · have hd : decide (n < 1) = false := by simpa using h0
    have hd2 : 256 < n := by omega
    clear h
    go_enter Try.func26, Try.ntmps26
    go_wp2
    go_ret
    exact ⟨rfl, rfl⟩
end Go.Proofs.Ytomkhdefjfjlnaa
