/- Calls of package phys at a memory that New made: whole frames. -/
import Derived.Test.YtomkhdefjfjlnaaPhysB
namespace Go.Proofs.Ytomkhdefjfjlnaa
open Go.ChangeShapes Go.WideShapes Go.ChangeAt Go.RowKit
open Extern.Stop (cell)
set_option linter.unusedVariables false

/-- A page of noughts. -/
def zeroPage : List UInt8 := List.replicate 4096 0
theorem zeroPage_length : zeroPage.length = 4096 := List.length_replicate
/-- One frame's bytes. -/
def pageOf (L : List UInt8) (i : Nat) : List UInt8 := (L.drop (i * 4096)).take 4096
theorem pageOf_length {L : List UInt8} {n : Nat} (hl : L.length = n * 4096) (i : Nat) (hi : i < n) : (pageOf L i).length = 4096 := by
  simp [pageOf]; omega

theorem info_page : (Try.prog.info? 102).map (·.size) = some 4096 := by kernel_rfl
theorem run_zero_page (W : World) : (zeroValue 102).run Try.prog W = .ok (.agg (zeroPage.map cell).toArray) W := by kernel_rfl

theorem one_cellsA (xs : List UInt8) : (xs.map cell).toArray.all (·.oneCell') = true := all_oneCell_toArray (one_cells xs)

theorem info_pageL {xs : List UInt8} (h : xs.length = 4096) : (Try.prog.info? 102).map (·.size) = some (xs.map cell).toArray.size := by rw [List.size_toArray, List.length_map, h]; exact info_page
theorem info_pageM {xs : List UInt8} (h : xs.length = 4096) : (Try.prog.info? 102).map (·.size) = some (xs.map cell).length := by rw [List.length_map, h]; exact info_page
theorem thereL {w : World} {d o : Nat} {xs : List UInt8} (h : w.there d o 4096) (hl : xs.length = 4096) : w.there d o (xs.map cell).toArray.size := by rw [List.size_toArray, List.length_map, hl]; exact h

theorem page_ok {w : World} {m d n : Nat} {L : List UInt8} (h : Mem w m d n L) (i : Nat) (hi : i < n) :
    Calls Try.prog 21 #[.pointer (some ⟨m, 0, none⟩), .int .i64 i] w fun e w' =>
      e = .returned (.slice (some ⟨w.heap.size, 0, none⟩) 4096 4096) ∧ w.grownBy w' none ∧ w'.heap.size = w.heap.size + 1 ∧ w'.heap[w.heap.size]? = some (.cells ((pageOf L i).map cell).toArray 102 (0, 0)) := by
  have HF := Lib.hid (find_ok h i hi)
  have hl := pageOf_length h.len i hi
  have HR := Lib.hid (range_of_bytes h.body (i * 4096) 4096 (by have := h.len; omega))
  have HS := Lib.hid (info_pageL hl)
  have HM := Lib.hid (info_pageM hl)
  clear h
  rw [show (L.drop (i * 4096)).take 4096 = pageOf L i from rfl] at HR
  generalize pageOf L i = xs at *
  have hz := run_zero_page
  have hnew : (w.alloc (.cells (zeroPage.map cell).toArray 102)).heap[w.heap.size]? = some (.cells (zeroPage.map cell).toArray 102 (0, 0)) := heap_alloc_new w _
  have HT := Lib.hid (thereL (there_of_bytes hnew 0 4096 (by rw [zeroPage_length]; omega)) hl)
  have HN := Lib.hid hnew
  have HL := Lib.hid hl
  clear hl hnew
  go_enter Try.func21, Try.ntmps21
  go_wp2_with (first | (go_at_call 50; refine (Calls.mono HF.out ?_); rintro e w' ⟨rfl, rfl⟩) | (refine wpList_load_mid rfl 102 _ rfl d (i * 4096) rfl (xs.map cell) _ HR.out Try.underlying102 rfl HM.out ?_) | (refine wpList_store_mid rfl 102 _ _ rfl w.heap.size 0 (xs.map cell).toArray rfl rfl HT.out HS.out (one_cellsA xs) ?_))
  go_ret
  refine ⟨rfl, ?_, ?_, ?_⟩
  · exact grown_alloc_setCells _ _ _ _
  · rw [size_setCells]; simp
  · have e := heap_setCells (o := 0) (cs := zeroPage.map cell) HN.out (xs.map cell) (by simp [zeroPage_length, HL.out]) (one_cells xs)
    rw [e]
    have e2 : splice (zeroPage.map cell) 0 (xs.map cell) = xs.map cell := by
      simp [splice, HL.out, zeroPage_length]
    rw [e2]
end Go.Proofs.Ytomkhdefjfjlnaa
