/- PhysNone answers true, whatever the act, and changes nothing that was there. -/
import Derived.Test.YtdkfgniajlbifaaActNo
import Derived.Test.YtdkfgniajlbifaaActs
namespace Go.Proofs.Ytdkfgniajlbifaa
open Go.ChangeShapes Go.WideShapes Go.ChangeAt Go.RowKit
open Extern.Stop (cell)
set_option linter.unusedVariables false

/-- The world in PhysNone's loops: the boxed act, and the memory without frames. -/
structure NoneW (w wr : World) (a b v : Int) (s : Option Addr) (l c : Nat) : Prop where
  below : Below w.heap.size w wr
  box : ∃ k, wr.heap[w.heap.size]? = some (.cells #[.int .i64 k, .int .i64 a, .int .i64 b, .int .u64 v, .slice s l c] 33 (0, 0))
  mem : wr.heap[w.heap.size + 1]? = some (.cells #[.slice none 0 0] 59 (0, 0))

theorem NoneW.size {w wr : World} {a b v : Int} {s : Option Addr} {l c : Nat} (h : NoneW w wr a b v s l c) : w.heap.size + 1 < wr.heap.size := (Array.getElem?_eq_some_iff.1 h.mem).1

theorem NoneW.step {w wr w' : World} {a b v : Int} {s : Option Addr} {l c : Nat} (h : NoneW w wr a b v s l c) (g : wr.grownBy w' none) : NoneW w w' a b v s l c := by
  have hs := h.size
  refine ⟨h.below.grown g (by omega) (by simp), ?_, ?_⟩
  · obtain ⟨k, hk⟩ := h.box
    exact ⟨k, (g.block _ (by omega) (by simp)).trans hk⟩
  · exact (g.block _ (by omega) (by simp)).trans h.mem

theorem NoneW.set {w wr : World} {a b v : Int} {s : Option Addr} {l c : Nat} (h : NoneW w wr a b v s l c) (q : Int) : NoneW w (wr.setCell ⟨w.heap.size, 0, none⟩ (.int .i64 q)) a b v s l c := by
  refine ⟨h.below.setCell (by simp) _, ?_, ?_⟩
  · obtain ⟨k, hk⟩ := h.box
    exact ⟨q, by rw [heap_setCell_same _ _ _ _ _ _ hk]; rfl⟩
  · rw [heap_setCell_other _ _ _ _ (by simp)]; exact h.mem

theorem NoneW.bare {w wr : World} {a b v : Int} {s : Option Addr} {l c : Nat} (h : NoneW w wr a b v s l c) (p : Option Addr) (hp : p = none ∨ p = some ⟨w.heap.size + 1, 0, none⟩) : Bare wr p := by
  rintro x rfl
  rcases hp with hp | hp
  · cases hp
  · cases hp
    rw [cell_of_row _ _ _ _ _ _ h.mem]; rfl

theorem NoneW.cells {w wr : World} {a b v : Int} {s : Option Addr} {l c : Nat} (h : NoneW w wr a b v s l c) :
    ∃ k, wr.cell? ⟨w.heap.size, 0, none⟩ = some (.int .i64 k) ∧ wr.cell? ⟨w.heap.size, 1, none⟩ = some (.int .i64 a) ∧ wr.cell? ⟨w.heap.size, 2, none⟩ = some (.int .i64 b) ∧ wr.cell? ⟨w.heap.size, 3, none⟩ = some (.int .u64 v) ∧
      wr.cell? ⟨w.heap.size, 4, none⟩ = some (.slice s l c) ∧ wr.frozen? ⟨w.heap.size, 0, none⟩ = false := by
  obtain ⟨k, hk⟩ := h.box
  exact ⟨k, by rw [cell_of_row _ _ _ _ _ _ hk]; rfl, by rw [cell_of_row _ _ _ _ _ _ hk]; rfl, by rw [cell_of_row _ _ _ _ _ _ hk]; rfl, by rw [cell_of_row _ _ _ _ _ _ hk]; rfl, by rw [cell_of_row _ _ _ _ _ _ hk]; rfl, frozen_of_row _ _ _ _ _ hk⟩

set_option maxHeartbeats 1000000 in
theorem none_walk (k a b v : Int) (s : Option Addr) (l c : Nat) (w : World) :
    Calls Try.prog 7 #[.agg #[.int .i64 k, .int .i64 a, .int .i64 b, .int .u64 v, .slice s l c]] w fun e w' => e = .returned (.bool true) ∧ Below w.heap.size w w' := by
  have hi0 : ∀ W, (Instr.index 60 (.agg #[.pointer none, .pointer (some ⟨w.heap.size + 1, 0, none⟩)]) (.int .i64 0)).run Try.prog W = .ok (.pointer none) W := fun _ => by kernel_rfl
  have hi1 : ∀ W, (Instr.index 60 (.agg #[.pointer none, .pointer (some ⟨w.heap.size + 1, 0, none⟩)]) (.int .i64 1)).run Try.prog W = .ok (.pointer (some ⟨w.heap.size + 1, 0, none⟩)) W := fun _ => by kernel_rfl
  go_enter Try.func7, Try.ntmps7
  go_wp2_with fail
  go_loopw [12] (fun q wr => (q = .int .i64 0 ∨ q = .int .i64 1 ∨ q = .int .i64 2) ∧ NoneW w wr a b v s l c) (fun q _ => 2 - (intOf q).toNat)
  case atStart =>
    refine ⟨.inl rfl, (Below.refl _ _).alloc (Nat.le_refl _) _ |>.alloc (by simp) _, ⟨k, ?_⟩, ?_⟩
    · rw [heap_alloc2_old]
    · have := heap_alloc_new (w.alloc (.cells #[.int .i64 k, .int .i64 a, .int .i64 b, .int .u64 v, .slice s l c] 33)) (.cells #[.slice none 0 0] 59)
      simpa using this
  case round =>
    obtain ⟨hq, hN⟩ := hrel
    have HN := Lib.hid hN
    rcases hq with rfl | rfl | rfl
    · obtain ⟨P, hP⟩ : ∃ P : Option Addr, P = none := ⟨_, rfl⟩
      have hi2 := hi0
      have HP := Lib.hid (show P = none ∨ P = some ⟨w.heap.size + 1, 0, none⟩ from .inl hP)
      have hi3 : ∀ W, (Instr.index 60 (.agg #[.pointer none, .pointer (some ⟨w.heap.size + 1, 0, none⟩)]) (.int .i64 0)).run Try.prog W = .ok (.pointer P) W := by rw [hP]; exact hi0
      clear hP hi0 hi1 hi2
      have HB := Lib.hid (HN.out.bare P HP.out)
      clear hN
      go_wp2_with fail
      go_loopw [6] (fun q wr => ∃ j : Nat, j ≤ 5 ∧ q = .int .i64 j ∧ NoneW w wr a b v s l c) (fun q _ => 5 - (intOf q).toNat)
      case atStart => exact ⟨0, by omega, rfl, HN.out⟩
      case round =>
        rename_i wr2
        obtain ⟨j, hj, rfl, hN2⟩ := hrel
        have HN2 := Lib.hid hN2
        have HB2 := Lib.hid (hN2.bare P HP.out)
        obtain ⟨kk, c0, c1, c2, c3, c4, f0⟩ := hN2.cells
        have HS := Lib.hid (hN2.set (j : Int))
        have HBS := Lib.hid ((hN2.set (j : Int)).bare P HP.out)
        clear hN2
        by_cases hlt : j < 5
        · go_wp2_with fail
          refine (act_bare P j a b v s l c _ HBS.out).mono ?_
          rintro e w3 ⟨rfl, hg⟩
          have HN3 := Lib.hid (HS.out.step hg)
          clear hg
          go_wp2_with fail
          go_roundw
          case rel => exact ⟨j + 1, by omega, by go_num, HN3.out⟩
          case measure => simp [intOf]; omega
        · go_wp2_with fail
          refine (byte_no P a b _ (find_bare P a _ HB2.out)).mono ?_
          rintro e w3 ⟨rfl, rfl⟩
          go_wp2_with fail
          refine (word_no P a b _ (findWord_no P a b _ (find_bare P a _ HB2.out))).mono ?_
          rintro e w3 ⟨rfl, rfl⟩
          go_wp2_with fail
          refine (frames_bare P _ HB2.out).mono ?_
          rintro e w3 ⟨rfl, rfl⟩
          go_wp2_with fail
          refine (page_no P a _ (find_bare P a _ HB2.out)).mono ?_
          rintro e w3 ⟨rfl, rfl⟩
          go_wp2_with fail
          refine (same_no P none none a a _ (find_bare P a _ HB2.out) (find_bare P a _ HB2.out) (.inl rfl)).mono ?_
          rintro e w3 ⟨rfl, rfl⟩
          go_wp2_with fail
          go_roundw
          case rel => exact ⟨by simp, HN2.out⟩
          case measure => simp [intOf]
    · obtain ⟨P, hP⟩ : ∃ P : Option Addr, P = some ⟨w.heap.size + 1, 0, none⟩ := ⟨_, rfl⟩
      have hi2 := hi1
      have HP := Lib.hid (show P = none ∨ P = some ⟨w.heap.size + 1, 0, none⟩ from .inr hP)
      have hi3 : ∀ W, (Instr.index 60 (.agg #[.pointer none, .pointer (some ⟨w.heap.size + 1, 0, none⟩)]) (.int .i64 1)).run Try.prog W = .ok (.pointer P) W := by rw [hP]; exact hi1
      clear hP hi0 hi1 hi2
      have HB := Lib.hid (HN.out.bare P HP.out)
      clear hN
      go_wp2_with fail
      go_loopw [6] (fun q wr => ∃ j : Nat, j ≤ 5 ∧ q = .int .i64 j ∧ NoneW w wr a b v s l c) (fun q _ => 5 - (intOf q).toNat)
      case atStart => exact ⟨0, by omega, rfl, HN.out⟩
      case round =>
        rename_i wr2
        obtain ⟨j, hj, rfl, hN2⟩ := hrel
        have HN2 := Lib.hid hN2
        have HB2 := Lib.hid (hN2.bare P HP.out)
        obtain ⟨kk, c0, c1, c2, c3, c4, f0⟩ := hN2.cells
        have HS := Lib.hid (hN2.set (j : Int))
        have HBS := Lib.hid ((hN2.set (j : Int)).bare P HP.out)
        clear hN2
        by_cases hlt : j < 5
        · go_wp2_with fail
          refine (act_bare P j a b v s l c _ HBS.out).mono ?_
          rintro e w3 ⟨rfl, hg⟩
          have HN3 := Lib.hid (HS.out.step hg)
          clear hg
          go_wp2_with fail
          go_roundw
          case rel => exact ⟨j + 1, by omega, by go_num, HN3.out⟩
          case measure => simp [intOf]; omega
        · go_wp2_with fail
          refine (byte_no P a b _ (find_bare P a _ HB2.out)).mono ?_
          rintro e w3 ⟨rfl, rfl⟩
          go_wp2_with fail
          refine (word_no P a b _ (findWord_no P a b _ (find_bare P a _ HB2.out))).mono ?_
          rintro e w3 ⟨rfl, rfl⟩
          go_wp2_with fail
          refine (frames_bare P _ HB2.out).mono ?_
          rintro e w3 ⟨rfl, rfl⟩
          go_wp2_with fail
          refine (page_no P a _ (find_bare P a _ HB2.out)).mono ?_
          rintro e w3 ⟨rfl, rfl⟩
          go_wp2_with fail
          refine (same_no P none none a a _ (find_bare P a _ HB2.out) (find_bare P a _ HB2.out) (.inl rfl)).mono ?_
          rintro e w3 ⟨rfl, rfl⟩
          go_wp2_with fail
          go_roundw
          case rel => exact ⟨by simp, HN2.out⟩
          case measure => simp [intOf]
    · clear hi0 hi1 hN
      go_wp2_with fail
      refine (lives_ok _).mono ?_
      rintro e w3 ⟨rfl, hg⟩
      have HN3 := Lib.hid (HN.out.step hg)
      clear hg
      go_wp2_with fail
      go_ret
      exact ⟨rfl, HN3.out.below⟩

theorem none_walk2 (w : World) (A : ActV) (cs : Array Value) (h : ActIs w A cs.toList) :
    Calls Try.prog 7 #[.agg cs] w fun e w' => e = .returned (.bool true) ∧ Below w.heap.size w w' := by
  have e : cs = #[.int .i64 A.k, .int .i64 A.a, .int .i64 A.b, .int .u64 A.v, .slice A.s A.l A.c] := by
    have := h.cells
    cases cs
    simpa using this
  rw [e]
  exact none_walk _ _ _ _ _ _ _ w
end Go.Proofs.Ytdkfgniajlbifaa
