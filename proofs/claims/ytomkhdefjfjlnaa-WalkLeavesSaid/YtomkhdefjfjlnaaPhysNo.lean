/- Calls of package phys at a frame that is none: each finds nothing, answers false, and changes nothing. The one condition of each: that find tells nil there. -/
import Derived.Test.YtomkhdefjfjlnaaRows
import Derived.WalkKit
import Derived.ProofKit
import Derived.OpenShut
import Derived.WalkLawsBesides
import Derived.WalkSpells
import Derived.BigQuiet
import Derived.Deep.QuietTactic
import Derived.Deep.DeepMust
import Derived.Outline
import Derived.Below
import Derived.Lib.Hide
import Derived.Lib.SliceRun
namespace Go.Proofs.Ytomkhdefjfjlnaa
open Go.ChangeShapes Go.WideShapes Go.ChangeAt Go.RowKit
set_option linter.unusedVariables false

/-- A slice of bytes held against nil. -/
@[go_sem] theorem eqNil31 (a : Option Addr) (n c : Nat) (w : World) : (binOp .eql 55 (.slice a n c) (.slice none 0 0)).run Try.prog w = .ok (.bool a.isNone) w := Lib.run_eql_slice_nil w 55 5 a n c 0 0 Try.underlying55

/-- A pointer to no memory, or to one without frames. -/
def Bare (w : World) (p : Option Addr) : Prop := ∀ a, p = some a → w.cell? a = some (.slice none 0 0)

theorem frames_bare (p : Option Addr) (w : World) (h : Bare w p) : Calls Try.prog 55 #[.pointer p] w fun e w' => e = .returned (.int .i64 0) ∧ w = w' := by
  cases p with
  | none =>
    clear h
    go_enter Try.func55, Try.ntmps55
    go_wp2
    go_ret
    exact ⟨rfl, rfl⟩
  | some a =>
    have hc := h a rfl
    clear h
    go_enter Try.func55, Try.ntmps55
    go_wp2
    go_ret
    exact ⟨rfl, rfl⟩

theorem find_bare (p : Option Addr) (i : Int) (w : World) (h : Bare w p) : Calls Try.prog 50 #[.pointer p, .int .i64 i] w fun e w' => e = .returned (.pointer none) ∧ w = w' := by
  have H := Lib.hid h
  clear h
  by_cases hi : i < 0
  · go_enter Try.func50, Try.ntmps50
    go_wp2_with (go_at_call 55; refine (frames_bare _ _ H.out).mono ?_; rintro e w' ⟨rfl, rfl⟩)
    go_ret
    exact ⟨rfl, rfl⟩
  · have hd : decide (i < 0) = false := by simpa using hi
    have h0 : 0 ≤ i := by omega
    go_enter Try.func50, Try.ntmps50
    go_wp2_with (go_at_call 55; refine (frames_bare _ _ H.out).mono ?_; rintro e w' ⟨rfl, rfl⟩)
    go_ret
    exact ⟨rfl, rfl⟩

/-- There is no such frame: find tells nil, and leaves the world. -/
def NoFrame (w : World) (p : Option Addr) (i : Int) : Prop := Calls Try.prog 50 #[.pointer p, .int .i64 i] w fun e w' => e = .returned (.pointer none) ∧ w = w'

/-- findWord tells nil. -/
def NoWord (w : World) (p : Option Addr) (i j : Int) : Prop := Calls Try.prog 53 #[.pointer p, .int .i64 i, .int .i64 j] w fun e w' => e = .returned (.slice none 0 0) ∧ w = w'

theorem findWord_no (p : Option Addr) (i j : Int) (w : World) (h : NoFrame w p i) : NoWord w p i j := by
  unfold NoWord
  have H := Lib.hid h
  clear h
  go_enter Try.func53, Try.ntmps53
  go_wp2_with (go_at_call 50; refine (Calls.mono H.out ?_); rintro e w' ⟨rfl, rfl⟩)
  go_ret
  exact ⟨rfl, rfl⟩

theorem word_no (p : Option Addr) (i j : Int) (w : World) (h : NoWord w p i j) : Calls Try.prog 57 #[.pointer p, .int .i64 i, .int .i64 j] w fun e w' => e = .returned (.tuple #[.int .u64 0, .bool false]) ∧ w = w' := by
  have H := Lib.hid h
  clear h
  go_enter Try.func57, Try.ntmps57
  go_wp2_with (go_at_call 53; refine (Calls.mono H.out ?_); rintro e w' ⟨rfl, rfl⟩)
  go_ret2
  exact ⟨rfl, rfl⟩

theorem setWord_no (p : Option Addr) (i j v : Int) (w : World) (h : NoWord w p i j) : Calls Try.prog 23 #[.pointer p, .int .i64 i, .int .i64 j, .int .u64 v] w fun e w' => e = .returned (.bool false) ∧ w = w' := by
  have H := Lib.hid h
  clear h
  go_enter Try.func23, Try.ntmps23
  go_wp2_with (go_at_call 53; refine (Calls.mono H.out ?_); rintro e w' ⟨rfl, rfl⟩)
  go_ret
  exact ⟨rfl, rfl⟩

theorem page_no (p : Option Addr) (i : Int) (w : World) (h : NoFrame w p i) : Calls Try.prog 21 #[.pointer p, .int .i64 i] w fun e w' => e = .returned (.slice none 0 0) ∧ w = w' := by
  have H := Lib.hid h
  clear h
  go_enter Try.func21, Try.ntmps21
  go_wp2_with (go_at_call 50; refine (Calls.mono H.out ?_); rintro e w' ⟨rfl, rfl⟩)
  go_ret
  exact ⟨rfl, rfl⟩

/-- find tells an address or nil. -/
def Finds (w : World) (p : Option Addr) (i : Int) (x : Option Addr) : Prop := Calls Try.prog 50 #[.pointer p, .int .i64 i] w fun e w' => e = .returned (.pointer x) ∧ w = w'

end Go.Proofs.Ytomkhdefjfjlnaa
