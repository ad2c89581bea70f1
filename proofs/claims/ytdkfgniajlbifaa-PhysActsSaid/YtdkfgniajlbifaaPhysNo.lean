/- Calls of package phys at a frame that is none: each finds nothing, answers false, and changes nothing. The one condition of each: that find tells nil there. -/
import Derived.Test.YtdkfgniajlbifaaRows
import Derived.WalkKit
import Derived.ProofKit
import Derived.OpenShut
import Derived.WalkLawsBesides
import Derived.WalkSpells
import Derived.BigQuiet
import Derived.Deep.QuietTactic
import Derived.Deep.DeepMust
import Derived.Outline
import Derived.Below
import Derived.Lib.Hide
import Derived.Lib.SliceRun
namespace Go.Proofs.Ytdkfgniajlbifaa
open Go.ChangeShapes Go.WideShapes Go.ChangeAt Go.RowKit
set_option linter.unusedVariables false

/-- A slice of bytes held against nil. -/
@[go_sem] theorem eqNil31 (a : Option Addr) (n c : Nat) (w : World) : (binOp .eql 31 (.slice a n c) (.slice none 0 0)).run Try.prog w = .ok (.bool a.isNone) w := Lib.run_eql_slice_nil w 31 5 a n c 0 0 Try.underlying31

/-- A pointer to no memory, or to one without frames. -/
def Bare (w : World) (p : Option Addr) : Prop := ∀ a, p = some a → w.cell? a = some (.slice none 0 0)

theorem frames_bare (p : Option Addr) (w : World) (h : Bare w p) : Calls Try.prog 24 #[.pointer p] w fun e w' => e = .returned (.int .i64 0) ∧ w = w' := by
  cases p with
  | none =>
    clear h
    go_enter Try.func24, Try.ntmps24
    go_wp2
    go_ret
    exact ⟨rfl, rfl⟩
  | some a =>
    have hc := h a rfl
    clear h
    go_enter Try.func24, Try.ntmps24
    go_wp2
    go_ret
    exact ⟨rfl, rfl⟩

theorem find_bare (p : Option Addr) (i : Int) (w : World) (h : Bare w p) : Calls Try.prog 36 #[.pointer p, .int .i64 i] w fun e w' => e = .returned (.pointer none) ∧ w = w' := by
  have H := Lib.hid h
  clear h
  by_cases hi : i < 0
  · go_enter Try.func36, Try.ntmps36
    go_wp2_with (go_at_call 24; refine (frames_bare _ _ H.out).mono ?_; rintro e w' ⟨rfl, rfl⟩)
    go_ret
    exact ⟨rfl, rfl⟩
  · have hd : decide (i < 0) = false := by simpa using hi
    have h0 : 0 ≤ i := by omega
    go_enter Try.func36, Try.ntmps36
    go_wp2_with (go_at_call 24; refine (frames_bare _ _ H.out).mono ?_; rintro e w' ⟨rfl, rfl⟩)
    go_ret
    exact ⟨rfl, rfl⟩

/-- There is no such frame: find tells nil, and leaves the world. -/
def NoFrame (w : World) (p : Option Addr) (i : Int) : Prop := Calls Try.prog 36 #[.pointer p, .int .i64 i] w fun e w' => e = .returned (.pointer none) ∧ w = w'

theorem byte_no (p : Option Addr) (i j : Int) (w : World) (h : NoFrame w p i) : Calls Try.prog 16 #[.pointer p, .int .i64 i, .int .i64 j] w fun e w' => e = .returned (.tuple #[.int .u8 0, .bool false]) ∧ w = w' := by
  have H := Lib.hid h
  clear h
  go_enter Try.func16, Try.ntmps16
  go_wp2_with (go_at_call 36; refine (Calls.mono H.out ?_); rintro e w' ⟨rfl, rfl⟩)
  go_ret2
  exact ⟨rfl, rfl⟩

theorem setByte_no (p : Option Addr) (i j b : Int) (w : World) (h : NoFrame w p i) : Calls Try.prog 27 #[.pointer p, .int .i64 i, .int .i64 j, .int .u8 b] w fun e w' => e = .returned (.bool false) ∧ w = w' := by
  have H := Lib.hid h
  clear h
  go_enter Try.func27, Try.ntmps27
  go_wp2_with (go_at_call 36; refine (Calls.mono H.out ?_); rintro e w' ⟨rfl, rfl⟩)
  go_ret
  exact ⟨rfl, rfl⟩

/-- findWord tells nil. -/
def NoWord (w : World) (p : Option Addr) (i j : Int) : Prop := Calls Try.prog 38 #[.pointer p, .int .i64 i, .int .i64 j] w fun e w' => e = .returned (.slice none 0 0) ∧ w = w'

theorem findWord_no (p : Option Addr) (i j : Int) (w : World) (h : NoFrame w p i) : NoWord w p i j := by
  unfold NoWord
  have H := Lib.hid h
  clear h
  go_enter Try.func38, Try.ntmps38
  go_wp2_with (go_at_call 36; refine (Calls.mono H.out ?_); rintro e w' ⟨rfl, rfl⟩)
  go_ret
  exact ⟨rfl, rfl⟩

theorem word_no (p : Option Addr) (i j : Int) (w : World) (h : NoWord w p i j) : Calls Try.prog 18 #[.pointer p, .int .i64 i, .int .i64 j] w fun e w' => e = .returned (.tuple #[.int .u64 0, .bool false]) ∧ w = w' := by
  have H := Lib.hid h
  clear h
  go_enter Try.func18, Try.ntmps18
  go_wp2_with (go_at_call 38; refine (Calls.mono H.out ?_); rintro e w' ⟨rfl, rfl⟩)
  go_ret2
  exact ⟨rfl, rfl⟩

theorem setWord_no (p : Option Addr) (i j v : Int) (w : World) (h : NoWord w p i j) : Calls Try.prog 28 #[.pointer p, .int .i64 i, .int .i64 j, .int .u64 v] w fun e w' => e = .returned (.bool false) ∧ w = w' := by
  have H := Lib.hid h
  clear h
  go_enter Try.func28, Try.ntmps28
  go_wp2_with (go_at_call 38; refine (Calls.mono H.out ?_); rintro e w' ⟨rfl, rfl⟩)
  go_ret
  exact ⟨rfl, rfl⟩

theorem zero_no (p : Option Addr) (i : Int) (w : World) (h : NoFrame w p i) : Calls Try.prog 30 #[.pointer p, .int .i64 i] w fun e w' => e = .returned (.bool false) ∧ w = w' := by
  have H := Lib.hid h
  clear h
  go_enter Try.func30, Try.ntmps30
  go_wp2_with (go_at_call 36; refine (Calls.mono H.out ?_); rintro e w' ⟨rfl, rfl⟩)
  go_ret
  exact ⟨rfl, rfl⟩

theorem fill_no (p : Option Addr) (i : Int) (s : Option Addr) (l c : Nat) (w : World) (h : NoFrame w p i) : Calls Try.prog 26 #[.pointer p, .int .i64 i, .slice s l c] w fun e w' => e = .returned (.bool false) ∧ w = w' := by
  have H := Lib.hid h
  clear h
  go_enter Try.func26, Try.ntmps26
  go_wp2_with (go_at_call 36; refine (Calls.mono H.out ?_); rintro e w' ⟨rfl, rfl⟩)
  go_ret
  exact ⟨rfl, rfl⟩

theorem page_no (p : Option Addr) (i : Int) (w : World) (h : NoFrame w p i) : Calls Try.prog 23 #[.pointer p, .int .i64 i] w fun e w' => e = .returned (.slice none 0 0) ∧ w = w' := by
  have H := Lib.hid h
  clear h
  go_enter Try.func23, Try.ntmps23
  go_wp2_with (go_at_call 36; refine (Calls.mono H.out ?_); rintro e w' ⟨rfl, rfl⟩)
  go_ret
  exact ⟨rfl, rfl⟩

/-- find tells an address or nil. -/
def Finds (w : World) (p : Option Addr) (i : Int) (x : Option Addr) : Prop := Calls Try.prog 36 #[.pointer p, .int .i64 i] w fun e w' => e = .returned (.pointer x) ∧ w = w'

theorem copy_no (p x y : Option Addr) (i j : Int) (w : World) (hi : Finds w p i x) (hj : Finds w p j y) (h : x = none ∨ y = none) : Calls Try.prog 29 #[.pointer p, .int .i64 i, .int .i64 j] w fun e w' => e = .returned (.bool false) ∧ w = w' := by
  have Hi := Lib.hid hi
  have Hj := Lib.hid hj
  clear hi hj
  rcases h with rfl | rfl
  · go_enter Try.func29, Try.ntmps29
    go_wp2_with fail
    refine (Calls.mono Hi.out ?_); rintro e w' ⟨rfl, rfl⟩
    go_wp2_with fail
    refine (Calls.mono Hj.out ?_); rintro e w' ⟨rfl, rfl⟩
    go_wp2_with fail
    go_ret
    exact ⟨rfl, rfl⟩
  · cases x with
    | none =>
      go_enter Try.func29, Try.ntmps29
      go_wp2_with fail
      refine (Calls.mono Hi.out ?_); rintro e w' ⟨rfl, rfl⟩
      go_wp2_with fail
      refine (Calls.mono Hj.out ?_); rintro e w' ⟨rfl, rfl⟩
      go_wp2_with fail
      go_ret
      exact ⟨rfl, rfl⟩
    | some x =>
      go_enter Try.func29, Try.ntmps29
      go_wp2_with fail
      refine (Calls.mono Hi.out ?_); rintro e w' ⟨rfl, rfl⟩
      go_wp2_with fail
      refine (Calls.mono Hj.out ?_); rintro e w' ⟨rfl, rfl⟩
      go_wp2_with fail
      go_ret
      exact ⟨rfl, rfl⟩

theorem same_no (p x y : Option Addr) (i j : Int) (w : World) (hi : Finds w p i x) (hj : Finds w p j y) (h : x = none ∨ y = none) : Calls Try.prog 20 #[.pointer p, .int .i64 i, .int .i64 j] w fun e w' => e = .returned (.bool false) ∧ w = w' := by
  have Hi := Lib.hid hi
  have Hj := Lib.hid hj
  clear hi hj
  rcases h with rfl | rfl
  · go_enter Try.func20, Try.ntmps20
    go_wp2_with fail
    refine (Calls.mono Hi.out ?_); rintro e w' ⟨rfl, rfl⟩
    go_wp2_with fail
    refine (Calls.mono Hj.out ?_); rintro e w' ⟨rfl, rfl⟩
    go_wp2_with fail
    go_ret
    exact ⟨rfl, rfl⟩
  · cases x with
    | none =>
      go_enter Try.func20, Try.ntmps20
      go_wp2_with fail
      refine (Calls.mono Hi.out ?_); rintro e w' ⟨rfl, rfl⟩
      go_wp2_with fail
      refine (Calls.mono Hj.out ?_); rintro e w' ⟨rfl, rfl⟩
      go_wp2_with fail
      go_ret
      exact ⟨rfl, rfl⟩
    | some x =>
      go_enter Try.func20, Try.ntmps20
      go_wp2_with fail
      refine (Calls.mono Hi.out ?_); rintro e w' ⟨rfl, rfl⟩
      go_wp2_with fail
      refine (Calls.mono Hj.out ?_); rintro e w' ⟨rfl, rfl⟩
      go_wp2_with fail
      go_ret
      exact ⟨rfl, rfl⟩
end Go.Proofs.Ytdkfgniajlbifaa
