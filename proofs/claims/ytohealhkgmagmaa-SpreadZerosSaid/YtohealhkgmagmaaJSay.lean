/- Layer 11's walks as their rows want them: nothing older has turned. -/
import Derived.Test.YtohealhkgmagmaaJActsW
import Derived.Test.YtohealhkgmagmaaJNoneW
import Derived.Test.YtohealhkgmagmaaJRunsW
namespace Go.Proofs.Ytohealhkgmagmaa
open Go.ChangeShapes Go.WideShapes Go.ChangeAt Go.RowKit
set_option linter.unusedVariables false

theorem okI_wf {x : Int} (h : (Lit.int .i64 x).wf = true) : okI x := wf_ok64 h
theorem okU_wf {x : Int} (h : (Lit.int .u64 x).wf = true) : okU x := by
  simp [Lit.wf, IntKind.min, IntKind.max, IntKind.signed, IntKind.bits] at h
  exact ⟨by omega, by omega⟩
theorem below_of {w w' : World} (g : w.grownBy w' none) : Below w.heap.size w w' := ⟨g.os, g.tape, g.output, g.size, fun k hk => g.block k hk (by simp)⟩
theorem said {f : FuncId} {args : Array Value} {w : World} (h : Calls Try.prog f args w fun e w' => e = .returned (.bool true) ∧ w.grownBy w' none) : Calls Try.prog f args w fun e w' => e = .returned (.bool true) ∧ Below w.heap.size w w' := h.mono fun _ _ k => ⟨k.1, below_of k.2⟩
section
variable (W : World)
theorem acts_say11 (n0 : Int) (s : Option Addr) (l c : Nat) (As : List JActV) (hA : JActsAre W s l As) (hn : okI n0) : Calls Try.prog 3 #[.int .i64 n0, .slice s l c] W fun e w' => e = .returned (.bool true) ∧ Below W.heap.size W w' := said (acts_walk11 spOk W n0 s l c As hA hn)
theorem runs_say11 (n0 : Int) (s : Option Addr) (l c : Nat) (As : List JActV) (hA : JActsAre W s l As) (hn : okU n0) : Calls Try.prog 4 #[.int .u64 n0, .slice s l c] W fun e w' => e = .returned (.bool true) ∧ Below W.heap.size W w' := said (runs_walk11 spOk W n0 s l c As hA hn)
theorem back_say11 (n0 : Int) (s : Option Addr) (l c : Nat) (As : List JActV) (hA : JActsAre W s l As) (A : JActV) (hn : okU n0) (hO : A.Ok) : Calls Try.prog 5 #[.int .u64 n0, .slice s l c, .agg #[.int .i64 A.lo, .int .i64 A.hi, .int .i64 A.by_, .bool A.gr]] W fun e w' => e = .returned (.bool true) ∧ Below W.heap.size W w' := said (back_walk11 spOk W n0 s l c As hA A hn hO)
theorem none_say11 (A : JActV) (hO : A.Ok) : Calls Try.prog 6 #[.agg #[.int .i64 A.lo, .int .i64 A.hi, .int .i64 A.by_, .bool A.gr]] W fun e w' => e = .returned (.bool true) ∧ Below W.heap.size W w' := said (none_done11 W A hO)
end
end Go.Proofs.Ytohealhkgmagmaa
