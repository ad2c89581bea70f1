/- ObjectFiles as its row wants it. -/
import Derived.Test.YtefcefclncbimaaZUints
import Derived.Test.YtefcefclncbimaaObOk
import Derived.Test.YtefcefclncbimaaObFilW
namespace Go.Proofs.Ytefcefclncbimaa
open Go.ChangeShapes Go.WideShapes Go.ChangeAt Go.RowKit
set_option linter.unusedVariables false

theorem okI_wf {x : Int} (h : (Lit.int .i64 x).wf = true) : okI x := wf_ok64 h
theorem okU_wf {x : Int} (h : (Lit.int .u64 x).wf = true) : okU x := by
  simp [Lit.wf, IntKind.min, IntKind.max, IntKind.signed, IntKind.bits] at h
  exact ⟨by omega, by omega⟩
theorem below_of {w w' : World} (g : w.grownBy w' none) : Below w.heap.size w w' := ⟨g.os, g.tape, g.output, g.size, fun k hk => g.block k hk (by simp)⟩
theorem said {f : FuncId} {args : Array Value} {w : World} (h : Calls Try.prog f args w fun e w' => e = .returned (.bool true) ∧ w.grownBy w' none) : Calls Try.prog f args w fun e w' => e = .returned (.bool true) ∧ Below w.heap.size w w' := h.mono fun _ _ k => ⟨k.1, below_of k.2⟩
theorem files_say14 (W : World) (s : Option Addr) (l c : Nat) (ds : List Int) (hU : UintsAre W s l ds) (x0 : Int) (hx0 : okU x0) : Calls Try.prog 7 #[.slice s l c, .int .u64 x0] W fun e w' => e = .returned (.bool true) ∧ Below W.heap.size W w' := said (files_walk14 obOk W s l c ds x0 hx0 hU)
end Go.Proofs.Ytefcefclncbimaa
