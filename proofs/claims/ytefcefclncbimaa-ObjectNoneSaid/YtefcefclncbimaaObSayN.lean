/- ObjectNone as its row wants it. -/
import Derived.Test.YtefcefclncbimaaObAct
import Derived.Test.YtefcefclncbimaaObNoneW
namespace Go.Proofs.Ytefcefclncbimaa
open Go.ChangeShapes Go.WideShapes Go.ChangeAt Go.RowKit
set_option linter.unusedVariables false

theorem okI_wf {x : Int} (h : (Lit.int .i64 x).wf = true) : okI x := wf_ok64 h
theorem okU_wf {x : Int} (h : (Lit.int .u64 x).wf = true) : okU x := by
  simp [Lit.wf, IntKind.min, IntKind.max, IntKind.signed, IntKind.bits] at h
  exact ⟨by omega, by omega⟩
theorem below_of {w w' : World} (g : w.grownBy w' none) : Below w.heap.size w w' := ⟨g.os, g.tape, g.output, g.size, fun k hk => g.block k hk (by simp)⟩
theorem said {f : FuncId} {args : Array Value} {w : World} (h : Calls Try.prog f args w fun e w' => e = .returned (.bool true) ∧ w.grownBy w' none) : Calls Try.prog f args w fun e w' => e = .returned (.bool true) ∧ Below w.heap.size w w' := h.mono fun _ _ k => ⟨k.1, below_of k.2⟩
theorem none_say14 (W : World) (A : OActV) (hO : A.Ok) : Calls Try.prog 6 #[.agg #[.int .i64 A.k, .int .i64 A.id, .int .i64 A.a, .int .i64 A.p.fr, .int .i64 A.p.sl, .bool A.p.d]] W fun e w' => e = .returned (.bool true) ∧ Below W.heap.size W w' := said (none_done14 W A hO)
end Go.Proofs.Ytefcefclncbimaa
