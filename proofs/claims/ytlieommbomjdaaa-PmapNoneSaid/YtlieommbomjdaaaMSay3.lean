/- PmapNone's walk as its row wants it. -/
import Derived.Test.YtlieommbomjdaaaMB6
import Derived.Test.YtlieommbomjdaaaMSay
namespace Go.Proofs.Ytlieommbomjdaaa
open Go.ChangeShapes Go.WideShapes Go.ChangeAt Go.RowKit
set_option linter.unusedVariables false

theorem none_say (W : World) (A : A7) (hA : A.Ok) :
    Calls Try.prog 6 #[.agg #[.int .i64 A.k, .int .i64 A.s, .int .i64 A.v, .int .i64 A.a, .int .i64 A.b]] W fun e W' => e = .returned (.bool true) ∧ Below W.heap.size W W' :=
  (none_walk W A hA).mono fun e w' h => ⟨h.1, below_ofM h.2⟩
end Go.Proofs.Ytlieommbomjdaaa
