/- AmapNone as its row wants it. -/
import Derived.Test.YtfmihbiongnpnaaASay
import Derived.Test.YtfmihbiongnpnaaANoneW
namespace Go.Proofs.Ytfmihbiongnpnaa
open Go.ChangeShapes Go.WideShapes Go.ChangeAt Go.RowKit
set_option linter.unusedVariables false

theorem none_say13 (W : World) (A : AActV) (hO : A.Ok) : Calls Try.prog 6 #[.agg #[.int .i64 A.k, .int .i64 A.id, .int .i64 A.a, .int .i64 A.b]] W fun e w' => e = .returned (.bool true) ∧ Below W.heap.size W w' := said (none_done13 W A hO)
end Go.Proofs.Ytfmihbiongnpnaa
