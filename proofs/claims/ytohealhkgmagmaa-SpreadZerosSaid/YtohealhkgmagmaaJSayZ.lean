/- SpreadZeros' walk as its row wants it. -/
import Derived.Test.YtohealhkgmagmaaJSay
import Derived.Test.YtohealhkgmagmaaJZerosW
namespace Go.Proofs.Ytohealhkgmagmaa
open Go.ChangeShapes Go.WideShapes Go.ChangeAt Go.RowKit
set_option linter.unusedVariables false
theorem zeros_say11 (W : World) (n0 : Int) (s : Option Addr) (l c : Nat) (As : List JActV) (hA : JActsAre W s l As) (hn : okU n0) : Calls Try.prog 7 #[.int .u64 n0, .slice s l c] W fun e w' => e = .returned (.bool true) ∧ Below W.heap.size W w' := said (zeros_walk11 spOk W n0 s l c As hA hn)
end Go.Proofs.Ytohealhkgmagmaa
