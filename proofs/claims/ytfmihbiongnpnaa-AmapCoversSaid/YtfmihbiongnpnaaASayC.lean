/- AmapCovers' walk as its row wants it. -/
import Derived.Test.YtfmihbiongnpnaaASay
import Derived.Test.YtfmihbiongnpnaaACovW
namespace Go.Proofs.Ytfmihbiongnpnaa
open Go.ChangeShapes Go.WideShapes Go.ChangeAt Go.RowKit
set_option linter.unusedVariables false

theorem covers_say13 (W : World) (a : Int) (s : Option Addr) (l c : Nat) (As : List AActV) (hA : AActsAre W s l As) (ha : okU a) :
    Calls Try.prog 4 #[.int .u64 a, .slice s l c] W fun e w' => e = .returned (.bool true) ∧ Below W.heap.size W w' := said (covers_done13 W a s l c As hA ha)
end Go.Proofs.Ytfmihbiongnpnaa
