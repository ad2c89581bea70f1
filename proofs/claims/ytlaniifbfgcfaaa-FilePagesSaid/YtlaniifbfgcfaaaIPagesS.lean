/- FilePages' walk as its row wants it. -/
import Derived.Test.YtlaniifbfgcfaaaIDone
import Derived.Test.YtlaniifbfgcfaaaIPagesW
namespace Go.Proofs.Ytlaniifbfgcfaaa
open Go.ChangeShapes Go.WideShapes Go.ChangeAt Go.RowKit
set_option linter.unusedVariables false

theorem pages_done10 (W : World) (s : Option Addr) (l c : Nat) (L : List (Int × Int)) (hL : PairsU W s l L) : Calls Try.prog 8 #[.slice s l c] W fun e w' => e = .returned (.bool true) ∧ Below W.heap.size W w' := said (pages_walk10 flOk W s l c L hL)
end Go.Proofs.Ytlaniifbfgcfaaa
