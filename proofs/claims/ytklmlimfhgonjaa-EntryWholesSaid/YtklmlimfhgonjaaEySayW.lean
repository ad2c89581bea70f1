/- A law of layer 15 as its row wants it. -/
import Derived.Test.YtklmlimfhgonjaaEySayA
import Derived.Test.YtklmlimfhgonjaaEyWhole
namespace Go.Proofs.Ytklmlimfhgonjaa
open Go.ChangeShapes Go.WideShapes Go.ChangeAt Go.RowKit
set_option linter.unusedVariables false

theorem wholes_say (W : World) (s : Option Addr) (l c : Nat) (L : List En) (h : EntsC W s l c L) (lo n : Int) (hn : okU n) : Calls Try.prog 9 #[.slice s l c, .int .i64 lo, .int .u64 n] W fun e w' => e = .returned (.bool true) ∧ Below W.heap.size W w' := by
  obtain rfl := h.1
  exact said (wholes_law W (ents_ec h) h.2.2 lo n hn)
end Go.Proofs.Ytklmlimfhgonjaa
