/- A law of layer 15 as its row wants it. -/
import Derived.Test.YtklmlimfhgonjaaEySayA
import Derived.Test.YtklmlimfhgonjaaEySame
namespace Go.Proofs.Ytklmlimfhgonjaa
open Go.ChangeShapes Go.WideShapes Go.ChangeAt Go.RowKit
set_option linter.unusedVariables false

theorem same_say (W : World) (s : Option Addr) (l c : Nat) (L : List En) (h : EntsC W s l c L) (a p : Int) (ha : okI a) (hp : okI p) : Calls Try.prog 6 #[.slice s l c, .int .i64 a, .int .i64 p] W fun e w' => e = .returned (.bool true) ∧ Below W.heap.size W w' := by
  obtain rfl := h.1
  exact said (same_law W (ents_ec h) h.2.2 a p ha hp)
end Go.Proofs.Ytklmlimfhgonjaa
