/- A law of layer 15 as its row wants it. -/
import Derived.Test.YtklmlimfhgonjaaEySayA
import Derived.Test.YtklmlimfhgonjaaEyLawC
namespace Go.Proofs.Ytklmlimfhgonjaa
open Go.ChangeShapes Go.WideShapes Go.ChangeAt Go.RowKit
set_option linter.unusedVariables false

theorem clips_say (W : World) (s : Option Addr) (l c : Nat) (L : List En) (h : EntsC W s l c L) (a b : Int) : Calls Try.prog 8 #[.slice s l c, .int .i64 a, .int .i64 b] W fun e w' => e = .returned (.bool true) ∧ Below W.heap.size W w' := by
  obtain rfl := h.1
  exact said (clips_law W (ents_ec h) h.2.2 a b)
theorem spaces_say (W : World) (s : Option Addr) (l c : Nat) (L : List En) (h : EntsC W s l c L) (hint n : Int) : Calls Try.prog 7 #[.slice s l c, .int .i64 hint, .int .i64 n] W fun e w' => e = .returned (.bool true) ∧ Below W.heap.size W w' := by
  obtain rfl := h.1
  exact said (spaces_law W (ents_ec h) h.2.2 hint n)
end Go.Proofs.Ytklmlimfhgonjaa
