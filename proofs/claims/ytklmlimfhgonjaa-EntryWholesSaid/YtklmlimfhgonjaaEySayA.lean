/- A law of layer 15 as its row wants it. -/
import Derived.Test.YtklmlimfhgonjaaEySay
import Derived.Test.YtklmlimfhgonjaaEyLawA
namespace Go.Proofs.Ytklmlimfhgonjaa
open Go.ChangeShapes Go.WideShapes Go.ChangeAt Go.RowKit
set_option linter.unusedVariables false

theorem ents_ec {W : World} {s : Option Addr} {l c : Nat} {L : List En} (h : EntsC W s l c L) : EC W (.slice s L.length c) L := by
  obtain ⟨rfl, ⟨h1, h2⟩, -⟩ := h
  exact ⟨h1, fun a l c e => by cases e; exact h2⟩
theorem rights_say (W : World) (s : Option Addr) (l c : Nat) (L : List En) (h : EntsC W s l c L) : Calls Try.prog 3 #[.slice s l c] W fun e w' => e = .returned (.bool true) ∧ Below W.heap.size W w' := by
  obtain rfl := h.1
  exact said (rights_law W (ents_ec h) h.2.2)
theorem finds_say (W : World) (s : Option Addr) (l c : Nat) (L : List En) (h : EntsC W s l c L) (x y : Int) : Calls Try.prog 4 #[.slice s l c, .agg #[.int .i64 x, .int .i64 y]] W fun e w' => e = .returned (.bool true) ∧ Below W.heap.size W w' := by
  obtain rfl := h.1
  exact said (finds_law W (ents_ec h) h.2.2 x y)
end Go.Proofs.Ytklmlimfhgonjaa
