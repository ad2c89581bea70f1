/- The document's examples of layer 3, and cells kept past calls. -/
import Derived.Test.YtomkhdefjfjlnaaPteH
import Derived.Laws.StructEq
namespace Go.Proofs.Ytomkhdefjfjlnaa
open Go.ChangeShapes Go.WideShapes Go.RowKit
set_option linter.unusedVariables false

theorem toBelow {P : Program} {f : FuncId} {args : Array Value} {w : World} {X : Ending} (h : Calls P f args w fun e w' => e = X ∧ ∃ k, w' = w.drewN k) : Calls P f args w fun e w' => e = X ∧ Below w.heap.size w w' :=
  h.mono fun _ _ ⟨e, k, hk⟩ => ⟨e, hk ▸ Below.drewK (Below.refl _ _) k⟩
theorem toBelow0 {P : Program} {f : FuncId} {args : Array Value} {w : World} {X : Ending} (h : Calls P f args w fun e w' => e = X ∧ w = w') : Calls P f args w fun e w' => e = X ∧ Below w.heap.size w w' :=
  h.mono fun _ _ ⟨e, hk⟩ => ⟨e, hk ▸ Below.refl _ _⟩

/-- The cells of one entry, of two, past a call. -/
theorem past2 {w w' : World} {b : Nat} {x y : Value} (h : w.cell? ⟨b, 0, none⟩ = some x ∧ w.cell? ⟨b, 1, none⟩ = some y) (k : Below w.heap.size w w') :
    w'.cell? ⟨b, 0, none⟩ = some x ∧ w'.cell? ⟨b, 1, none⟩ = some y :=
  ⟨(k.cell (p := ⟨b, 0, none⟩) (World.block_lt_of_cell? w _ h.1)).trans h.1, (k.cell (p := ⟨b, 1, none⟩) (World.block_lt_of_cell? w _ h.2)).trans h.2⟩
theorem past4 {w w' : World} {b c : Nat} {x y x' y' : Value} (h : w.cell? ⟨b, 0, none⟩ = some x ∧ w.cell? ⟨b, 1, none⟩ = some y ∧ w.cell? ⟨c, 0, none⟩ = some x' ∧ w.cell? ⟨c, 1, none⟩ = some y') (k : Below w.heap.size w w') :
    w'.cell? ⟨b, 0, none⟩ = some x ∧ w'.cell? ⟨b, 1, none⟩ = some y ∧ w'.cell? ⟨c, 0, none⟩ = some x' ∧ w'.cell? ⟨c, 1, none⟩ = some y' :=
  ⟨(past2 ⟨h.1, h.2.1⟩ k).1, (past2 ⟨h.1, h.2.1⟩ k).2, (past2 h.2.2 k).1, (past2 h.2.2 k).2⟩
end Go.Proofs.Ytomkhdefjfjlnaa
