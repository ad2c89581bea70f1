/- The document's examples of layer 3, and cells kept past calls. -/
import Derived.Test.YtkpbkmfogkkheaaPteH
import Derived.Laws.StructEq
namespace Go.Proofs.Ytkpbkmfogkkheaa
open Go.ChangeShapes Go.WideShapes Go.RowKit
set_option linter.unusedVariables false

theorem lives_ok (w : World) :
    Calls Try.prog 17 #[] w fun e w' => e = .returned (.bool true) ∧ Below w.heap.size w w' := by
  have C1 := encode_ok 3 3
  have C2 := index_ok 517 1
  have C3 := canonical_ok (-1)
  have C4 := canonical_ok 274877906944
  rw [show encOf 3 3 = 3075 by decide] at C1
  rw [show indexOf 517 1 = 1 by decide] at C2
  rw [show canonOf (-1) = true by decide] at C3
  rw [show canonOf 274877906944 = false by decide] at C4
  have H1 := Lib.hid C1
  have H2 := Lib.hid C2
  have H3 := Lib.hid C3
  have H4 := Lib.hid C4
  clear C1 C2 C3 C4
  go_enter Try.func17, Try.ntmps17
  go_wp2_with fail
  refine (H1.out _).mono ?_
  rintro e w2 ⟨rfl, h2⟩
  have H2W := Lib.hid h2
  clear h2
  go_wp2_with fail
  refine (H2.out _).mono ?_
  rintro e w' ⟨rfl, k, rfl⟩
  go_wp2_with fail
  refine (H3.out _).mono ?_
  rintro e w' ⟨rfl, rfl⟩
  go_wp2_with fail
  refine (H4.out _).mono ?_
  rintro e w' ⟨rfl, rfl⟩
  go_wp2_with fail
  go_ret
  exact ⟨rfl, Below.drewK H2W.out k⟩

theorem toBelow {P : Program} {f : FuncId} {args : Array Value} {w : World} {X : Ending} (h : Calls P f args w fun e w' => e = X ∧ ∃ k, w' = w.drewN k) : Calls P f args w fun e w' => e = X ∧ Below w.heap.size w w' :=
  h.mono fun _ _ ⟨e, k, hk⟩ => ⟨e, hk ▸ Below.drewK (Below.refl _ _) k⟩
theorem toBelow0 {P : Program} {f : FuncId} {args : Array Value} {w : World} {X : Ending} (h : Calls P f args w fun e w' => e = X ∧ w = w') : Calls P f args w fun e w' => e = X ∧ Below w.heap.size w w' :=
  h.mono fun _ _ ⟨e, hk⟩ => ⟨e, hk ▸ Below.refl _ _⟩

/-- The cells of one entry, of two, past a call. -/
theorem past2 {w w' : World} {b : Nat} {x y : Value} (h : w.cell? ⟨b, 0, none⟩ = some x ∧ w.cell? ⟨b, 1, none⟩ = some y) (k : Below w.heap.size w w') :
    w'.cell? ⟨b, 0, none⟩ = some x ∧ w'.cell? ⟨b, 1, none⟩ = some y :=
  ⟨(k.cell (p := ⟨b, 0, none⟩) (World.block_lt_of_cell? w _ h.1)).trans h.1, (k.cell (p := ⟨b, 1, none⟩) (World.block_lt_of_cell? w _ h.2)).trans h.2⟩
theorem past4 {w w' : World} {b c : Nat} {x y x' y' : Value} (h : w.cell? ⟨b, 0, none⟩ = some x ∧ w.cell? ⟨b, 1, none⟩ = some y ∧ w.cell? ⟨c, 0, none⟩ = some x' ∧ w.cell? ⟨c, 1, none⟩ = some y') (k : Below w.heap.size w w') :
    w'.cell? ⟨b, 0, none⟩ = some x ∧ w'.cell? ⟨b, 1, none⟩ = some y ∧ w'.cell? ⟨c, 0, none⟩ = some x' ∧ w'.cell? ⟨c, 1, none⟩ = some y' :=
  ⟨(past2 ⟨h.1, h.2.1⟩ k).1, (past2 ⟨h.1, h.2.1⟩ k).2, (past2 h.2.2 k).1, (past2 h.2.2 k).2⟩
end Go.Proofs.Ytkpbkmfogkkheaa
