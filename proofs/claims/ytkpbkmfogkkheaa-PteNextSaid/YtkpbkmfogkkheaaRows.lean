/-
  No cell of these rows narrows 'for every input' (looked for: loops, veiled, ifaces, maps, wideKeys, modest, calm, conditions, laid).
  DERIVED. THE GIVEN ROWS OF THIS SEAT. 8 by the template 'for every input the law returns true; each argument reads behind the call as it read before'; 0 by the template 'total and deterministic' (their statements: YtkpbkmfogkkheaaTotals.lean).
  GIVEN WITH THE SEED: the statements are not yours to turn. If you find one false, say at which input.
  Laid BY PROGRAM, IN A SANDBOX (cutbox-rows.mjs): the forced cells as the released guide's own fill.sh prints them over the translation a2dd4bd61502c424… (all of the seat's roots in one cut). By AI agents, Wed Nov 11 2026. No macro, syntax, notation, axiom, sorry.
-/
import Derived.Test.YtkpbkmfogkkheaaChecked
import GoSem.Claim
import GoSem.ClaimJoined
import GoSem.ClaimMapViews
import Derived.JoinedTies
import Derived.KernelRfl
namespace Go.Proofs.Ytkpbkmfogkkheaa
/- THE CELL 'sum', in the pinned program and in every row, IS THE sha256 OF THE DUMP (.gsa) THAT YtkpbkmfogkkheaaProg.lean LOADS. Nothing in Lean hashes anything: it is a label: what it is worth is what the hold of that sum in a sandbox is worth. -/
noncomputable def Try.pinned : Pinned := { name := "ytkpbkmfogkkheaa", sum := "a2dd4bd61502c42484b353611604ceadd26abaa2549c0e627ad0aeebfbaef2a9", checked := Try.checked }
namespace Rows
def none {H : Type} : Left H := { results := [], args := [] }

/-- 'pantrylaw03.PteCodes': WHATEVER THE INPUT: true; the input reads as it did. -/
def pteCodesSpec : ChangeSpec := { name := "pteCodes", fn := fun _ => fun
  | [d1, d2] => { results := [.lit (.bool true)], args := [d1, d2] }
  | _ => none }
def pteCodesRow : OpenClaim := { program := "ytkpbkmfogkkheaa", sum := "a2dd4bd61502c42484b353611604ceadd26abaa2549c0e627ad0aeebfbaef2a9", func := "pantry/pantrylaw03.PteCodes", spec := "pteCodes", apart := false }
def PteCodesSaid : Prop := pteCodesRow.holds Try.pinned (OpenSpec.ofChange pteCodesSpec)

/-- ITS FALSE NEIGHBOUR: 'it returns false'. Refute it at one input. -/
def pteCodesWrong : ChangeSpec := { name := "pteCodes", fn := fun _ => fun
  | [d1, d2] => { results := [.lit (.bool false)], args := [d1, d2] }
  | _ => none }
def PteCodesWrongFalsely : Prop := pteCodesRow.holds Try.pinned (OpenSpec.ofChange pteCodesWrong)

/-- 'pantrylaw03.PteRights': WHATEVER THE INPUT: true; the input reads as it did. -/
def pteRightsSpec : ChangeSpec := { name := "pteRights", fn := fun _ => fun
  | [d1, d2, d3] => { results := [.lit (.bool true)], args := [d1, d2, d3] }
  | _ => none }
def pteRightsRow : OpenClaim := { program := "ytkpbkmfogkkheaa", sum := "a2dd4bd61502c42484b353611604ceadd26abaa2549c0e627ad0aeebfbaef2a9", func := "pantry/pantrylaw03.PteRights", spec := "pteRights", apart := false }
def PteRightsSaid : Prop := pteRightsRow.holds Try.pinned (OpenSpec.ofChange pteRightsSpec)

/-- ITS FALSE NEIGHBOUR: 'it returns false'. Refute it at one input. -/
def pteRightsWrong : ChangeSpec := { name := "pteRights", fn := fun _ => fun
  | [d1, d2, d3] => { results := [.lit (.bool false)], args := [d1, d2, d3] }
  | _ => none }
def PteRightsWrongFalsely : Prop := pteRightsRow.holds Try.pinned (OpenSpec.ofChange pteRightsWrong)

/-- 'pantrylaw03.PteParts': WHATEVER THE INPUT: true; the input reads as it did. -/
def ptePartsSpec : ChangeSpec := { name := "pteParts", fn := fun _ => fun
  | [d1, d2, d3] => { results := [.lit (.bool true)], args := [d1, d2, d3] }
  | _ => none }
def ptePartsRow : OpenClaim := { program := "ytkpbkmfogkkheaa", sum := "a2dd4bd61502c42484b353611604ceadd26abaa2549c0e627ad0aeebfbaef2a9", func := "pantry/pantrylaw03.PteParts", spec := "pteParts", apart := false }
def PtePartsSaid : Prop := ptePartsRow.holds Try.pinned (OpenSpec.ofChange ptePartsSpec)

/-- ITS FALSE NEIGHBOUR: 'it returns false'. Refute it at one input. -/
def ptePartsWrong : ChangeSpec := { name := "pteParts", fn := fun _ => fun
  | [d1, d2, d3] => { results := [.lit (.bool false)], args := [d1, d2, d3] }
  | _ => none }
def PtePartsWrongFalsely : Prop := ptePartsRow.holds Try.pinned (OpenSpec.ofChange ptePartsWrong)

/-- 'pantrylaw03.PteBack': WHATEVER THE INPUT: true; the input reads as it did. -/
def pteBackSpec : ChangeSpec := { name := "pteBack", fn := fun _ => fun
  | [d1, d2, d3] => { results := [.lit (.bool true)], args := [d1, d2, d3] }
  | _ => none }
def pteBackRow : OpenClaim := { program := "ytkpbkmfogkkheaa", sum := "a2dd4bd61502c42484b353611604ceadd26abaa2549c0e627ad0aeebfbaef2a9", func := "pantry/pantrylaw03.PteBack", spec := "pteBack", apart := false }
def PteBackSaid : Prop := pteBackRow.holds Try.pinned (OpenSpec.ofChange pteBackSpec)

/-- ITS FALSE NEIGHBOUR: 'it returns false'. Refute it at one input. -/
def pteBackWrong : ChangeSpec := { name := "pteBack", fn := fun _ => fun
  | [d1, d2, d3] => { results := [.lit (.bool false)], args := [d1, d2, d3] }
  | _ => none }
def PteBackWrongFalsely : Prop := pteBackRow.holds Try.pinned (OpenSpec.ofChange pteBackWrong)

/-- 'pantrylaw03.PteJoins': WHATEVER THE INPUT: true; the input reads as it did. -/
def pteJoinsSpec : ChangeSpec := { name := "pteJoins", fn := fun _ => fun
  | [d] => { results := [.lit (.bool true)], args := [d] }
  | _ => none }
def pteJoinsRow : OpenClaim := { program := "ytkpbkmfogkkheaa", sum := "a2dd4bd61502c42484b353611604ceadd26abaa2549c0e627ad0aeebfbaef2a9", func := "pantry/pantrylaw03.PteJoins", spec := "pteJoins", apart := false }
def PteJoinsSaid : Prop := pteJoinsRow.holds Try.pinned (OpenSpec.ofChange pteJoinsSpec)

/-- ITS FALSE NEIGHBOUR: 'it returns false'. Refute it at one input. -/
def pteJoinsWrong : ChangeSpec := { name := "pteJoins", fn := fun _ => fun
  | [d] => { results := [.lit (.bool false)], args := [d] }
  | _ => none }
def PteJoinsWrongFalsely : Prop := pteJoinsRow.holds Try.pinned (OpenSpec.ofChange pteJoinsWrong)

/-- 'pantrylaw03.PteGrants': WHATEVER THE INPUT: true; the input reads as it did. -/
def pteGrantsSpec : ChangeSpec := { name := "pteGrants", fn := fun _ => fun
  | [d1, d2] => { results := [.lit (.bool true)], args := [d1, d2] }
  | _ => none }
def pteGrantsRow : OpenClaim := { program := "ytkpbkmfogkkheaa", sum := "a2dd4bd61502c42484b353611604ceadd26abaa2549c0e627ad0aeebfbaef2a9", func := "pantry/pantrylaw03.PteGrants", spec := "pteGrants", apart := false }
def PteGrantsSaid : Prop := pteGrantsRow.holds Try.pinned (OpenSpec.ofChange pteGrantsSpec)

/-- ITS FALSE NEIGHBOUR: 'it returns false'. Refute it at one input. -/
def pteGrantsWrong : ChangeSpec := { name := "pteGrants", fn := fun _ => fun
  | [d1, d2] => { results := [.lit (.bool false)], args := [d1, d2] }
  | _ => none }
def PteGrantsWrongFalsely : Prop := pteGrantsRow.holds Try.pinned (OpenSpec.ofChange pteGrantsWrong)

/-- 'pantrylaw03.PteKinds': WHATEVER THE INPUT: true; the input reads as it did. -/
def pteKindsSpec : ChangeSpec := { name := "pteKinds", fn := fun _ => fun
  | [d1, d2, d3] => { results := [.lit (.bool true)], args := [d1, d2, d3] }
  | _ => none }
def pteKindsRow : OpenClaim := { program := "ytkpbkmfogkkheaa", sum := "a2dd4bd61502c42484b353611604ceadd26abaa2549c0e627ad0aeebfbaef2a9", func := "pantry/pantrylaw03.PteKinds", spec := "pteKinds", apart := false }
def PteKindsSaid : Prop := pteKindsRow.holds Try.pinned (OpenSpec.ofChange pteKindsSpec)

/-- ITS FALSE NEIGHBOUR: 'it returns false'. Refute it at one input. -/
def pteKindsWrong : ChangeSpec := { name := "pteKinds", fn := fun _ => fun
  | [d1, d2, d3] => { results := [.lit (.bool false)], args := [d1, d2, d3] }
  | _ => none }
def PteKindsWrongFalsely : Prop := pteKindsRow.holds Try.pinned (OpenSpec.ofChange pteKindsWrong)

/-- 'pantrylaw03.PteNext': WHATEVER THE INPUT: true; the input reads as it did. -/
def pteNextSpec : ChangeSpec := { name := "pteNext", fn := fun _ => fun
  | [d] => { results := [.lit (.bool true)], args := [d] }
  | _ => none }
def pteNextRow : OpenClaim := { program := "ytkpbkmfogkkheaa", sum := "a2dd4bd61502c42484b353611604ceadd26abaa2549c0e627ad0aeebfbaef2a9", func := "pantry/pantrylaw03.PteNext", spec := "pteNext", apart := false }
def PteNextSaid : Prop := pteNextRow.holds Try.pinned (OpenSpec.ofChange pteNextSpec)

/-- ITS FALSE NEIGHBOUR: 'it returns false'. Refute it at one input. -/
def pteNextWrong : ChangeSpec := { name := "pteNext", fn := fun _ => fun
  | [d] => { results := [.lit (.bool false)], args := [d] }
  | _ => none }
def PteNextWrongFalsely : Prop := pteNextRow.holds Try.pinned (OpenSpec.ofChange pteNextWrong)

/- THE SECOND FORM. 'bulk': how many values and letters a reading holds, each counted each time it is reached (what is shared counts as often as it is met; a slice's spare places count too). A statement '..UptoSaid' is the law's where the arguments, and the package variables that the reading takes, are together of bulk at most 1048576: NARROWER than '..Said'. Prove '..Said' where nothing that the law and all that it calls make is longer than what came in: it says more and counts as full. Else prove '..UptoSaid'. A law counts once. -/
mutual
def uptoBulk {H : Type} : DataW H → Nat
  | .lit (.string bytes) => bytes.length + 1
  | .lit _ => 1
  | .nil => 1
  | .ptr d => uptoBulk d + 1
  | .slice elems spare => uptoBulkAll elems + uptoBulkAll spare + 1
  | .agg parts => uptoBulkAll parts + 1
  | .iface _ d => uptoBulk d + 1
  | .map entries => uptoBulkEntries entries + 1
  | .held _ => 1
def uptoBulkAll {H : Type} : List (DataW H) → Nat
  | [] => 0
  | d :: r => uptoBulk d + uptoBulkAll r
def uptoBulkEntries {H : Type} : List (Lit × DataW H) → Nat
  | [] => 0
  | x :: r => uptoBulkEntry x + uptoBulkEntries r
def uptoBulkEntry {H : Type} : Lit × DataW H → Nat
  | (.string bytes, d) => bytes.length + uptoBulk d + 1
  | (_, d) => uptoBulk d + 1
 end
def uptoSmall : (H : Type) → List (DataW H) → Bool := fun _ ds => decide (uptoBulkAll ds ≤ 1048576)
def OpenSpec.upto (s : _root_.Go.ChangeSpec) : _root_.Go.OpenSpec := { _root_.Go.OpenSpec.ofChange s with cond := some uptoSmall }

/-- 'pantrylaw03.PteCodes', WHERE WHAT IT READS IS OF BULK AT MOST 1048576: true; the input reads as it did. -/
def pteCodesUptoRow : OpenClaim := { program := "ytkpbkmfogkkheaa", sum := "a2dd4bd61502c42484b353611604ceadd26abaa2549c0e627ad0aeebfbaef2a9", func := "pantry/pantrylaw03.PteCodes", spec := "pteCodes", apart := false, narrowed := true }
def PteCodesUptoSaid : Prop := pteCodesUptoRow.holds Try.pinned (OpenSpec.upto pteCodesSpec)

/-- 'pantrylaw03.PteRights', WHERE WHAT IT READS IS OF BULK AT MOST 1048576: true; the input reads as it did. -/
def pteRightsUptoRow : OpenClaim := { program := "ytkpbkmfogkkheaa", sum := "a2dd4bd61502c42484b353611604ceadd26abaa2549c0e627ad0aeebfbaef2a9", func := "pantry/pantrylaw03.PteRights", spec := "pteRights", apart := false, narrowed := true }
def PteRightsUptoSaid : Prop := pteRightsUptoRow.holds Try.pinned (OpenSpec.upto pteRightsSpec)

/-- 'pantrylaw03.PteParts', WHERE WHAT IT READS IS OF BULK AT MOST 1048576: true; the input reads as it did. -/
def ptePartsUptoRow : OpenClaim := { program := "ytkpbkmfogkkheaa", sum := "a2dd4bd61502c42484b353611604ceadd26abaa2549c0e627ad0aeebfbaef2a9", func := "pantry/pantrylaw03.PteParts", spec := "pteParts", apart := false, narrowed := true }
def PtePartsUptoSaid : Prop := ptePartsUptoRow.holds Try.pinned (OpenSpec.upto ptePartsSpec)

/-- 'pantrylaw03.PteBack', WHERE WHAT IT READS IS OF BULK AT MOST 1048576: true; the input reads as it did. -/
def pteBackUptoRow : OpenClaim := { program := "ytkpbkmfogkkheaa", sum := "a2dd4bd61502c42484b353611604ceadd26abaa2549c0e627ad0aeebfbaef2a9", func := "pantry/pantrylaw03.PteBack", spec := "pteBack", apart := false, narrowed := true }
def PteBackUptoSaid : Prop := pteBackUptoRow.holds Try.pinned (OpenSpec.upto pteBackSpec)

/-- 'pantrylaw03.PteJoins', WHERE WHAT IT READS IS OF BULK AT MOST 1048576: true; the input reads as it did. -/
def pteJoinsUptoRow : OpenClaim := { program := "ytkpbkmfogkkheaa", sum := "a2dd4bd61502c42484b353611604ceadd26abaa2549c0e627ad0aeebfbaef2a9", func := "pantry/pantrylaw03.PteJoins", spec := "pteJoins", apart := false, narrowed := true }
def PteJoinsUptoSaid : Prop := pteJoinsUptoRow.holds Try.pinned (OpenSpec.upto pteJoinsSpec)

/-- 'pantrylaw03.PteGrants', WHERE WHAT IT READS IS OF BULK AT MOST 1048576: true; the input reads as it did. -/
def pteGrantsUptoRow : OpenClaim := { program := "ytkpbkmfogkkheaa", sum := "a2dd4bd61502c42484b353611604ceadd26abaa2549c0e627ad0aeebfbaef2a9", func := "pantry/pantrylaw03.PteGrants", spec := "pteGrants", apart := false, narrowed := true }
def PteGrantsUptoSaid : Prop := pteGrantsUptoRow.holds Try.pinned (OpenSpec.upto pteGrantsSpec)

/-- 'pantrylaw03.PteKinds', WHERE WHAT IT READS IS OF BULK AT MOST 1048576: true; the input reads as it did. -/
def pteKindsUptoRow : OpenClaim := { program := "ytkpbkmfogkkheaa", sum := "a2dd4bd61502c42484b353611604ceadd26abaa2549c0e627ad0aeebfbaef2a9", func := "pantry/pantrylaw03.PteKinds", spec := "pteKinds", apart := false, narrowed := true }
def PteKindsUptoSaid : Prop := pteKindsUptoRow.holds Try.pinned (OpenSpec.upto pteKindsSpec)

/-- 'pantrylaw03.PteNext', WHERE WHAT IT READS IS OF BULK AT MOST 1048576: true; the input reads as it did. -/
def pteNextUptoRow : OpenClaim := { program := "ytkpbkmfogkkheaa", sum := "a2dd4bd61502c42484b353611604ceadd26abaa2549c0e627ad0aeebfbaef2a9", func := "pantry/pantrylaw03.PteNext", spec := "pteNext", apart := false, narrowed := true }
def PteNextUptoSaid : Prop := pteNextUptoRow.holds Try.pinned (OpenSpec.upto pteNextSpec)

end Rows
end Go.Proofs.Ytkpbkmfogkkheaa
