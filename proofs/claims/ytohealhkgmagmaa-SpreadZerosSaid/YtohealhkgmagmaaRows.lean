/-
  No cell of these rows narrows 'for every input' (looked for: loops, veiled, ifaces, maps, wideKeys, modest, calm, conditions, laid).
  DERIVED. THE GIVEN ROWS OF THIS SEAT. 5 by the template 'for every input the law returns true; each argument reads behind the call as it read before'; 0 by the template 'total and deterministic' (their statements: YtohealhkgmagmaaTotals.lean).
  GIVEN WITH THE SEED: the statements are not yours to turn. If you find one false, say at which input.
  Laid BY PROGRAM, IN A SANDBOX (cutbox-rows.mjs): the forced cells as the released guide's own fill.sh prints them over the translation f87e00a07989a333… (all of the seat's roots in one cut). By AI agents, Wed Nov 11 2026. No macro, syntax, notation, axiom, sorry.
-/
import Derived.Test.YtohealhkgmagmaaChecked
import GoSem.Claim
import GoSem.ClaimJoined
import GoSem.ClaimMapViews
import Derived.JoinedTies
import Derived.KernelRfl
namespace Go.Proofs.Ytohealhkgmagmaa
/- THE CELL 'sum', in the pinned program and in every row, IS THE sha256 OF THE DUMP (.gsa) THAT YtohealhkgmagmaaProg.lean LOADS. Nothing in Lean hashes anything: it is a label: what it is worth is what the hold of that sum in a sandbox is worth. -/
noncomputable def Try.pinned : Pinned := { name := "ytohealhkgmagmaa", sum := "f87e00a07989a333fbca5bbf00a6aa577ffc16a4a17fe5c6def3aab1e19b19fb", checked := Try.checked }
namespace Rows
def none {H : Type} : Left H := { results := [], args := [] }

/-- 'pantrylaw11.SpreadActs': WHATEVER THE INPUT: true; the input reads as it did. -/
def spreadActsSpec : ChangeSpec := { name := "spreadActs", fn := fun _ => fun
  | [d1, d2] => { results := [.lit (.bool true)], args := [d1, d2] }
  | _ => none }
def spreadActsRow : OpenClaim := { program := "ytohealhkgmagmaa", sum := "f87e00a07989a333fbca5bbf00a6aa577ffc16a4a17fe5c6def3aab1e19b19fb", func := "pantry/pantrylaw11.SpreadActs", spec := "spreadActs", unfollowed := true, recurses := true, apart := false }
def SpreadActsSaid : Prop := spreadActsRow.holds Try.pinned (OpenSpec.ofChange spreadActsSpec)

/-- ITS FALSE NEIGHBOUR: 'it returns false'. Refute it at one input. -/
def spreadActsWrong : ChangeSpec := { name := "spreadActs", fn := fun _ => fun
  | [d1, d2] => { results := [.lit (.bool false)], args := [d1, d2] }
  | _ => none }
def SpreadActsWrongFalsely : Prop := spreadActsRow.holds Try.pinned (OpenSpec.ofChange spreadActsWrong)

/-- 'pantrylaw11.SpreadRuns': WHATEVER THE INPUT: true; the input reads as it did. -/
def spreadRunsSpec : ChangeSpec := { name := "spreadRuns", fn := fun _ => fun
  | [d1, d2] => { results := [.lit (.bool true)], args := [d1, d2] }
  | _ => none }
def spreadRunsRow : OpenClaim := { program := "ytohealhkgmagmaa", sum := "f87e00a07989a333fbca5bbf00a6aa577ffc16a4a17fe5c6def3aab1e19b19fb", func := "pantry/pantrylaw11.SpreadRuns", spec := "spreadRuns", unfollowed := true, recurses := true, apart := false }
def SpreadRunsSaid : Prop := spreadRunsRow.holds Try.pinned (OpenSpec.ofChange spreadRunsSpec)

/-- ITS FALSE NEIGHBOUR: 'it returns false'. Refute it at one input. -/
def spreadRunsWrong : ChangeSpec := { name := "spreadRuns", fn := fun _ => fun
  | [d1, d2] => { results := [.lit (.bool false)], args := [d1, d2] }
  | _ => none }
def SpreadRunsWrongFalsely : Prop := spreadRunsRow.holds Try.pinned (OpenSpec.ofChange spreadRunsWrong)

/-- 'pantrylaw11.SpreadBack': WHATEVER THE INPUT: true; the input reads as it did. -/
def spreadBackSpec : ChangeSpec := { name := "spreadBack", fn := fun _ => fun
  | [d1, d2, d3] => { results := [.lit (.bool true)], args := [d1, d2, d3] }
  | _ => none }
def spreadBackRow : OpenClaim := { program := "ytohealhkgmagmaa", sum := "f87e00a07989a333fbca5bbf00a6aa577ffc16a4a17fe5c6def3aab1e19b19fb", func := "pantry/pantrylaw11.SpreadBack", spec := "spreadBack", unfollowed := true, recurses := true, apart := false }
def SpreadBackSaid : Prop := spreadBackRow.holds Try.pinned (OpenSpec.ofChange spreadBackSpec)

/-- ITS FALSE NEIGHBOUR: 'it returns false'. Refute it at one input. -/
def spreadBackWrong : ChangeSpec := { name := "spreadBack", fn := fun _ => fun
  | [d1, d2, d3] => { results := [.lit (.bool false)], args := [d1, d2, d3] }
  | _ => none }
def SpreadBackWrongFalsely : Prop := spreadBackRow.holds Try.pinned (OpenSpec.ofChange spreadBackWrong)

/-- 'pantrylaw11.SpreadNone': WHATEVER THE INPUT: true; the input reads as it did. -/
def spreadNoneSpec : ChangeSpec := { name := "spreadNone", fn := fun _ => fun
  | [d] => { results := [.lit (.bool true)], args := [d] }
  | _ => none }
def spreadNoneRow : OpenClaim := { program := "ytohealhkgmagmaa", sum := "f87e00a07989a333fbca5bbf00a6aa577ffc16a4a17fe5c6def3aab1e19b19fb", func := "pantry/pantrylaw11.SpreadNone", spec := "spreadNone", unfollowed := true, recurses := true, apart := false }
def SpreadNoneSaid : Prop := spreadNoneRow.holds Try.pinned (OpenSpec.ofChange spreadNoneSpec)

/-- ITS FALSE NEIGHBOUR: 'it returns false'. Refute it at one input. -/
def spreadNoneWrong : ChangeSpec := { name := "spreadNone", fn := fun _ => fun
  | [d] => { results := [.lit (.bool false)], args := [d] }
  | _ => none }
def SpreadNoneWrongFalsely : Prop := spreadNoneRow.holds Try.pinned (OpenSpec.ofChange spreadNoneWrong)

/-- 'pantrylaw11.SpreadZeros': WHATEVER THE INPUT: true; the input reads as it did. -/
def spreadZerosSpec : ChangeSpec := { name := "spreadZeros", fn := fun _ => fun
  | [d1, d2] => { results := [.lit (.bool true)], args := [d1, d2] }
  | _ => none }
def spreadZerosRow : OpenClaim := { program := "ytohealhkgmagmaa", sum := "f87e00a07989a333fbca5bbf00a6aa577ffc16a4a17fe5c6def3aab1e19b19fb", func := "pantry/pantrylaw11.SpreadZeros", spec := "spreadZeros", unfollowed := true, recurses := true, apart := false }
def SpreadZerosSaid : Prop := spreadZerosRow.holds Try.pinned (OpenSpec.ofChange spreadZerosSpec)

/-- ITS FALSE NEIGHBOUR: 'it returns false'. Refute it at one input. -/
def spreadZerosWrong : ChangeSpec := { name := "spreadZeros", fn := fun _ => fun
  | [d1, d2] => { results := [.lit (.bool false)], args := [d1, d2] }
  | _ => none }
def SpreadZerosWrongFalsely : Prop := spreadZerosRow.holds Try.pinned (OpenSpec.ofChange spreadZerosWrong)

/- THE SECOND FORM. 'bulk': how many values and letters a reading holds, each counted each time it is reached (what is shared counts as often as it is met; a slice's spare places count too). A statement '..UptoSaid' is the law's where the arguments, and the package variables that the reading takes, are together of bulk at most 1048576: NARROWER than '..Said'. Prove '..Said' where nothing that the law and all that it calls make is longer than what came in: it says more and counts as full. Else prove '..UptoSaid'. A law counts once. -/
mutual
def uptoBulk {H : Type} : DataW H → Nat
  | .lit (.string bytes) => bytes.length + 1
  | .lit _ => 1
  | .nil => 1
  | .ptr d => uptoBulk d + 1
  | .slice elems spare => uptoBulkAll elems + uptoBulkAll spare + 1
  | .agg parts => uptoBulkAll parts + 1
  | .iface _ d => uptoBulk d + 1
  | .map entries => uptoBulkEntries entries + 1
  | .held _ => 1
def uptoBulkAll {H : Type} : List (DataW H) → Nat
  | [] => 0
  | d :: r => uptoBulk d + uptoBulkAll r
def uptoBulkEntries {H : Type} : List (Lit × DataW H) → Nat
  | [] => 0
  | x :: r => uptoBulkEntry x + uptoBulkEntries r
def uptoBulkEntry {H : Type} : Lit × DataW H → Nat
  | (.string bytes, d) => bytes.length + uptoBulk d + 1
  | (_, d) => uptoBulk d + 1
 end
def uptoSmall : (H : Type) → List (DataW H) → Bool := fun _ ds => decide (uptoBulkAll ds ≤ 1048576)
def OpenSpec.upto (s : _root_.Go.ChangeSpec) : _root_.Go.OpenSpec := { _root_.Go.OpenSpec.ofChange s with cond := some uptoSmall }

/-- 'pantrylaw11.SpreadActs', WHERE WHAT IT READS IS OF BULK AT MOST 1048576: true; the input reads as it did. -/
def spreadActsUptoRow : OpenClaim := { program := "ytohealhkgmagmaa", sum := "f87e00a07989a333fbca5bbf00a6aa577ffc16a4a17fe5c6def3aab1e19b19fb", func := "pantry/pantrylaw11.SpreadActs", spec := "spreadActs", unfollowed := true, recurses := true, apart := false, narrowed := true }
def SpreadActsUptoSaid : Prop := spreadActsUptoRow.holds Try.pinned (OpenSpec.upto spreadActsSpec)

/-- 'pantrylaw11.SpreadRuns', WHERE WHAT IT READS IS OF BULK AT MOST 1048576: true; the input reads as it did. -/
def spreadRunsUptoRow : OpenClaim := { program := "ytohealhkgmagmaa", sum := "f87e00a07989a333fbca5bbf00a6aa577ffc16a4a17fe5c6def3aab1e19b19fb", func := "pantry/pantrylaw11.SpreadRuns", spec := "spreadRuns", unfollowed := true, recurses := true, apart := false, narrowed := true }
def SpreadRunsUptoSaid : Prop := spreadRunsUptoRow.holds Try.pinned (OpenSpec.upto spreadRunsSpec)

/-- 'pantrylaw11.SpreadBack', WHERE WHAT IT READS IS OF BULK AT MOST 1048576: true; the input reads as it did. -/
def spreadBackUptoRow : OpenClaim := { program := "ytohealhkgmagmaa", sum := "f87e00a07989a333fbca5bbf00a6aa577ffc16a4a17fe5c6def3aab1e19b19fb", func := "pantry/pantrylaw11.SpreadBack", spec := "spreadBack", unfollowed := true, recurses := true, apart := false, narrowed := true }
def SpreadBackUptoSaid : Prop := spreadBackUptoRow.holds Try.pinned (OpenSpec.upto spreadBackSpec)

/-- 'pantrylaw11.SpreadNone', WHERE WHAT IT READS IS OF BULK AT MOST 1048576: true; the input reads as it did. -/
def spreadNoneUptoRow : OpenClaim := { program := "ytohealhkgmagmaa", sum := "f87e00a07989a333fbca5bbf00a6aa577ffc16a4a17fe5c6def3aab1e19b19fb", func := "pantry/pantrylaw11.SpreadNone", spec := "spreadNone", unfollowed := true, recurses := true, apart := false, narrowed := true }
def SpreadNoneUptoSaid : Prop := spreadNoneUptoRow.holds Try.pinned (OpenSpec.upto spreadNoneSpec)

/-- 'pantrylaw11.SpreadZeros', WHERE WHAT IT READS IS OF BULK AT MOST 1048576: true; the input reads as it did. -/
def spreadZerosUptoRow : OpenClaim := { program := "ytohealhkgmagmaa", sum := "f87e00a07989a333fbca5bbf00a6aa577ffc16a4a17fe5c6def3aab1e19b19fb", func := "pantry/pantrylaw11.SpreadZeros", spec := "spreadZeros", unfollowed := true, recurses := true, apart := false, narrowed := true }
def SpreadZerosUptoSaid : Prop := spreadZerosUptoRow.holds Try.pinned (OpenSpec.upto spreadZerosSpec)

end Rows
end Go.Proofs.Ytohealhkgmagmaa
