/-
  No cell of these rows narrows 'for every input' (looked for: loops, veiled, ifaces, maps, wideKeys, modest, calm, conditions, laid).
  DERIVED. THE GIVEN ROWS OF THIS SEAT. 5 by the template 'for every input the law returns true; each argument reads behind the call as it read before'; 0 by the template 'total and deterministic' (their statements: YtfmihbiongnpnaaTotals.lean).
  GIVEN WITH THE SEED: the statements are not yours to turn. If you find one false, say at which input.
  Laid BY PROGRAM, IN A SANDBOX (cutbox-rows.mjs): the forced cells as the released guide's own fill.sh prints them over the translation f3e858881c3fea0b… (all of the seat's roots in one cut). By AI agents, Wed Nov 11 2026. No macro, syntax, notation, axiom, sorry.
-/
import Derived.Test.YtfmihbiongnpnaaChecked
import GoSem.Claim
import GoSem.ClaimJoined
import GoSem.ClaimMapViews
import Derived.JoinedTies
import Derived.KernelRfl
namespace Go.Proofs.Ytfmihbiongnpnaa
/- THE CELL 'sum', in the pinned program and in every row, IS THE sha256 OF THE DUMP (.gsa) THAT YtfmihbiongnpnaaProg.lean LOADS. Nothing in Lean hashes anything: it is a label: what it is worth is what the hold of that sum in a sandbox is worth. -/
noncomputable def Try.pinned : Pinned := { name := "ytfmihbiongnpnaa", sum := "f3e858881c3fea0bd5a9518ff65cd4a13cc81b56dd8c0514689425603f35676a", checked := Try.checked }
namespace Rows
def none {H : Type} : Left H := { results := [], args := [] }

/-- 'pantrylaw13.AmapActs': WHATEVER THE INPUT: true; the input reads as it did. -/
def amapActsSpec : ChangeSpec := { name := "amapActs", fn := fun _ => fun
  | [d1, d2, d3] => { results := [.lit (.bool true)], args := [d1, d2, d3] }
  | _ => none }
def amapActsRow : OpenClaim := { program := "ytfmihbiongnpnaa", sum := "f3e858881c3fea0bd5a9518ff65cd4a13cc81b56dd8c0514689425603f35676a", func := "pantry/pantrylaw13.AmapActs", spec := "amapActs", unfollowed := true, recurses := true, apart := false }
def AmapActsSaid : Prop := amapActsRow.holds Try.pinned (OpenSpec.ofChange amapActsSpec)

/-- ITS FALSE NEIGHBOUR: 'it returns false'. Refute it at one input. -/
def amapActsWrong : ChangeSpec := { name := "amapActs", fn := fun _ => fun
  | [d1, d2, d3] => { results := [.lit (.bool false)], args := [d1, d2, d3] }
  | _ => none }
def AmapActsWrongFalsely : Prop := amapActsRow.holds Try.pinned (OpenSpec.ofChange amapActsWrong)

/-- 'pantrylaw13.AmapCovers': WHATEVER THE INPUT: true; the input reads as it did. -/
def amapCoversSpec : ChangeSpec := { name := "amapCovers", fn := fun _ => fun
  | [d1, d2] => { results := [.lit (.bool true)], args := [d1, d2] }
  | _ => none }
def amapCoversRow : OpenClaim := { program := "ytfmihbiongnpnaa", sum := "f3e858881c3fea0bd5a9518ff65cd4a13cc81b56dd8c0514689425603f35676a", func := "pantry/pantrylaw13.AmapCovers", spec := "amapCovers", unfollowed := true, recurses := true, apart := false }
def AmapCoversSaid : Prop := amapCoversRow.holds Try.pinned (OpenSpec.ofChange amapCoversSpec)

/-- ITS FALSE NEIGHBOUR: 'it returns false'. Refute it at one input. -/
def amapCoversWrong : ChangeSpec := { name := "amapCovers", fn := fun _ => fun
  | [d1, d2] => { results := [.lit (.bool false)], args := [d1, d2] }
  | _ => none }
def AmapCoversWrongFalsely : Prop := amapCoversRow.holds Try.pinned (OpenSpec.ofChange amapCoversWrong)

/-- 'pantrylaw13.AmapCopies': WHATEVER THE INPUT: true; the input reads as it did. -/
def amapCopiesSpec : ChangeSpec := { name := "amapCopies", fn := fun _ => fun
  | [d1, d2, d3] => { results := [.lit (.bool true)], args := [d1, d2, d3] }
  | _ => none }
def amapCopiesRow : OpenClaim := { program := "ytfmihbiongnpnaa", sum := "f3e858881c3fea0bd5a9518ff65cd4a13cc81b56dd8c0514689425603f35676a", func := "pantry/pantrylaw13.AmapCopies", spec := "amapCopies", unfollowed := true, recurses := true, apart := false }
def AmapCopiesSaid : Prop := amapCopiesRow.holds Try.pinned (OpenSpec.ofChange amapCopiesSpec)

/-- ITS FALSE NEIGHBOUR: 'it returns false'. Refute it at one input. -/
def amapCopiesWrong : ChangeSpec := { name := "amapCopies", fn := fun _ => fun
  | [d1, d2, d3] => { results := [.lit (.bool false)], args := [d1, d2, d3] }
  | _ => none }
def AmapCopiesWrongFalsely : Prop := amapCopiesRow.holds Try.pinned (OpenSpec.ofChange amapCopiesWrong)

/-- 'pantrylaw13.AmapNone': WHATEVER THE INPUT: true; the input reads as it did. -/
def amapNoneSpec : ChangeSpec := { name := "amapNone", fn := fun _ => fun
  | [d] => { results := [.lit (.bool true)], args := [d] }
  | _ => none }
def amapNoneRow : OpenClaim := { program := "ytfmihbiongnpnaa", sum := "f3e858881c3fea0bd5a9518ff65cd4a13cc81b56dd8c0514689425603f35676a", func := "pantry/pantrylaw13.AmapNone", spec := "amapNone", unfollowed := true, recurses := true, apart := false }
def AmapNoneSaid : Prop := amapNoneRow.holds Try.pinned (OpenSpec.ofChange amapNoneSpec)

/-- ITS FALSE NEIGHBOUR: 'it returns false'. Refute it at one input. -/
def amapNoneWrong : ChangeSpec := { name := "amapNone", fn := fun _ => fun
  | [d] => { results := [.lit (.bool false)], args := [d] }
  | _ => none }
def AmapNoneWrongFalsely : Prop := amapNoneRow.holds Try.pinned (OpenSpec.ofChange amapNoneWrong)

/-- 'pantrylaw13.AmapNumbers': WHATEVER THE INPUT: true; the input reads as it did. -/
def amapNumbersSpec : ChangeSpec := { name := "amapNumbers", fn := fun _ => fun
  | [d1, d2] => { results := [.lit (.bool true)], args := [d1, d2] }
  | _ => none }
def amapNumbersRow : OpenClaim := { program := "ytfmihbiongnpnaa", sum := "f3e858881c3fea0bd5a9518ff65cd4a13cc81b56dd8c0514689425603f35676a", func := "pantry/pantrylaw13.AmapNumbers", spec := "amapNumbers", unfollowed := true, recurses := true, apart := false }
def AmapNumbersSaid : Prop := amapNumbersRow.holds Try.pinned (OpenSpec.ofChange amapNumbersSpec)

/-- ITS FALSE NEIGHBOUR: 'it returns false'. Refute it at one input. -/
def amapNumbersWrong : ChangeSpec := { name := "amapNumbers", fn := fun _ => fun
  | [d1, d2] => { results := [.lit (.bool false)], args := [d1, d2] }
  | _ => none }
def AmapNumbersWrongFalsely : Prop := amapNumbersRow.holds Try.pinned (OpenSpec.ofChange amapNumbersWrong)

/- THE SECOND FORM. 'bulk': how many values and letters a reading holds, each counted each time it is reached (what is shared counts as often as it is met; a slice's spare places count too). A statement '..UptoSaid' is the law's where the arguments, and the package variables that the reading takes, are together of bulk at most 1048576: NARROWER than '..Said'. Prove '..Said' where nothing that the law and all that it calls make is longer than what came in: it says more and counts as full. Else prove '..UptoSaid'. A law counts once. -/
mutual
def uptoBulk {H : Type} : DataW H → Nat
  | .lit (.string bytes) => bytes.length + 1
  | .lit _ => 1
  | .nil => 1
  | .ptr d => uptoBulk d + 1
  | .slice elems spare => uptoBulkAll elems + uptoBulkAll spare + 1
  | .agg parts => uptoBulkAll parts + 1
  | .iface _ d => uptoBulk d + 1
  | .map entries => uptoBulkEntries entries + 1
  | .held _ => 1
def uptoBulkAll {H : Type} : List (DataW H) → Nat
  | [] => 0
  | d :: r => uptoBulk d + uptoBulkAll r
def uptoBulkEntries {H : Type} : List (Lit × DataW H) → Nat
  | [] => 0
  | x :: r => uptoBulkEntry x + uptoBulkEntries r
def uptoBulkEntry {H : Type} : Lit × DataW H → Nat
  | (.string bytes, d) => bytes.length + uptoBulk d + 1
  | (_, d) => uptoBulk d + 1
 end
def uptoSmall : (H : Type) → List (DataW H) → Bool := fun _ ds => decide (uptoBulkAll ds ≤ 1048576)
def OpenSpec.upto (s : _root_.Go.ChangeSpec) : _root_.Go.OpenSpec := { _root_.Go.OpenSpec.ofChange s with cond := some uptoSmall }

/-- 'pantrylaw13.AmapActs', WHERE WHAT IT READS IS OF BULK AT MOST 1048576: true; the input reads as it did. -/
def amapActsUptoRow : OpenClaim := { program := "ytfmihbiongnpnaa", sum := "f3e858881c3fea0bd5a9518ff65cd4a13cc81b56dd8c0514689425603f35676a", func := "pantry/pantrylaw13.AmapActs", spec := "amapActs", unfollowed := true, recurses := true, apart := false, narrowed := true }
def AmapActsUptoSaid : Prop := amapActsUptoRow.holds Try.pinned (OpenSpec.upto amapActsSpec)

/-- 'pantrylaw13.AmapCovers', WHERE WHAT IT READS IS OF BULK AT MOST 1048576: true; the input reads as it did. -/
def amapCoversUptoRow : OpenClaim := { program := "ytfmihbiongnpnaa", sum := "f3e858881c3fea0bd5a9518ff65cd4a13cc81b56dd8c0514689425603f35676a", func := "pantry/pantrylaw13.AmapCovers", spec := "amapCovers", unfollowed := true, recurses := true, apart := false, narrowed := true }
def AmapCoversUptoSaid : Prop := amapCoversUptoRow.holds Try.pinned (OpenSpec.upto amapCoversSpec)

/-- 'pantrylaw13.AmapCopies', WHERE WHAT IT READS IS OF BULK AT MOST 1048576: true; the input reads as it did. -/
def amapCopiesUptoRow : OpenClaim := { program := "ytfmihbiongnpnaa", sum := "f3e858881c3fea0bd5a9518ff65cd4a13cc81b56dd8c0514689425603f35676a", func := "pantry/pantrylaw13.AmapCopies", spec := "amapCopies", unfollowed := true, recurses := true, apart := false, narrowed := true }
def AmapCopiesUptoSaid : Prop := amapCopiesUptoRow.holds Try.pinned (OpenSpec.upto amapCopiesSpec)

/-- 'pantrylaw13.AmapNone', WHERE WHAT IT READS IS OF BULK AT MOST 1048576: true; the input reads as it did. -/
def amapNoneUptoRow : OpenClaim := { program := "ytfmihbiongnpnaa", sum := "f3e858881c3fea0bd5a9518ff65cd4a13cc81b56dd8c0514689425603f35676a", func := "pantry/pantrylaw13.AmapNone", spec := "amapNone", unfollowed := true, recurses := true, apart := false, narrowed := true }
def AmapNoneUptoSaid : Prop := amapNoneUptoRow.holds Try.pinned (OpenSpec.upto amapNoneSpec)

/-- 'pantrylaw13.AmapNumbers', WHERE WHAT IT READS IS OF BULK AT MOST 1048576: true; the input reads as it did. -/
def amapNumbersUptoRow : OpenClaim := { program := "ytfmihbiongnpnaa", sum := "f3e858881c3fea0bd5a9518ff65cd4a13cc81b56dd8c0514689425603f35676a", func := "pantry/pantrylaw13.AmapNumbers", spec := "amapNumbers", unfollowed := true, recurses := true, apart := false, narrowed := true }
def AmapNumbersUptoSaid : Prop := amapNumbersUptoRow.holds Try.pinned (OpenSpec.upto amapNumbersSpec)

end Rows
end Go.Proofs.Ytfmihbiongnpnaa
