/-
  No cell of these rows narrows 'for every input' (looked for: loops, veiled, ifaces, maps, wideKeys, modest, calm, conditions, laid).
  DERIVED. THE GIVEN ROWS OF THIS SEAT. 5 by the template 'for every input the law returns true; each argument reads behind the call as it read before'; 0 by the template 'total and deterministic' (their statements: YtabgfjmfhkfbmaaTotals.lean).
  GIVEN WITH THE SEED: the statements are not yours to turn. If you find one false, say at which input.
  Laid BY PROGRAM, IN A SANDBOX (cutbox-rows.mjs): the forced cells as the released guide's own fill.sh prints them over the translation 8b6db6bedbbf069a… (all of the seat's roots in one cut). By AI agents, Wed Nov 11 2026. No macro, syntax, notation, axiom, sorry.
-/
import Derived.Test.YtabgfjmfhkfbmaaChecked
import GoSem.Claim
import GoSem.ClaimJoined
import GoSem.ClaimMapViews
import Derived.JoinedTies
import Derived.KernelRfl
namespace Go.Proofs.Ytabgfjmfhkfbmaa
/- THE CELL 'sum', in the pinned program and in every row, IS THE sha256 OF THE DUMP (.gsa) THAT YtabgfjmfhkfbmaaProg.lean LOADS. Nothing in Lean hashes anything: it is a label: what it is worth is what the hold of that sum in a sandbox is worth. -/
noncomputable def Try.pinned : Pinned := { name := "ytabgfjmfhkfbmaa", sum := "8b6db6bedbbf069a5b9a32c6b6e0800e9d39c9884dd96f55f955d4d407fdb917", checked := Try.checked }
namespace Rows
def none {H : Type} : Left H := { results := [], args := [] }

/-- 'pantrylaw06.FramesActs': WHATEVER THE INPUT: true; the input reads as it did. -/
def framesActsSpec : ChangeSpec := { name := "framesActs", fn := fun _ => fun
  | [d1, d2, d3] => { results := [.lit (.bool true)], args := [d1, d2, d3] }
  | _ => none }
def framesActsRow : OpenClaim := { program := "ytabgfjmfhkfbmaa", sum := "8b6db6bedbbf069a5b9a32c6b6e0800e9d39c9884dd96f55f955d4d407fdb917", func := "pantry/pantrylaw06.FramesActs", spec := "framesActs", unfollowed := true, recurses := true, apart := false }
def FramesActsSaid : Prop := framesActsRow.holds Try.pinned (OpenSpec.ofChange framesActsSpec)

/-- ITS FALSE NEIGHBOUR: 'it returns false'. Refute it at one input. -/
def framesActsWrong : ChangeSpec := { name := "framesActs", fn := fun _ => fun
  | [d1, d2, d3] => { results := [.lit (.bool false)], args := [d1, d2, d3] }
  | _ => none }
def FramesActsWrongFalsely : Prop := framesActsRow.holds Try.pinned (OpenSpec.ofChange framesActsWrong)

/-- 'pantrylaw06.FramesClasses': WHATEVER THE INPUT: true; the input reads as it did. -/
def framesClassesSpec : ChangeSpec := { name := "framesClasses", fn := fun _ => fun
  | [d1, d2] => { results := [.lit (.bool true)], args := [d1, d2] }
  | _ => none }
def framesClassesRow : OpenClaim := { program := "ytabgfjmfhkfbmaa", sum := "8b6db6bedbbf069a5b9a32c6b6e0800e9d39c9884dd96f55f955d4d407fdb917", func := "pantry/pantrylaw06.FramesClasses", spec := "framesClasses", unfollowed := true, recurses := true, apart := false }
def FramesClassesSaid : Prop := framesClassesRow.holds Try.pinned (OpenSpec.ofChange framesClassesSpec)

/-- ITS FALSE NEIGHBOUR: 'it returns false'. Refute it at one input. -/
def framesClassesWrong : ChangeSpec := { name := "framesClasses", fn := fun _ => fun
  | [d1, d2] => { results := [.lit (.bool false)], args := [d1, d2] }
  | _ => none }
def FramesClassesWrongFalsely : Prop := framesClassesRow.holds Try.pinned (OpenSpec.ofChange framesClassesWrong)

/-- 'pantrylaw06.FramesReserve': WHATEVER THE INPUT: true; the input reads as it did. -/
def framesReserveSpec : ChangeSpec := { name := "framesReserve", fn := fun _ => fun
  | [d1, d2, d3] => { results := [.lit (.bool true)], args := [d1, d2, d3] }
  | _ => none }
def framesReserveRow : OpenClaim := { program := "ytabgfjmfhkfbmaa", sum := "8b6db6bedbbf069a5b9a32c6b6e0800e9d39c9884dd96f55f955d4d407fdb917", func := "pantry/pantrylaw06.FramesReserve", spec := "framesReserve", unfollowed := true, recurses := true, apart := false }
def FramesReserveSaid : Prop := framesReserveRow.holds Try.pinned (OpenSpec.ofChange framesReserveSpec)

/-- ITS FALSE NEIGHBOUR: 'it returns false'. Refute it at one input. -/
def framesReserveWrong : ChangeSpec := { name := "framesReserve", fn := fun _ => fun
  | [d1, d2, d3] => { results := [.lit (.bool false)], args := [d1, d2, d3] }
  | _ => none }
def FramesReserveWrongFalsely : Prop := framesReserveRow.holds Try.pinned (OpenSpec.ofChange framesReserveWrong)

/-- 'pantrylaw06.FramesNone': WHATEVER THE INPUT: true; the input reads as it did. -/
def framesNoneSpec : ChangeSpec := { name := "framesNone", fn := fun _ => fun
  | [d] => { results := [.lit (.bool true)], args := [d] }
  | _ => none }
def framesNoneRow : OpenClaim := { program := "ytabgfjmfhkfbmaa", sum := "8b6db6bedbbf069a5b9a32c6b6e0800e9d39c9884dd96f55f955d4d407fdb917", func := "pantry/pantrylaw06.FramesNone", spec := "framesNone", unfollowed := true, recurses := true, apart := false }
def FramesNoneSaid : Prop := framesNoneRow.holds Try.pinned (OpenSpec.ofChange framesNoneSpec)

/-- ITS FALSE NEIGHBOUR: 'it returns false'. Refute it at one input. -/
def framesNoneWrong : ChangeSpec := { name := "framesNone", fn := fun _ => fun
  | [d] => { results := [.lit (.bool false)], args := [d] }
  | _ => none }
def FramesNoneWrongFalsely : Prop := framesNoneRow.holds Try.pinned (OpenSpec.ofChange framesNoneWrong)

/-- 'pantrylaw06.FramesHolds': WHATEVER THE INPUT: true; the input reads as it did. -/
def framesHoldsSpec : ChangeSpec := { name := "framesHolds", fn := fun _ => fun
  | [d1, d2] => { results := [.lit (.bool true)], args := [d1, d2] }
  | _ => none }
def framesHoldsRow : OpenClaim := { program := "ytabgfjmfhkfbmaa", sum := "8b6db6bedbbf069a5b9a32c6b6e0800e9d39c9884dd96f55f955d4d407fdb917", func := "pantry/pantrylaw06.FramesHolds", spec := "framesHolds", unfollowed := true, recurses := true, apart := false }
def FramesHoldsSaid : Prop := framesHoldsRow.holds Try.pinned (OpenSpec.ofChange framesHoldsSpec)

/-- ITS FALSE NEIGHBOUR: 'it returns false'. Refute it at one input. -/
def framesHoldsWrong : ChangeSpec := { name := "framesHolds", fn := fun _ => fun
  | [d1, d2] => { results := [.lit (.bool false)], args := [d1, d2] }
  | _ => none }
def FramesHoldsWrongFalsely : Prop := framesHoldsRow.holds Try.pinned (OpenSpec.ofChange framesHoldsWrong)

/- THE SECOND FORM. 'bulk': how many values and letters a reading holds, each counted each time it is reached (what is shared counts as often as it is met; a slice's spare places count too). A statement '..UptoSaid' is the law's where the arguments, and the package variables that the reading takes, are together of bulk at most 1048576: NARROWER than '..Said'. Prove '..Said' where nothing that the law and all that it calls make is longer than what came in: it says more and counts as full. Else prove '..UptoSaid'. A law counts once. -/
mutual
def uptoBulk {H : Type} : DataW H → Nat
  | .lit (.string bytes) => bytes.length + 1
  | .lit _ => 1
  | .nil => 1
  | .ptr d => uptoBulk d + 1
  | .slice elems spare => uptoBulkAll elems + uptoBulkAll spare + 1
  | .agg parts => uptoBulkAll parts + 1
  | .iface _ d => uptoBulk d + 1
  | .map entries => uptoBulkEntries entries + 1
  | .held _ => 1
def uptoBulkAll {H : Type} : List (DataW H) → Nat
  | [] => 0
  | d :: r => uptoBulk d + uptoBulkAll r
def uptoBulkEntries {H : Type} : List (Lit × DataW H) → Nat
  | [] => 0
  | x :: r => uptoBulkEntry x + uptoBulkEntries r
def uptoBulkEntry {H : Type} : Lit × DataW H → Nat
  | (.string bytes, d) => bytes.length + uptoBulk d + 1
  | (_, d) => uptoBulk d + 1
 end
def uptoSmall : (H : Type) → List (DataW H) → Bool := fun _ ds => decide (uptoBulkAll ds ≤ 1048576)
def OpenSpec.upto (s : _root_.Go.ChangeSpec) : _root_.Go.OpenSpec := { _root_.Go.OpenSpec.ofChange s with cond := some uptoSmall }

/-- 'pantrylaw06.FramesActs', WHERE WHAT IT READS IS OF BULK AT MOST 1048576: true; the input reads as it did. -/
def framesActsUptoRow : OpenClaim := { program := "ytabgfjmfhkfbmaa", sum := "8b6db6bedbbf069a5b9a32c6b6e0800e9d39c9884dd96f55f955d4d407fdb917", func := "pantry/pantrylaw06.FramesActs", spec := "framesActs", unfollowed := true, recurses := true, apart := false, narrowed := true }
def FramesActsUptoSaid : Prop := framesActsUptoRow.holds Try.pinned (OpenSpec.upto framesActsSpec)

/-- 'pantrylaw06.FramesClasses', WHERE WHAT IT READS IS OF BULK AT MOST 1048576: true; the input reads as it did. -/
def framesClassesUptoRow : OpenClaim := { program := "ytabgfjmfhkfbmaa", sum := "8b6db6bedbbf069a5b9a32c6b6e0800e9d39c9884dd96f55f955d4d407fdb917", func := "pantry/pantrylaw06.FramesClasses", spec := "framesClasses", unfollowed := true, recurses := true, apart := false, narrowed := true }
def FramesClassesUptoSaid : Prop := framesClassesUptoRow.holds Try.pinned (OpenSpec.upto framesClassesSpec)

/-- 'pantrylaw06.FramesReserve', WHERE WHAT IT READS IS OF BULK AT MOST 1048576: true; the input reads as it did. -/
def framesReserveUptoRow : OpenClaim := { program := "ytabgfjmfhkfbmaa", sum := "8b6db6bedbbf069a5b9a32c6b6e0800e9d39c9884dd96f55f955d4d407fdb917", func := "pantry/pantrylaw06.FramesReserve", spec := "framesReserve", unfollowed := true, recurses := true, apart := false, narrowed := true }
def FramesReserveUptoSaid : Prop := framesReserveUptoRow.holds Try.pinned (OpenSpec.upto framesReserveSpec)

/-- 'pantrylaw06.FramesNone', WHERE WHAT IT READS IS OF BULK AT MOST 1048576: true; the input reads as it did. -/
def framesNoneUptoRow : OpenClaim := { program := "ytabgfjmfhkfbmaa", sum := "8b6db6bedbbf069a5b9a32c6b6e0800e9d39c9884dd96f55f955d4d407fdb917", func := "pantry/pantrylaw06.FramesNone", spec := "framesNone", unfollowed := true, recurses := true, apart := false, narrowed := true }
def FramesNoneUptoSaid : Prop := framesNoneUptoRow.holds Try.pinned (OpenSpec.upto framesNoneSpec)

/-- 'pantrylaw06.FramesHolds', WHERE WHAT IT READS IS OF BULK AT MOST 1048576: true; the input reads as it did. -/
def framesHoldsUptoRow : OpenClaim := { program := "ytabgfjmfhkfbmaa", sum := "8b6db6bedbbf069a5b9a32c6b6e0800e9d39c9884dd96f55f955d4d407fdb917", func := "pantry/pantrylaw06.FramesHolds", spec := "framesHolds", unfollowed := true, recurses := true, apart := false, narrowed := true }
def FramesHoldsUptoSaid : Prop := framesHoldsUptoRow.holds Try.pinned (OpenSpec.upto framesHoldsSpec)

end Rows
end Go.Proofs.Ytabgfjmfhkfbmaa
