/-
  No cell of these rows narrows 'for every input' (looked for: loops, veiled, ifaces, maps, wideKeys, modest, calm, conditions, laid).
  DERIVED. THE GIVEN ROWS OF THIS SEAT. 6 by the template 'for every input the law returns true; each argument reads behind the call as it read before'; 0 by the template 'total and deterministic' (their statements: YtlieommbomjdaaaTotals.lean).
  GIVEN WITH THE SEED: the statements are not yours to turn. If you find one false, say at which input.
  Laid BY PROGRAM, IN A SANDBOX (cutbox-rows.mjs): the forced cells as the released guide's own fill.sh prints them over the translation fddcce0c114d514b… (all of the seat's roots in one cut). By AI agents, Wed Nov 11 2026. No macro, syntax, notation, axiom, sorry.
-/
import Derived.Test.YtlieommbomjdaaaChecked
import GoSem.Claim
import GoSem.ClaimJoined
import GoSem.ClaimMapViews
import Derived.JoinedTies
import Derived.KernelRfl
namespace Go.Proofs.Ytlieommbomjdaaa
/- THE CELL 'sum', in the pinned program and in every row, IS THE sha256 OF THE DUMP (.gsa) THAT YtlieommbomjdaaaProg.lean LOADS. Nothing in Lean hashes anything: it is a label: what it is worth is what the hold of that sum in a sandbox is worth. -/
noncomputable def Try.pinned : Pinned := { name := "ytlieommbomjdaaa", sum := "fddcce0c114d514b6c2892c814d500b4385e5dc2ceb43fd6d0995b03b1857288", checked := Try.checked }
namespace Rows
def none {H : Type} : Left H := { results := [], args := [] }

/-- 'pantrylaw07.PmapTells': WHATEVER THE INPUT: true; the input reads as it did. -/
def pmapTellsSpec : ChangeSpec := { name := "pmapTells", fn := fun _ => fun
  | [d1, d2, d3] => { results := [.lit (.bool true)], args := [d1, d2, d3] }
  | _ => none }
def pmapTellsRow : OpenClaim := { program := "ytlieommbomjdaaa", sum := "fddcce0c114d514b6c2892c814d500b4385e5dc2ceb43fd6d0995b03b1857288", func := "pantry/pantrylaw07.PmapTells", spec := "pmapTells", unfollowed := true, recurses := true, plainKeys := false, apart := false }
def PmapTellsSaid : Prop := pmapTellsRow.holds Try.pinned (OpenSpec.ofChange pmapTellsSpec)

/-- ITS FALSE NEIGHBOUR: 'it returns false'. Refute it at one input. -/
def pmapTellsWrong : ChangeSpec := { name := "pmapTells", fn := fun _ => fun
  | [d1, d2, d3] => { results := [.lit (.bool false)], args := [d1, d2, d3] }
  | _ => none }
def PmapTellsWrongFalsely : Prop := pmapTellsRow.holds Try.pinned (OpenSpec.ofChange pmapTellsWrong)

/-- 'pantrylaw07.PmapFull': WHATEVER THE INPUT: true; the input reads as it did. -/
def pmapFullSpec : ChangeSpec := { name := "pmapFull", fn := fun _ => fun
  | [d1, d2, d3] => { results := [.lit (.bool true)], args := [d1, d2, d3] }
  | _ => none }
def pmapFullRow : OpenClaim := { program := "ytlieommbomjdaaa", sum := "fddcce0c114d514b6c2892c814d500b4385e5dc2ceb43fd6d0995b03b1857288", func := "pantry/pantrylaw07.PmapFull", spec := "pmapFull", unfollowed := true, recurses := true, plainKeys := false, apart := false }
def PmapFullSaid : Prop := pmapFullRow.holds Try.pinned (OpenSpec.ofChange pmapFullSpec)

/-- ITS FALSE NEIGHBOUR: 'it returns false'. Refute it at one input. -/
def pmapFullWrong : ChangeSpec := { name := "pmapFull", fn := fun _ => fun
  | [d1, d2, d3] => { results := [.lit (.bool false)], args := [d1, d2, d3] }
  | _ => none }
def PmapFullWrongFalsely : Prop := pmapFullRow.holds Try.pinned (OpenSpec.ofChange pmapFullWrong)

/-- 'pantrylaw07.PmapFlags': WHATEVER THE INPUT: true; the input reads as it did. -/
def pmapFlagsSpec : ChangeSpec := { name := "pmapFlags", fn := fun _ => fun
  | [d1, d2, d3] => { results := [.lit (.bool true)], args := [d1, d2, d3] }
  | _ => none }
def pmapFlagsRow : OpenClaim := { program := "ytlieommbomjdaaa", sum := "fddcce0c114d514b6c2892c814d500b4385e5dc2ceb43fd6d0995b03b1857288", func := "pantry/pantrylaw07.PmapFlags", spec := "pmapFlags", unfollowed := true, recurses := true, plainKeys := false, apart := false }
def PmapFlagsSaid : Prop := pmapFlagsRow.holds Try.pinned (OpenSpec.ofChange pmapFlagsSpec)

/-- ITS FALSE NEIGHBOUR: 'it returns false'. Refute it at one input. -/
def pmapFlagsWrong : ChangeSpec := { name := "pmapFlags", fn := fun _ => fun
  | [d1, d2, d3] => { results := [.lit (.bool false)], args := [d1, d2, d3] }
  | _ => none }
def PmapFlagsWrongFalsely : Prop := pmapFlagsRow.holds Try.pinned (OpenSpec.ofChange pmapFlagsWrong)

/-- 'pantrylaw07.PmapNone': WHATEVER THE INPUT: true; the input reads as it did. -/
def pmapNoneSpec : ChangeSpec := { name := "pmapNone", fn := fun _ => fun
  | [d] => { results := [.lit (.bool true)], args := [d] }
  | _ => none }
def pmapNoneRow : OpenClaim := { program := "ytlieommbomjdaaa", sum := "fddcce0c114d514b6c2892c814d500b4385e5dc2ceb43fd6d0995b03b1857288", func := "pantry/pantrylaw07.PmapNone", spec := "pmapNone", unfollowed := true, recurses := true, plainKeys := false, apart := false }
def PmapNoneSaid : Prop := pmapNoneRow.holds Try.pinned (OpenSpec.ofChange pmapNoneSpec)

/-- ITS FALSE NEIGHBOUR: 'it returns false'. Refute it at one input. -/
def pmapNoneWrong : ChangeSpec := { name := "pmapNone", fn := fun _ => fun
  | [d] => { results := [.lit (.bool false)], args := [d] }
  | _ => none }
def PmapNoneWrongFalsely : Prop := pmapNoneRow.holds Try.pinned (OpenSpec.ofChange pmapNoneWrong)

/-- 'pantrylaw07.PmapLeast': WHATEVER THE INPUT: true; the input reads as it did. -/
def pmapLeastSpec : ChangeSpec := { name := "pmapLeast", fn := fun _ => fun
  | [d] => { results := [.lit (.bool true)], args := [d] }
  | _ => none }
def pmapLeastRow : OpenClaim := { program := "ytlieommbomjdaaa", sum := "fddcce0c114d514b6c2892c814d500b4385e5dc2ceb43fd6d0995b03b1857288", func := "pantry/pantrylaw07.PmapLeast", spec := "pmapLeast", unfollowed := true, recurses := true, plainKeys := false, apart := false }
def PmapLeastSaid : Prop := pmapLeastRow.holds Try.pinned (OpenSpec.ofChange pmapLeastSpec)

/-- ITS FALSE NEIGHBOUR: 'it returns false'. Refute it at one input. -/
def pmapLeastWrong : ChangeSpec := { name := "pmapLeast", fn := fun _ => fun
  | [d] => { results := [.lit (.bool false)], args := [d] }
  | _ => none }
def PmapLeastWrongFalsely : Prop := pmapLeastRow.holds Try.pinned (OpenSpec.ofChange pmapLeastWrong)

/-- 'pantrylaw07.PmapApart': WHATEVER THE INPUT: true; the input reads as it did. -/
def pmapApartSpec : ChangeSpec := { name := "pmapApart", fn := fun _ => fun
  | [d1, d2, d3] => { results := [.lit (.bool true)], args := [d1, d2, d3] }
  | _ => none }
def pmapApartRow : OpenClaim := { program := "ytlieommbomjdaaa", sum := "fddcce0c114d514b6c2892c814d500b4385e5dc2ceb43fd6d0995b03b1857288", func := "pantry/pantrylaw07.PmapApart", spec := "pmapApart", unfollowed := true, recurses := true, plainKeys := false, apart := false }
def PmapApartSaid : Prop := pmapApartRow.holds Try.pinned (OpenSpec.ofChange pmapApartSpec)

/-- ITS FALSE NEIGHBOUR: 'it returns false'. Refute it at one input. -/
def pmapApartWrong : ChangeSpec := { name := "pmapApart", fn := fun _ => fun
  | [d1, d2, d3] => { results := [.lit (.bool false)], args := [d1, d2, d3] }
  | _ => none }
def PmapApartWrongFalsely : Prop := pmapApartRow.holds Try.pinned (OpenSpec.ofChange pmapApartWrong)

/- THE SECOND FORM. 'bulk': how many values and letters a reading holds, each counted each time it is reached (what is shared counts as often as it is met; a slice's spare places count too). A statement '..UptoSaid' is the law's where the arguments, and the package variables that the reading takes, are together of bulk at most 1048576: NARROWER than '..Said'. Prove '..Said' where nothing that the law and all that it calls make is longer than what came in: it says more and counts as full. Else prove '..UptoSaid'. A law counts once. -/
mutual
def uptoBulk {H : Type} : DataW H → Nat
  | .lit (.string bytes) => bytes.length + 1
  | .lit _ => 1
  | .nil => 1
  | .ptr d => uptoBulk d + 1
  | .slice elems spare => uptoBulkAll elems + uptoBulkAll spare + 1
  | .agg parts => uptoBulkAll parts + 1
  | .iface _ d => uptoBulk d + 1
  | .map entries => uptoBulkEntries entries + 1
  | .held _ => 1
def uptoBulkAll {H : Type} : List (DataW H) → Nat
  | [] => 0
  | d :: r => uptoBulk d + uptoBulkAll r
def uptoBulkEntries {H : Type} : List (Lit × DataW H) → Nat
  | [] => 0
  | x :: r => uptoBulkEntry x + uptoBulkEntries r
def uptoBulkEntry {H : Type} : Lit × DataW H → Nat
  | (.string bytes, d) => bytes.length + uptoBulk d + 1
  | (_, d) => uptoBulk d + 1
 end
def uptoSmall : (H : Type) → List (DataW H) → Bool := fun _ ds => decide (uptoBulkAll ds ≤ 1048576)
def OpenSpec.upto (s : _root_.Go.ChangeSpec) : _root_.Go.OpenSpec := { _root_.Go.OpenSpec.ofChange s with cond := some uptoSmall }

/-- 'pantrylaw07.PmapTells', WHERE WHAT IT READS IS OF BULK AT MOST 1048576: true; the input reads as it did. -/
def pmapTellsUptoRow : OpenClaim := { program := "ytlieommbomjdaaa", sum := "fddcce0c114d514b6c2892c814d500b4385e5dc2ceb43fd6d0995b03b1857288", func := "pantry/pantrylaw07.PmapTells", spec := "pmapTells", unfollowed := true, recurses := true, plainKeys := false, apart := false, narrowed := true }
def PmapTellsUptoSaid : Prop := pmapTellsUptoRow.holds Try.pinned (OpenSpec.upto pmapTellsSpec)

/-- 'pantrylaw07.PmapFull', WHERE WHAT IT READS IS OF BULK AT MOST 1048576: true; the input reads as it did. -/
def pmapFullUptoRow : OpenClaim := { program := "ytlieommbomjdaaa", sum := "fddcce0c114d514b6c2892c814d500b4385e5dc2ceb43fd6d0995b03b1857288", func := "pantry/pantrylaw07.PmapFull", spec := "pmapFull", unfollowed := true, recurses := true, plainKeys := false, apart := false, narrowed := true }
def PmapFullUptoSaid : Prop := pmapFullUptoRow.holds Try.pinned (OpenSpec.upto pmapFullSpec)

/-- 'pantrylaw07.PmapFlags', WHERE WHAT IT READS IS OF BULK AT MOST 1048576: true; the input reads as it did. -/
def pmapFlagsUptoRow : OpenClaim := { program := "ytlieommbomjdaaa", sum := "fddcce0c114d514b6c2892c814d500b4385e5dc2ceb43fd6d0995b03b1857288", func := "pantry/pantrylaw07.PmapFlags", spec := "pmapFlags", unfollowed := true, recurses := true, plainKeys := false, apart := false, narrowed := true }
def PmapFlagsUptoSaid : Prop := pmapFlagsUptoRow.holds Try.pinned (OpenSpec.upto pmapFlagsSpec)

/-- 'pantrylaw07.PmapNone', WHERE WHAT IT READS IS OF BULK AT MOST 1048576: true; the input reads as it did. -/
def pmapNoneUptoRow : OpenClaim := { program := "ytlieommbomjdaaa", sum := "fddcce0c114d514b6c2892c814d500b4385e5dc2ceb43fd6d0995b03b1857288", func := "pantry/pantrylaw07.PmapNone", spec := "pmapNone", unfollowed := true, recurses := true, plainKeys := false, apart := false, narrowed := true }
def PmapNoneUptoSaid : Prop := pmapNoneUptoRow.holds Try.pinned (OpenSpec.upto pmapNoneSpec)

/-- 'pantrylaw07.PmapLeast', WHERE WHAT IT READS IS OF BULK AT MOST 1048576: true; the input reads as it did. -/
def pmapLeastUptoRow : OpenClaim := { program := "ytlieommbomjdaaa", sum := "fddcce0c114d514b6c2892c814d500b4385e5dc2ceb43fd6d0995b03b1857288", func := "pantry/pantrylaw07.PmapLeast", spec := "pmapLeast", unfollowed := true, recurses := true, plainKeys := false, apart := false, narrowed := true }
def PmapLeastUptoSaid : Prop := pmapLeastUptoRow.holds Try.pinned (OpenSpec.upto pmapLeastSpec)

/-- 'pantrylaw07.PmapApart', WHERE WHAT IT READS IS OF BULK AT MOST 1048576: true; the input reads as it did. -/
def pmapApartUptoRow : OpenClaim := { program := "ytlieommbomjdaaa", sum := "fddcce0c114d514b6c2892c814d500b4385e5dc2ceb43fd6d0995b03b1857288", func := "pantry/pantrylaw07.PmapApart", spec := "pmapApart", unfollowed := true, recurses := true, plainKeys := false, apart := false, narrowed := true }
def PmapApartUptoSaid : Prop := pmapApartUptoRow.holds Try.pinned (OpenSpec.upto pmapApartSpec)

end Rows
end Go.Proofs.Ytlieommbomjdaaa
