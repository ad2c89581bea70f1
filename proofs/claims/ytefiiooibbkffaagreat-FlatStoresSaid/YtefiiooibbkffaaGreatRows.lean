/-
  No cell of these rows narrows 'for every input' (looked for: loops, veiled, ifaces, maps, wideKeys, modest, calm, conditions, laid).
  DERIVED. THE GIVEN ROWS OF THIS SEAT. 8 by the template 'for every input the law returns true; each argument reads behind the call as it read before'; 0 by the template 'total and deterministic' (their statements: YtefiiooibbkffaaGreatTotals.lean).
  GIVEN WITH THE SEED: the statements are not yours to turn. If you find one false, say at which input.
  Laid BY PROGRAM, IN A SANDBOX (cutbox-rows.mjs): the forced cells as the released guide's own fill.sh prints them over the translation 008ead2c2f999832… (all of the seat's roots in one cut). By AI agents, Wed Nov 11 2026. No macro, syntax, notation, axiom, sorry.
-/
import Derived.Test.YtefiiooibbkffaaGreatChecked
import GoSem.Claim
import GoSem.ClaimJoined
import GoSem.ClaimMapViews
import Derived.JoinedTies
import Derived.KernelRfl
namespace Go.Proofs.YtefiiooibbkffaaGreat
/- THE CELL 'sum', in the pinned program and in every row, IS THE sha256 OF THE DUMP (.gsa) THAT YtefiiooibbkffaaGreatProg.lean LOADS. Nothing in Lean hashes anything: it is a label: what it is worth is what the hold of that sum in a sandbox is worth. -/
noncomputable def Tryz.pinned : Pinned := { name := "ytefiiooibbkffaagreat", sum := "008ead2c2f999832c5d6613c7067a53554653f7c913a7ca3ad908583aa33049e", checked := Tryz.checked }
namespace Rows
def none {H : Type} : Left H := { results := [], args := [] }

/-- 'pantrylaw17.FlatActs': WHATEVER THE INPUT: true; the input reads as it did. -/
def flatActsSpec : ChangeSpec := { name := "flatActs", fn := fun _ => fun
  | [d1, d2, d3] => { results := [.lit (.bool true)], args := [d1, d2, d3] }
  | _ => none }
def flatActsRow : OpenClaim := { program := "ytefiiooibbkffaagreat", sum := "008ead2c2f999832c5d6613c7067a53554653f7c913a7ca3ad908583aa33049e", func := "pantry/pantrylaw17.FlatActs", spec := "flatActs", inPlace := ["slices.overlaps[pantry/api.Entry]"], unfollowed := true, recurses := true, plainKeys := false, apart := false }
def FlatActsSaid : Prop := flatActsRow.holds Tryz.pinned (OpenSpec.ofChange flatActsSpec)

/-- ITS FALSE NEIGHBOUR: 'it returns false'. Refute it at one input. -/
def flatActsWrong : ChangeSpec := { name := "flatActs", fn := fun _ => fun
  | [d1, d2, d3] => { results := [.lit (.bool false)], args := [d1, d2, d3] }
  | _ => none }
def FlatActsWrongFalsely : Prop := flatActsRow.holds Tryz.pinned (OpenSpec.ofChange flatActsWrong)

/-- 'pantrylaw17.FlatKeeps': WHATEVER THE INPUT: true; the input reads as it did. -/
def flatKeepsSpec : ChangeSpec := { name := "flatKeeps", fn := fun _ => fun
  | [d1, d2] => { results := [.lit (.bool true)], args := [d1, d2] }
  | _ => none }
def flatKeepsRow : OpenClaim := { program := "ytefiiooibbkffaagreat", sum := "008ead2c2f999832c5d6613c7067a53554653f7c913a7ca3ad908583aa33049e", func := "pantry/pantrylaw17.FlatKeeps", spec := "flatKeeps", inPlace := ["slices.overlaps[pantry/api.Entry]", "maps.clone"], unfollowed := true, recurses := true, plainKeys := false, apart := false }
def FlatKeepsSaid : Prop := flatKeepsRow.holds Tryz.pinned (OpenSpec.ofChange flatKeepsSpec)

/-- ITS FALSE NEIGHBOUR: 'it returns false'. Refute it at one input. -/
def flatKeepsWrong : ChangeSpec := { name := "flatKeeps", fn := fun _ => fun
  | [d1, d2] => { results := [.lit (.bool false)], args := [d1, d2] }
  | _ => none }
def FlatKeepsWrongFalsely : Prop := flatKeepsRow.holds Tryz.pinned (OpenSpec.ofChange flatKeepsWrong)

/-- 'pantrylaw17.FlatStores': WHATEVER THE INPUT: true; the input reads as it did. -/
def flatStoresSpec : ChangeSpec := { name := "flatStores", fn := fun _ => fun
  | [d1, d2, d3] => { results := [.lit (.bool true)], args := [d1, d2, d3] }
  | _ => none }
def flatStoresRow : OpenClaim := { program := "ytefiiooibbkffaagreat", sum := "008ead2c2f999832c5d6613c7067a53554653f7c913a7ca3ad908583aa33049e", func := "pantry/pantrylaw17.FlatStores", spec := "flatStores", inPlace := ["slices.overlaps[pantry/api.Entry]", "maps.clone"], unfollowed := true, recurses := true, plainKeys := false, apart := false }
def FlatStoresSaid : Prop := flatStoresRow.holds Tryz.pinned (OpenSpec.ofChange flatStoresSpec)

/-- ITS FALSE NEIGHBOUR: 'it returns false'. Refute it at one input. -/
def flatStoresWrong : ChangeSpec := { name := "flatStores", fn := fun _ => fun
  | [d1, d2, d3] => { results := [.lit (.bool false)], args := [d1, d2, d3] }
  | _ => none }
def FlatStoresWrongFalsely : Prop := flatStoresRow.holds Tryz.pinned (OpenSpec.ofChange flatStoresWrong)

/-- 'pantrylaw17.FlatNone': WHATEVER THE INPUT: true; the input reads as it did. -/
def flatNoneSpec : ChangeSpec := { name := "flatNone", fn := fun _ => fun
  | [d] => { results := [.lit (.bool true)], args := [d] }
  | _ => none }
def flatNoneRow : OpenClaim := { program := "ytefiiooibbkffaagreat", sum := "008ead2c2f999832c5d6613c7067a53554653f7c913a7ca3ad908583aa33049e", func := "pantry/pantrylaw17.FlatNone", spec := "flatNone", inPlace := ["slices.overlaps[pantry/api.Entry]"], unfollowed := true, recurses := true, plainKeys := false, apart := false }
def FlatNoneSaid : Prop := flatNoneRow.holds Tryz.pinned (OpenSpec.ofChange flatNoneSpec)

/-- ITS FALSE NEIGHBOUR: 'it returns false'. Refute it at one input. -/
def flatNoneWrong : ChangeSpec := { name := "flatNone", fn := fun _ => fun
  | [d] => { results := [.lit (.bool false)], args := [d] }
  | _ => none }
def FlatNoneWrongFalsely : Prop := flatNoneRow.holds Tryz.pinned (OpenSpec.ofChange flatNoneWrong)

/-- 'pantrylaw17.FlatForks': WHATEVER THE INPUT: true; the input reads as it did. -/
def flatForksSpec : ChangeSpec := { name := "flatForks", fn := fun _ => fun
  | [d1, d2, d3] => { results := [.lit (.bool true)], args := [d1, d2, d3] }
  | _ => none }
def flatForksRow : OpenClaim := { program := "ytefiiooibbkffaagreat", sum := "008ead2c2f999832c5d6613c7067a53554653f7c913a7ca3ad908583aa33049e", func := "pantry/pantrylaw17.FlatForks", spec := "flatForks", inPlace := ["slices.overlaps[pantry/api.Entry]"], unfollowed := true, recurses := true, plainKeys := false, apart := false }
def FlatForksSaid : Prop := flatForksRow.holds Tryz.pinned (OpenSpec.ofChange flatForksSpec)

/-- ITS FALSE NEIGHBOUR: 'it returns false'. Refute it at one input. -/
def flatForksWrong : ChangeSpec := { name := "flatForks", fn := fun _ => fun
  | [d1, d2, d3] => { results := [.lit (.bool false)], args := [d1, d2, d3] }
  | _ => none }
def FlatForksWrongFalsely : Prop := flatForksRow.holds Tryz.pinned (OpenSpec.ofChange flatForksWrong)

/-- 'pantrylaw17.FlatFiles': WHATEVER THE INPUT: true; the input reads as it did. -/
def flatFilesSpec : ChangeSpec := { name := "flatFiles", fn := fun _ => fun
  | [d1, d2, d3] => { results := [.lit (.bool true)], args := [d1, d2, d3] }
  | _ => none }
def flatFilesRow : OpenClaim := { program := "ytefiiooibbkffaagreat", sum := "008ead2c2f999832c5d6613c7067a53554653f7c913a7ca3ad908583aa33049e", func := "pantry/pantrylaw17.FlatFiles", spec := "flatFiles", inPlace := ["slices.overlaps[pantry/api.Entry]"], unfollowed := true, recurses := true, plainKeys := false, apart := false }
def FlatFilesSaid : Prop := flatFilesRow.holds Tryz.pinned (OpenSpec.ofChange flatFilesSpec)

/-- ITS FALSE NEIGHBOUR: 'it returns false'. Refute it at one input. -/
def flatFilesWrong : ChangeSpec := { name := "flatFiles", fn := fun _ => fun
  | [d1, d2, d3] => { results := [.lit (.bool false)], args := [d1, d2, d3] }
  | _ => none }
def FlatFilesWrongFalsely : Prop := flatFilesRow.holds Tryz.pinned (OpenSpec.ofChange flatFilesWrong)

/-- 'pantrylaw17.FlatSends': WHATEVER THE INPUT: true; the input reads as it did. -/
def flatSendsSpec : ChangeSpec := { name := "flatSends", fn := fun _ => fun
  | [d1, d2, d3] => { results := [.lit (.bool true)], args := [d1, d2, d3] }
  | _ => none }
def flatSendsRow : OpenClaim := { program := "ytefiiooibbkffaagreat", sum := "008ead2c2f999832c5d6613c7067a53554653f7c913a7ca3ad908583aa33049e", func := "pantry/pantrylaw17.FlatSends", spec := "flatSends", inPlace := ["slices.overlaps[pantry/api.Entry]", "maps.clone"], unfollowed := true, recurses := true, plainKeys := false, apart := false }
def FlatSendsSaid : Prop := flatSendsRow.holds Tryz.pinned (OpenSpec.ofChange flatSendsSpec)

/-- ITS FALSE NEIGHBOUR: 'it returns false'. Refute it at one input. -/
def flatSendsWrong : ChangeSpec := { name := "flatSends", fn := fun _ => fun
  | [d1, d2, d3] => { results := [.lit (.bool false)], args := [d1, d2, d3] }
  | _ => none }
def FlatSendsWrongFalsely : Prop := flatSendsRow.holds Tryz.pinned (OpenSpec.ofChange flatSendsWrong)

/-- 'pantrylaw17.FlatLoans': WHATEVER THE INPUT: true; the input reads as it did. -/
def flatLoansSpec : ChangeSpec := { name := "flatLoans", fn := fun _ => fun
  | [d1, d2, d3] => { results := [.lit (.bool true)], args := [d1, d2, d3] }
  | _ => none }
def flatLoansRow : OpenClaim := { program := "ytefiiooibbkffaagreat", sum := "008ead2c2f999832c5d6613c7067a53554653f7c913a7ca3ad908583aa33049e", func := "pantry/pantrylaw17.FlatLoans", spec := "flatLoans", inPlace := ["slices.overlaps[pantry/api.Entry]"], unfollowed := true, recurses := true, plainKeys := false, apart := false }
def FlatLoansSaid : Prop := flatLoansRow.holds Tryz.pinned (OpenSpec.ofChange flatLoansSpec)

/-- ITS FALSE NEIGHBOUR: 'it returns false'. Refute it at one input. -/
def flatLoansWrong : ChangeSpec := { name := "flatLoans", fn := fun _ => fun
  | [d1, d2, d3] => { results := [.lit (.bool false)], args := [d1, d2, d3] }
  | _ => none }
def FlatLoansWrongFalsely : Prop := flatLoansRow.holds Tryz.pinned (OpenSpec.ofChange flatLoansWrong)

/- THE SECOND FORM. 'bulk': how many values and letters a reading holds, each counted each time it is reached (what is shared counts as often as it is met; a slice's spare places count too). A statement '..UptoSaid' is the law's where the arguments, and the package variables that the reading takes, are together of bulk at most 1048576: NARROWER than '..Said'. Prove '..Said' where nothing that the law and all that it calls make is longer than what came in: it says more and counts as full. Else prove '..UptoSaid'. A law counts once. -/
mutual
def uptoBulk {H : Type} : DataW H → Nat
  | .lit (.string bytes) => bytes.length + 1
  | .lit _ => 1
  | .nil => 1
  | .ptr d => uptoBulk d + 1
  | .slice elems spare => uptoBulkAll elems + uptoBulkAll spare + 1
  | .agg parts => uptoBulkAll parts + 1
  | .iface _ d => uptoBulk d + 1
  | .map entries => uptoBulkEntries entries + 1
  | .held _ => 1
def uptoBulkAll {H : Type} : List (DataW H) → Nat
  | [] => 0
  | d :: r => uptoBulk d + uptoBulkAll r
def uptoBulkEntries {H : Type} : List (Lit × DataW H) → Nat
  | [] => 0
  | x :: r => uptoBulkEntry x + uptoBulkEntries r
def uptoBulkEntry {H : Type} : Lit × DataW H → Nat
  | (.string bytes, d) => bytes.length + uptoBulk d + 1
  | (_, d) => uptoBulk d + 1
 end
def uptoSmall : (H : Type) → List (DataW H) → Bool := fun _ ds => decide (uptoBulkAll ds ≤ 1048576)
def OpenSpec.upto (s : _root_.Go.ChangeSpec) : _root_.Go.OpenSpec := { _root_.Go.OpenSpec.ofChange s with cond := some uptoSmall }

/-- 'pantrylaw17.FlatActs', WHERE WHAT IT READS IS OF BULK AT MOST 1048576: true; the input reads as it did. -/
def flatActsUptoRow : OpenClaim := { program := "ytefiiooibbkffaagreat", sum := "008ead2c2f999832c5d6613c7067a53554653f7c913a7ca3ad908583aa33049e", func := "pantry/pantrylaw17.FlatActs", spec := "flatActs", inPlace := ["slices.overlaps[pantry/api.Entry]"], unfollowed := true, recurses := true, plainKeys := false, apart := false, narrowed := true }
def FlatActsUptoSaid : Prop := flatActsUptoRow.holds Tryz.pinned (OpenSpec.upto flatActsSpec)

/-- 'pantrylaw17.FlatKeeps', WHERE WHAT IT READS IS OF BULK AT MOST 1048576: true; the input reads as it did. -/
def flatKeepsUptoRow : OpenClaim := { program := "ytefiiooibbkffaagreat", sum := "008ead2c2f999832c5d6613c7067a53554653f7c913a7ca3ad908583aa33049e", func := "pantry/pantrylaw17.FlatKeeps", spec := "flatKeeps", inPlace := ["slices.overlaps[pantry/api.Entry]", "maps.clone"], unfollowed := true, recurses := true, plainKeys := false, apart := false, narrowed := true }
def FlatKeepsUptoSaid : Prop := flatKeepsUptoRow.holds Tryz.pinned (OpenSpec.upto flatKeepsSpec)

/-- 'pantrylaw17.FlatStores', WHERE WHAT IT READS IS OF BULK AT MOST 1048576: true; the input reads as it did. -/
def flatStoresUptoRow : OpenClaim := { program := "ytefiiooibbkffaagreat", sum := "008ead2c2f999832c5d6613c7067a53554653f7c913a7ca3ad908583aa33049e", func := "pantry/pantrylaw17.FlatStores", spec := "flatStores", inPlace := ["slices.overlaps[pantry/api.Entry]", "maps.clone"], unfollowed := true, recurses := true, plainKeys := false, apart := false, narrowed := true }
def FlatStoresUptoSaid : Prop := flatStoresUptoRow.holds Tryz.pinned (OpenSpec.upto flatStoresSpec)

/-- 'pantrylaw17.FlatNone', WHERE WHAT IT READS IS OF BULK AT MOST 1048576: true; the input reads as it did. -/
def flatNoneUptoRow : OpenClaim := { program := "ytefiiooibbkffaagreat", sum := "008ead2c2f999832c5d6613c7067a53554653f7c913a7ca3ad908583aa33049e", func := "pantry/pantrylaw17.FlatNone", spec := "flatNone", inPlace := ["slices.overlaps[pantry/api.Entry]"], unfollowed := true, recurses := true, plainKeys := false, apart := false, narrowed := true }
def FlatNoneUptoSaid : Prop := flatNoneUptoRow.holds Tryz.pinned (OpenSpec.upto flatNoneSpec)

/-- 'pantrylaw17.FlatForks', WHERE WHAT IT READS IS OF BULK AT MOST 1048576: true; the input reads as it did. -/
def flatForksUptoRow : OpenClaim := { program := "ytefiiooibbkffaagreat", sum := "008ead2c2f999832c5d6613c7067a53554653f7c913a7ca3ad908583aa33049e", func := "pantry/pantrylaw17.FlatForks", spec := "flatForks", inPlace := ["slices.overlaps[pantry/api.Entry]"], unfollowed := true, recurses := true, plainKeys := false, apart := false, narrowed := true }
def FlatForksUptoSaid : Prop := flatForksUptoRow.holds Tryz.pinned (OpenSpec.upto flatForksSpec)

/-- 'pantrylaw17.FlatFiles', WHERE WHAT IT READS IS OF BULK AT MOST 1048576: true; the input reads as it did. -/
def flatFilesUptoRow : OpenClaim := { program := "ytefiiooibbkffaagreat", sum := "008ead2c2f999832c5d6613c7067a53554653f7c913a7ca3ad908583aa33049e", func := "pantry/pantrylaw17.FlatFiles", spec := "flatFiles", inPlace := ["slices.overlaps[pantry/api.Entry]"], unfollowed := true, recurses := true, plainKeys := false, apart := false, narrowed := true }
def FlatFilesUptoSaid : Prop := flatFilesUptoRow.holds Tryz.pinned (OpenSpec.upto flatFilesSpec)

/-- 'pantrylaw17.FlatSends', WHERE WHAT IT READS IS OF BULK AT MOST 1048576: true; the input reads as it did. -/
def flatSendsUptoRow : OpenClaim := { program := "ytefiiooibbkffaagreat", sum := "008ead2c2f999832c5d6613c7067a53554653f7c913a7ca3ad908583aa33049e", func := "pantry/pantrylaw17.FlatSends", spec := "flatSends", inPlace := ["slices.overlaps[pantry/api.Entry]", "maps.clone"], unfollowed := true, recurses := true, plainKeys := false, apart := false, narrowed := true }
def FlatSendsUptoSaid : Prop := flatSendsUptoRow.holds Tryz.pinned (OpenSpec.upto flatSendsSpec)

/-- 'pantrylaw17.FlatLoans', WHERE WHAT IT READS IS OF BULK AT MOST 1048576: true; the input reads as it did. -/
def flatLoansUptoRow : OpenClaim := { program := "ytefiiooibbkffaagreat", sum := "008ead2c2f999832c5d6613c7067a53554653f7c913a7ca3ad908583aa33049e", func := "pantry/pantrylaw17.FlatLoans", spec := "flatLoans", inPlace := ["slices.overlaps[pantry/api.Entry]"], unfollowed := true, recurses := true, plainKeys := false, apart := false, narrowed := true }
def FlatLoansUptoSaid : Prop := flatLoansUptoRow.holds Tryz.pinned (OpenSpec.upto flatLoansSpec)

end Rows
end Go.Proofs.YtefiiooibbkffaaGreat
