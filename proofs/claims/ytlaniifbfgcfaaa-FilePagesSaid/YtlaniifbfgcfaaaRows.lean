/-
  No cell of these rows narrows 'for every input' (looked for: loops, veiled, ifaces, maps, wideKeys, modest, calm, conditions, laid).
  DERIVED. THE GIVEN ROWS OF THIS SEAT. 6 by the template 'for every input the law returns true; each argument reads behind the call as it read before'; 0 by the template 'total and deterministic' (their statements: YtlaniifbfgcfaaaTotals.lean).
  GIVEN WITH THE SEED: the statements are not yours to turn. If you find one false, say at which input.
  Laid BY PROGRAM, IN A SANDBOX (cutbox-rows.mjs): the forced cells as the released guide's own fill.sh prints them over the translation 6e5977fcf623c59d… (all of the seat's roots in one cut). By AI agents, Wed Nov 11 2026. No macro, syntax, notation, axiom, sorry.
-/
import Derived.Test.YtlaniifbfgcfaaaChecked
import GoSem.Claim
import GoSem.ClaimJoined
import GoSem.ClaimMapViews
import Derived.JoinedTies
import Derived.KernelRfl
namespace Go.Proofs.Ytlaniifbfgcfaaa
/- THE CELL 'sum', in the pinned program and in every row, IS THE sha256 OF THE DUMP (.gsa) THAT YtlaniifbfgcfaaaProg.lean LOADS. Nothing in Lean hashes anything: it is a label: what it is worth is what the hold of that sum in a sandbox is worth. -/
noncomputable def Try.pinned : Pinned := { name := "ytlaniifbfgcfaaa", sum := "6e5977fcf623c59d0020a350c7c416550ee1cf9095dda540842965fd1c4660d5", checked := Try.checked }
namespace Rows
def none {H : Type} : Left H := { results := [], args := [] }

/-- 'pantrylaw10.FileActs': WHATEVER THE INPUT: true; the input reads as it did. -/
def fileActsSpec : ChangeSpec := { name := "fileActs", fn := fun _ => fun
  | [d] => { results := [.lit (.bool true)], args := [d] }
  | _ => none }
def fileActsRow : OpenClaim := { program := "ytlaniifbfgcfaaa", sum := "6e5977fcf623c59d0020a350c7c416550ee1cf9095dda540842965fd1c4660d5", func := "pantry/pantrylaw10.FileActs", spec := "fileActs", plainKeys := false, apart := false }
def FileActsSaid : Prop := fileActsRow.holds Try.pinned (OpenSpec.ofChange fileActsSpec)

/-- ITS FALSE NEIGHBOUR: 'it returns false'. Refute it at one input. -/
def fileActsWrong : ChangeSpec := { name := "fileActs", fn := fun _ => fun
  | [d] => { results := [.lit (.bool false)], args := [d] }
  | _ => none }
def FileActsWrongFalsely : Prop := fileActsRow.holds Try.pinned (OpenSpec.ofChange fileActsWrong)

/-- 'pantrylaw10.FileCuts': WHATEVER THE INPUT: true; the input reads as it did. -/
def fileCutsSpec : ChangeSpec := { name := "fileCuts", fn := fun _ => fun
  | [d1, d2, d3] => { results := [.lit (.bool true)], args := [d1, d2, d3] }
  | _ => none }
def fileCutsRow : OpenClaim := { program := "ytlaniifbfgcfaaa", sum := "6e5977fcf623c59d0020a350c7c416550ee1cf9095dda540842965fd1c4660d5", func := "pantry/pantrylaw10.FileCuts", spec := "fileCuts", plainKeys := false, apart := false }
def FileCutsSaid : Prop := fileCutsRow.holds Try.pinned (OpenSpec.ofChange fileCutsSpec)

/-- ITS FALSE NEIGHBOUR: 'it returns false'. Refute it at one input. -/
def fileCutsWrong : ChangeSpec := { name := "fileCuts", fn := fun _ => fun
  | [d1, d2, d3] => { results := [.lit (.bool false)], args := [d1, d2, d3] }
  | _ => none }
def FileCutsWrongFalsely : Prop := fileCutsRow.holds Try.pinned (OpenSpec.ofChange fileCutsWrong)

/-- 'pantrylaw10.FileKeeps': WHATEVER THE INPUT: true; the input reads as it did. -/
def fileKeepsSpec : ChangeSpec := { name := "fileKeeps", fn := fun _ => fun
  | [d1, d2, d3] => { results := [.lit (.bool true)], args := [d1, d2, d3] }
  | _ => none }
def fileKeepsRow : OpenClaim := { program := "ytlaniifbfgcfaaa", sum := "6e5977fcf623c59d0020a350c7c416550ee1cf9095dda540842965fd1c4660d5", func := "pantry/pantrylaw10.FileKeeps", spec := "fileKeeps", plainKeys := false, apart := false }
def FileKeepsSaid : Prop := fileKeepsRow.holds Try.pinned (OpenSpec.ofChange fileKeepsSpec)

/-- ITS FALSE NEIGHBOUR: 'it returns false'. Refute it at one input. -/
def fileKeepsWrong : ChangeSpec := { name := "fileKeeps", fn := fun _ => fun
  | [d1, d2, d3] => { results := [.lit (.bool false)], args := [d1, d2, d3] }
  | _ => none }
def FileKeepsWrongFalsely : Prop := fileKeepsRow.holds Try.pinned (OpenSpec.ofChange fileKeepsWrong)

/-- 'pantrylaw10.FileMany': WHATEVER THE INPUT: true; the input reads as it did. -/
def fileManySpec : ChangeSpec := { name := "fileMany", fn := fun _ => fun
  | [d] => { results := [.lit (.bool true)], args := [d] }
  | _ => none }
def fileManyRow : OpenClaim := { program := "ytlaniifbfgcfaaa", sum := "6e5977fcf623c59d0020a350c7c416550ee1cf9095dda540842965fd1c4660d5", func := "pantry/pantrylaw10.FileMany", spec := "fileMany", plainKeys := false, apart := false }
def FileManySaid : Prop := fileManyRow.holds Try.pinned (OpenSpec.ofChange fileManySpec)

/-- ITS FALSE NEIGHBOUR: 'it returns false'. Refute it at one input. -/
def fileManyWrong : ChangeSpec := { name := "fileMany", fn := fun _ => fun
  | [d] => { results := [.lit (.bool false)], args := [d] }
  | _ => none }
def FileManyWrongFalsely : Prop := fileManyRow.holds Try.pinned (OpenSpec.ofChange fileManyWrong)

/-- 'pantrylaw10.FileNone': WHATEVER THE INPUT: true; the input reads as it did. -/
def fileNoneSpec : ChangeSpec := { name := "fileNone", fn := fun _ => fun
  | [d] => { results := [.lit (.bool true)], args := [d] }
  | _ => none }
def fileNoneRow : OpenClaim := { program := "ytlaniifbfgcfaaa", sum := "6e5977fcf623c59d0020a350c7c416550ee1cf9095dda540842965fd1c4660d5", func := "pantry/pantrylaw10.FileNone", spec := "fileNone", plainKeys := false, apart := false }
def FileNoneSaid : Prop := fileNoneRow.holds Try.pinned (OpenSpec.ofChange fileNoneSpec)

/-- ITS FALSE NEIGHBOUR: 'it returns false'. Refute it at one input. -/
def fileNoneWrong : ChangeSpec := { name := "fileNone", fn := fun _ => fun
  | [d] => { results := [.lit (.bool false)], args := [d] }
  | _ => none }
def FileNoneWrongFalsely : Prop := fileNoneRow.holds Try.pinned (OpenSpec.ofChange fileNoneWrong)

/-- 'pantrylaw10.FilePages': WHATEVER THE INPUT: true; the input reads as it did. -/
def filePagesSpec : ChangeSpec := { name := "filePages", fn := fun _ => fun
  | [d] => { results := [.lit (.bool true)], args := [d] }
  | _ => none }
def filePagesRow : OpenClaim := { program := "ytlaniifbfgcfaaa", sum := "6e5977fcf623c59d0020a350c7c416550ee1cf9095dda540842965fd1c4660d5", func := "pantry/pantrylaw10.FilePages", spec := "filePages", plainKeys := false, apart := false }
def FilePagesSaid : Prop := filePagesRow.holds Try.pinned (OpenSpec.ofChange filePagesSpec)

/-- ITS FALSE NEIGHBOUR: 'it returns false'. Refute it at one input. -/
def filePagesWrong : ChangeSpec := { name := "filePages", fn := fun _ => fun
  | [d] => { results := [.lit (.bool false)], args := [d] }
  | _ => none }
def FilePagesWrongFalsely : Prop := filePagesRow.holds Try.pinned (OpenSpec.ofChange filePagesWrong)

/- THE SECOND FORM. 'bulk': how many values and letters a reading holds, each counted each time it is reached (what is shared counts as often as it is met; a slice's spare places count too). A statement '..UptoSaid' is the law's where the arguments, and the package variables that the reading takes, are together of bulk at most 1048576: NARROWER than '..Said'. Prove '..Said' where nothing that the law and all that it calls make is longer than what came in: it says more and counts as full. Else prove '..UptoSaid'. A law counts once. -/
mutual
def uptoBulk {H : Type} : DataW H → Nat
  | .lit (.string bytes) => bytes.length + 1
  | .lit _ => 1
  | .nil => 1
  | .ptr d => uptoBulk d + 1
  | .slice elems spare => uptoBulkAll elems + uptoBulkAll spare + 1
  | .agg parts => uptoBulkAll parts + 1
  | .iface _ d => uptoBulk d + 1
  | .map entries => uptoBulkEntries entries + 1
  | .held _ => 1
def uptoBulkAll {H : Type} : List (DataW H) → Nat
  | [] => 0
  | d :: r => uptoBulk d + uptoBulkAll r
def uptoBulkEntries {H : Type} : List (Lit × DataW H) → Nat
  | [] => 0
  | x :: r => uptoBulkEntry x + uptoBulkEntries r
def uptoBulkEntry {H : Type} : Lit × DataW H → Nat
  | (.string bytes, d) => bytes.length + uptoBulk d + 1
  | (_, d) => uptoBulk d + 1
 end
def uptoSmall : (H : Type) → List (DataW H) → Bool := fun _ ds => decide (uptoBulkAll ds ≤ 1048576)
def OpenSpec.upto (s : _root_.Go.ChangeSpec) : _root_.Go.OpenSpec := { _root_.Go.OpenSpec.ofChange s with cond := some uptoSmall }

/-- 'pantrylaw10.FileActs', WHERE WHAT IT READS IS OF BULK AT MOST 1048576: true; the input reads as it did. -/
def fileActsUptoRow : OpenClaim := { program := "ytlaniifbfgcfaaa", sum := "6e5977fcf623c59d0020a350c7c416550ee1cf9095dda540842965fd1c4660d5", func := "pantry/pantrylaw10.FileActs", spec := "fileActs", plainKeys := false, apart := false, narrowed := true }
def FileActsUptoSaid : Prop := fileActsUptoRow.holds Try.pinned (OpenSpec.upto fileActsSpec)

/-- 'pantrylaw10.FileCuts', WHERE WHAT IT READS IS OF BULK AT MOST 1048576: true; the input reads as it did. -/
def fileCutsUptoRow : OpenClaim := { program := "ytlaniifbfgcfaaa", sum := "6e5977fcf623c59d0020a350c7c416550ee1cf9095dda540842965fd1c4660d5", func := "pantry/pantrylaw10.FileCuts", spec := "fileCuts", plainKeys := false, apart := false, narrowed := true }
def FileCutsUptoSaid : Prop := fileCutsUptoRow.holds Try.pinned (OpenSpec.upto fileCutsSpec)

/-- 'pantrylaw10.FileKeeps', WHERE WHAT IT READS IS OF BULK AT MOST 1048576: true; the input reads as it did. -/
def fileKeepsUptoRow : OpenClaim := { program := "ytlaniifbfgcfaaa", sum := "6e5977fcf623c59d0020a350c7c416550ee1cf9095dda540842965fd1c4660d5", func := "pantry/pantrylaw10.FileKeeps", spec := "fileKeeps", plainKeys := false, apart := false, narrowed := true }
def FileKeepsUptoSaid : Prop := fileKeepsUptoRow.holds Try.pinned (OpenSpec.upto fileKeepsSpec)

/-- 'pantrylaw10.FileMany', WHERE WHAT IT READS IS OF BULK AT MOST 1048576: true; the input reads as it did. -/
def fileManyUptoRow : OpenClaim := { program := "ytlaniifbfgcfaaa", sum := "6e5977fcf623c59d0020a350c7c416550ee1cf9095dda540842965fd1c4660d5", func := "pantry/pantrylaw10.FileMany", spec := "fileMany", plainKeys := false, apart := false, narrowed := true }
def FileManyUptoSaid : Prop := fileManyUptoRow.holds Try.pinned (OpenSpec.upto fileManySpec)

/-- 'pantrylaw10.FileNone', WHERE WHAT IT READS IS OF BULK AT MOST 1048576: true; the input reads as it did. -/
def fileNoneUptoRow : OpenClaim := { program := "ytlaniifbfgcfaaa", sum := "6e5977fcf623c59d0020a350c7c416550ee1cf9095dda540842965fd1c4660d5", func := "pantry/pantrylaw10.FileNone", spec := "fileNone", plainKeys := false, apart := false, narrowed := true }
def FileNoneUptoSaid : Prop := fileNoneUptoRow.holds Try.pinned (OpenSpec.upto fileNoneSpec)

/-- 'pantrylaw10.FilePages', WHERE WHAT IT READS IS OF BULK AT MOST 1048576: true; the input reads as it did. -/
def filePagesUptoRow : OpenClaim := { program := "ytlaniifbfgcfaaa", sum := "6e5977fcf623c59d0020a350c7c416550ee1cf9095dda540842965fd1c4660d5", func := "pantry/pantrylaw10.FilePages", spec := "filePages", plainKeys := false, apart := false, narrowed := true }
def FilePagesUptoSaid : Prop := filePagesUptoRow.holds Try.pinned (OpenSpec.upto filePagesSpec)

end Rows
end Go.Proofs.Ytlaniifbfgcfaaa
