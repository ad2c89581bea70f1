/-
  No cell of these rows narrows 'for every input' (looked for: loops, veiled, ifaces, maps, wideKeys, modest, calm, conditions, laid).
  DERIVED. THE GIVEN ROWS OF THIS SEAT. 7 by the template 'for every input the law returns true; each argument reads behind the call as it read before'; 0 by the template 'total and deterministic' (their statements: YtdkfgniajlbifaaTotals.lean).
  GIVEN WITH THE SEED: the statements are not yours to turn. If you find one false, say at which input.
  Laid BY PROGRAM, IN A SANDBOX (cutbox-rows.mjs): the forced cells as the released guide's own fill.sh prints them over the translation 1e8bc8b8ff946909… (all of the seat's roots in one cut). By AI agents, Wed Nov 11 2026. No macro, syntax, notation, axiom, sorry.
-/
import Derived.Test.YtdkfgniajlbifaaChecked
import GoSem.Claim
import GoSem.ClaimJoined
import GoSem.ClaimMapViews
import Derived.JoinedTies
import Derived.KernelRfl
namespace Go.Proofs.Ytdkfgniajlbifaa
/- THE CELL 'sum', in the pinned program and in every row, IS THE sha256 OF THE DUMP (.gsa) THAT YtdkfgniajlbifaaProg.lean LOADS. Nothing in Lean hashes anything: it is a label: what it is worth is what the hold of that sum in a sandbox is worth. -/
noncomputable def Try.pinned : Pinned := { name := "ytdkfgniajlbifaa", sum := "1e8bc8b8ff946909645004fd614a7c431bd7e793830d9d955467db9efa065bfa", checked := Try.checked }
namespace Rows
def none {H : Type} : Left H := { results := [], args := [] }

/-- 'pantrylaw01.PhysActs': WHATEVER THE INPUT: true; the input reads as it did. -/
def physActsSpec : ChangeSpec := { name := "physActs", fn := fun _ => fun
  | [d1, d2, d3] => { results := [.lit (.bool true)], args := [d1, d2, d3] }
  | _ => none }
def physActsRow : OpenClaim := { program := "ytdkfgniajlbifaa", sum := "1e8bc8b8ff946909645004fd614a7c431bd7e793830d9d955467db9efa065bfa", func := "pantry/pantrylaw01.PhysActs", spec := "physActs", apart := false }
def PhysActsSaid : Prop := physActsRow.holds Try.pinned (OpenSpec.ofChange physActsSpec)

/-- ITS FALSE NEIGHBOUR: 'it returns false'. Refute it at one input. -/
def physActsWrong : ChangeSpec := { name := "physActs", fn := fun _ => fun
  | [d1, d2, d3] => { results := [.lit (.bool false)], args := [d1, d2, d3] }
  | _ => none }
def PhysActsWrongFalsely : Prop := physActsRow.holds Try.pinned (OpenSpec.ofChange physActsWrong)

/-- 'pantrylaw01.PhysApart': WHATEVER THE INPUT: true; the input reads as it did. -/
def physApartSpec : ChangeSpec := { name := "physApart", fn := fun _ => fun
  | [d1, d2, d3] => { results := [.lit (.bool true)], args := [d1, d2, d3] }
  | _ => none }
def physApartRow : OpenClaim := { program := "ytdkfgniajlbifaa", sum := "1e8bc8b8ff946909645004fd614a7c431bd7e793830d9d955467db9efa065bfa", func := "pantry/pantrylaw01.PhysApart", spec := "physApart", apart := false }
def PhysApartSaid : Prop := physApartRow.holds Try.pinned (OpenSpec.ofChange physApartSpec)

/-- ITS FALSE NEIGHBOUR: 'it returns false'. Refute it at one input. -/
def physApartWrong : ChangeSpec := { name := "physApart", fn := fun _ => fun
  | [d1, d2, d3] => { results := [.lit (.bool false)], args := [d1, d2, d3] }
  | _ => none }
def PhysApartWrongFalsely : Prop := physApartRow.holds Try.pinned (OpenSpec.ofChange physApartWrong)

/-- 'pantrylaw01.PhysWords': WHATEVER THE INPUT: true; the input reads as it did. -/
def physWordsSpec : ChangeSpec := { name := "physWords", fn := fun _ => fun
  | [d1, d2] => { results := [.lit (.bool true)], args := [d1, d2] }
  | _ => none }
def physWordsRow : OpenClaim := { program := "ytdkfgniajlbifaa", sum := "1e8bc8b8ff946909645004fd614a7c431bd7e793830d9d955467db9efa065bfa", func := "pantry/pantrylaw01.PhysWords", spec := "physWords", apart := false }
def PhysWordsSaid : Prop := physWordsRow.holds Try.pinned (OpenSpec.ofChange physWordsSpec)

/-- ITS FALSE NEIGHBOUR: 'it returns false'. Refute it at one input. -/
def physWordsWrong : ChangeSpec := { name := "physWords", fn := fun _ => fun
  | [d1, d2] => { results := [.lit (.bool false)], args := [d1, d2] }
  | _ => none }
def PhysWordsWrongFalsely : Prop := physWordsRow.holds Try.pinned (OpenSpec.ofChange physWordsWrong)

/-- 'pantrylaw01.PhysOwn': WHATEVER THE INPUT: true; the input reads as it did. -/
def physOwnSpec : ChangeSpec := { name := "physOwn", fn := fun _ => fun
  | [d1, d2] => { results := [.lit (.bool true)], args := [d1, d2] }
  | _ => none }
def physOwnRow : OpenClaim := { program := "ytdkfgniajlbifaa", sum := "1e8bc8b8ff946909645004fd614a7c431bd7e793830d9d955467db9efa065bfa", func := "pantry/pantrylaw01.PhysOwn", spec := "physOwn", apart := false }
def PhysOwnSaid : Prop := physOwnRow.holds Try.pinned (OpenSpec.ofChange physOwnSpec)

/-- ITS FALSE NEIGHBOUR: 'it returns false'. Refute it at one input. -/
def physOwnWrong : ChangeSpec := { name := "physOwn", fn := fun _ => fun
  | [d1, d2] => { results := [.lit (.bool false)], args := [d1, d2] }
  | _ => none }
def PhysOwnWrongFalsely : Prop := physOwnRow.holds Try.pinned (OpenSpec.ofChange physOwnWrong)

/-- 'pantrylaw01.PhysNone': WHATEVER THE INPUT: true; the input reads as it did. -/
def physNoneSpec : ChangeSpec := { name := "physNone", fn := fun _ => fun
  | [d] => { results := [.lit (.bool true)], args := [d] }
  | _ => none }
def physNoneRow : OpenClaim := { program := "ytdkfgniajlbifaa", sum := "1e8bc8b8ff946909645004fd614a7c431bd7e793830d9d955467db9efa065bfa", func := "pantry/pantrylaw01.PhysNone", spec := "physNone", apart := false }
def PhysNoneSaid : Prop := physNoneRow.holds Try.pinned (OpenSpec.ofChange physNoneSpec)

/-- ITS FALSE NEIGHBOUR: 'it returns false'. Refute it at one input. -/
def physNoneWrong : ChangeSpec := { name := "physNone", fn := fun _ => fun
  | [d] => { results := [.lit (.bool false)], args := [d] }
  | _ => none }
def PhysNoneWrongFalsely : Prop := physNoneRow.holds Try.pinned (OpenSpec.ofChange physNoneWrong)

/-- 'pantrylaw01.PhysFills': WHATEVER THE INPUT: true; the input reads as it did. -/
def physFillsSpec : ChangeSpec := { name := "physFills", fn := fun _ => fun
  | [d1, d2] => { results := [.lit (.bool true)], args := [d1, d2] }
  | _ => none }
def physFillsRow : OpenClaim := { program := "ytdkfgniajlbifaa", sum := "1e8bc8b8ff946909645004fd614a7c431bd7e793830d9d955467db9efa065bfa", func := "pantry/pantrylaw01.PhysFills", spec := "physFills", apart := false }
def PhysFillsSaid : Prop := physFillsRow.holds Try.pinned (OpenSpec.ofChange physFillsSpec)

/-- ITS FALSE NEIGHBOUR: 'it returns false'. Refute it at one input. -/
def physFillsWrong : ChangeSpec := { name := "physFills", fn := fun _ => fun
  | [d1, d2] => { results := [.lit (.bool false)], args := [d1, d2] }
  | _ => none }
def PhysFillsWrongFalsely : Prop := physFillsRow.holds Try.pinned (OpenSpec.ofChange physFillsWrong)

/-- 'pantrylaw01.PhysBytes': WHATEVER THE INPUT: true; the input reads as it did. -/
def physBytesSpec : ChangeSpec := { name := "physBytes", fn := fun _ => fun
  | [d1, d2, d3] => { results := [.lit (.bool true)], args := [d1, d2, d3] }
  | _ => none }
def physBytesRow : OpenClaim := { program := "ytdkfgniajlbifaa", sum := "1e8bc8b8ff946909645004fd614a7c431bd7e793830d9d955467db9efa065bfa", func := "pantry/pantrylaw01.PhysBytes", spec := "physBytes", apart := false }
def PhysBytesSaid : Prop := physBytesRow.holds Try.pinned (OpenSpec.ofChange physBytesSpec)

/-- ITS FALSE NEIGHBOUR: 'it returns false'. Refute it at one input. -/
def physBytesWrong : ChangeSpec := { name := "physBytes", fn := fun _ => fun
  | [d1, d2, d3] => { results := [.lit (.bool false)], args := [d1, d2, d3] }
  | _ => none }
def PhysBytesWrongFalsely : Prop := physBytesRow.holds Try.pinned (OpenSpec.ofChange physBytesWrong)

/- THE SECOND FORM. 'bulk': how many values and letters a reading holds, each counted each time it is reached (what is shared counts as often as it is met; a slice's spare places count too). A statement '..UptoSaid' is the law's where the arguments, and the package variables that the reading takes, are together of bulk at most 1048576: NARROWER than '..Said'. Prove '..Said' where nothing that the law and all that it calls make is longer than what came in: it says more and counts as full. Else prove '..UptoSaid'. A law counts once. -/
mutual
def uptoBulk {H : Type} : DataW H → Nat
  | .lit (.string bytes) => bytes.length + 1
  | .lit _ => 1
  | .nil => 1
  | .ptr d => uptoBulk d + 1
  | .slice elems spare => uptoBulkAll elems + uptoBulkAll spare + 1
  | .agg parts => uptoBulkAll parts + 1
  | .iface _ d => uptoBulk d + 1
  | .map entries => uptoBulkEntries entries + 1
  | .held _ => 1
def uptoBulkAll {H : Type} : List (DataW H) → Nat
  | [] => 0
  | d :: r => uptoBulk d + uptoBulkAll r
def uptoBulkEntries {H : Type} : List (Lit × DataW H) → Nat
  | [] => 0
  | x :: r => uptoBulkEntry x + uptoBulkEntries r
def uptoBulkEntry {H : Type} : Lit × DataW H → Nat
  | (.string bytes, d) => bytes.length + uptoBulk d + 1
  | (_, d) => uptoBulk d + 1
 end
def uptoSmall : (H : Type) → List (DataW H) → Bool := fun _ ds => decide (uptoBulkAll ds ≤ 1048576)
def OpenSpec.upto (s : _root_.Go.ChangeSpec) : _root_.Go.OpenSpec := { _root_.Go.OpenSpec.ofChange s with cond := some uptoSmall }

/-- 'pantrylaw01.PhysActs', WHERE WHAT IT READS IS OF BULK AT MOST 1048576: true; the input reads as it did. -/
def physActsUptoRow : OpenClaim := { program := "ytdkfgniajlbifaa", sum := "1e8bc8b8ff946909645004fd614a7c431bd7e793830d9d955467db9efa065bfa", func := "pantry/pantrylaw01.PhysActs", spec := "physActs", apart := false, narrowed := true }
def PhysActsUptoSaid : Prop := physActsUptoRow.holds Try.pinned (OpenSpec.upto physActsSpec)

/-- 'pantrylaw01.PhysApart', WHERE WHAT IT READS IS OF BULK AT MOST 1048576: true; the input reads as it did. -/
def physApartUptoRow : OpenClaim := { program := "ytdkfgniajlbifaa", sum := "1e8bc8b8ff946909645004fd614a7c431bd7e793830d9d955467db9efa065bfa", func := "pantry/pantrylaw01.PhysApart", spec := "physApart", apart := false, narrowed := true }
def PhysApartUptoSaid : Prop := physApartUptoRow.holds Try.pinned (OpenSpec.upto physApartSpec)

/-- 'pantrylaw01.PhysWords', WHERE WHAT IT READS IS OF BULK AT MOST 1048576: true; the input reads as it did. -/
def physWordsUptoRow : OpenClaim := { program := "ytdkfgniajlbifaa", sum := "1e8bc8b8ff946909645004fd614a7c431bd7e793830d9d955467db9efa065bfa", func := "pantry/pantrylaw01.PhysWords", spec := "physWords", apart := false, narrowed := true }
def PhysWordsUptoSaid : Prop := physWordsUptoRow.holds Try.pinned (OpenSpec.upto physWordsSpec)

/-- 'pantrylaw01.PhysOwn', WHERE WHAT IT READS IS OF BULK AT MOST 1048576: true; the input reads as it did. -/
def physOwnUptoRow : OpenClaim := { program := "ytdkfgniajlbifaa", sum := "1e8bc8b8ff946909645004fd614a7c431bd7e793830d9d955467db9efa065bfa", func := "pantry/pantrylaw01.PhysOwn", spec := "physOwn", apart := false, narrowed := true }
def PhysOwnUptoSaid : Prop := physOwnUptoRow.holds Try.pinned (OpenSpec.upto physOwnSpec)

/-- 'pantrylaw01.PhysNone', WHERE WHAT IT READS IS OF BULK AT MOST 1048576: true; the input reads as it did. -/
def physNoneUptoRow : OpenClaim := { program := "ytdkfgniajlbifaa", sum := "1e8bc8b8ff946909645004fd614a7c431bd7e793830d9d955467db9efa065bfa", func := "pantry/pantrylaw01.PhysNone", spec := "physNone", apart := false, narrowed := true }
def PhysNoneUptoSaid : Prop := physNoneUptoRow.holds Try.pinned (OpenSpec.upto physNoneSpec)

/-- 'pantrylaw01.PhysFills', WHERE WHAT IT READS IS OF BULK AT MOST 1048576: true; the input reads as it did. -/
def physFillsUptoRow : OpenClaim := { program := "ytdkfgniajlbifaa", sum := "1e8bc8b8ff946909645004fd614a7c431bd7e793830d9d955467db9efa065bfa", func := "pantry/pantrylaw01.PhysFills", spec := "physFills", apart := false, narrowed := true }
def PhysFillsUptoSaid : Prop := physFillsUptoRow.holds Try.pinned (OpenSpec.upto physFillsSpec)

/-- 'pantrylaw01.PhysBytes', WHERE WHAT IT READS IS OF BULK AT MOST 1048576: true; the input reads as it did. -/
def physBytesUptoRow : OpenClaim := { program := "ytdkfgniajlbifaa", sum := "1e8bc8b8ff946909645004fd614a7c431bd7e793830d9d955467db9efa065bfa", func := "pantry/pantrylaw01.PhysBytes", spec := "physBytes", apart := false, narrowed := true }
def PhysBytesUptoSaid : Prop := physBytesUptoRow.holds Try.pinned (OpenSpec.upto physBytesSpec)

end Rows
end Go.Proofs.Ytdkfgniajlbifaa
