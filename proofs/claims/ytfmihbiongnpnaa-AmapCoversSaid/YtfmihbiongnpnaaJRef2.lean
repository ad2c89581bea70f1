/- The document's counts of layer 11: Runs. -/
import Derived.Test.YtfmihbiongnpnaaJRef1
namespace Go.Proofs.Ytfmihbiongnpnaa
open Go.ChangeShapes Go.WideShapes Go.ChangeAt Go.RowKit Go.Deep
set_option linter.unusedVariables false

theorem runsTo_len (L : List Int) (k : Nat) : (runsTo L k).length ≤ k := by
  have := (runsTo_side L k).len
  omega
theorem pushJ_nil (x i : Int) : pushJ [] x i = [⟨i, i + 1, x⟩] := rfl
theorem pushJ_same (A : List JR) (r : JR) (i : Int) : pushJ (A ++ [r]) r.n i = A ++ [⟨r.lo, i + 1, r.n⟩] := by
  unfold pushJ
  rw [List.getLast?_concat]
  simp only
  rw [if_pos trivial, List.dropLast_concat]
theorem pushJ_other (A : List JR) (r : JR) (x i : Int) (h : r.n ≠ x) : pushJ (A ++ [r]) x i = A ++ [r] ++ [⟨i, i + 1, x⟩] := by
  unfold pushJ
  rw [List.getLast?_concat]
  simp only
  rw [if_neg h]

section
variable {w : World} {q g c : Nat} {L : List Int}
end
end Go.Proofs.Ytfmihbiongnpnaa
