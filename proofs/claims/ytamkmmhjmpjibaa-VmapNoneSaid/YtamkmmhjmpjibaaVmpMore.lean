/- Layer 16, the laws: what lies apart from a map that is turned. -/
import Derived.Test.YtamkmmhjmpjibaaVmpSay
namespace Go.Proofs.Ytamkmmhjmpjibaa
open Go.ChangeShapes Go.WideShapes Go.ChangeAt Go.RowKit Go.Deep
set_option linter.unusedVariables false
set_option linter.unusedSimpArgs false

theorem EOwn.past {w w' : World} {O : List Nat} {base : Nat} {u : Value} {L : List En} (h : EOwn w base u L) (t : Turn O w w') (ho : ∀ b, b ∈ O → b < base) : EOwn w' base u L :=
  OwnOf.kept h fun b hb => t.block b (OwnOf.lt h hb).2 fun hm => by
    have := ho b hm
    have := (OwnOf.lt h hb).1
    omega
theorem VM.rv {w : World} {r : Nat} {v : Value} {L : List En} (h : VM w r v L) : ∀ b, b ∈ r :: blkL v → b < w.heap.size := fun b hb => by
  rcases List.mem_cons.1 hb with e | e
  · rw [e]; exact h.lt
  · exact (OwnOf.lt h.own (mem_blk.1 e)).2
theorem VM.past {w w' : World} {O : List Nat} {n : Nat} {r : Nat} {v : Value} {L : List En} (h : VM w r v L) (t : Turn O w w') (hr : n ≤ r) (ho : ∀ b, b ∈ O → b < n) : VM w' r v L :=
  h.turn t (fun hm => by have := ho _ hm; omega) fun b hb hm => by
    have := ho b hm
    have := (OwnOf.lt h.own hb).1
    omega
theorem step_fork {L : List En} {A : VAct} (he : (stepV L A).err ≠ 0) : A.k ≠ 6 := fun h => he (by
  unfold stepV
  rw [if_neg (by omega), if_neg (by omega), if_neg (by omega), if_neg (by omega), if_neg (by omega), if_neg (by omega), if_pos h])
end Go.Proofs.Ytamkmmhjmpjibaa
