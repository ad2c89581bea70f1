/- What a landed Copy answers: its row lies apart from the pool. -/
import Derived.Test.YtfmihbiongnpnaaAMade
namespace Go.Proofs.Ytfmihbiongnpnaa
open Go.ChangeShapes Go.WideShapes Go.ChangeAt Go.RowKit Go.Deep
set_option linter.unusedVariables false

def CopyS (D : World → Nat → Nat → AmL → List Nat → Prop) (w : World) (q most : Nat) (O : List Nat) (r : AR) (e : Ending) (w' : World) : Prop :=
  ∃ u O', e = .returned (.tuple #[.int .i64 r.n, u, .int .i64 r.e]) ∧ RowOf zCells 1 w' u r.l ∧ (∀ b, u.ownBlock = some b → w.heap.size ≤ b) ∧ (D w' q most r.L O' ∧ Turn O w w' ∧ ∀ b, b ∈ O' → b ∈ O ∨ w.heap.size ≤ b) ∧ ∀ b, u.ownBlock = some b → b ∉ O'
theorem blkA_same {p : Nat} {v : Value} {L : AmL} {S : Nat → AmP} {i b : Nat} {x y : AmV} (hi : i ≤ L.length) (h : b ∈ blkA p v (putA L i (some x)) S) : b ∈ blkA p v (putA L i (some y)) S := by
  rcases mem_blkA.1 h with e | e | e
  · exact mem_blkA.2 (.inl e)
  · exact mem_blkA.2 (.inr (.inl e))
  · obtain ⟨j, hj, hb⟩ := mem_blks.1 e
    rw [live_put hi] at hj
    exact mem_blkA.2 (.inr (.inr (mem_blks.2 ⟨j, by rw [live_put hi]; exact hj, hb⟩)))
end Go.Proofs.Ytfmihbiongnpnaa
