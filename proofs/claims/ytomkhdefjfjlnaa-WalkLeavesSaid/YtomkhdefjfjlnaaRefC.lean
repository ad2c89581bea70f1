/- The document's own memory of layer 1: Fill, Zero, Page, Copy, Same. -/
import Derived.Test.YtomkhdefjfjlnaaRefB
import Derived.RegionTactic
import Derived.BigRegion
namespace Go.Proofs.Ytomkhdefjfjlnaa
open Go.ChangeShapes Go.WideShapes Go.ChangeAt Go.RowKit Go.Deep
open Extern.Stop (cell)
set_option linter.unusedVariables false

/-- Bytes that lie in no row read the same past a call of the document's. -/
theorem Src.past {w w' : World} {R : List Nat} {s : Option Addr} {l : Nat} {bs : List UInt8} (h : Src w s l bs) (K : Kept R w w') (hs : l ≠ 0 → ∀ a, s = some a → a.block ∉ R) : Src w' s l bs := by
  refine ⟨h.1, ?_⟩
  by_cases hl : l = 0
  · exact .inl hl
  · rcases h.2 with h0 | ⟨g, o, rfl, hr⟩
    · exact absurd h0 hl
    · refine .inr ⟨g, o, rfl, range_kept hr (K g ?_ (hs hl _ rfl))⟩
      obtain ⟨x, hx⟩ : ∃ x, (bs.map Extern.Stop.cell)[0]? = some x := by
        cases bs with
        | nil => simp [← h.1] at hl
        | cons x r => exact ⟨_, rfl⟩
      exact World.block_lt_of_cell? w _ (hr 0 x hx)

section
variable {w0 w w' : World} {r f n : Nat} {R : List Nat} {L : List UInt8}

theorem RS.alike (h : RS w0 w r f n R L) (e1 : w'.heap = w.heap) (e2 : w'.os = w.os) (e3 : w'.tape = w.tape) (e4 : w'.output = w.output) : RS w0 w' r f n R L :=
  ⟨h.mem.same (by rw [e1]) (by rw [e1]) fun p _ => by rw [e1], ⟨e2.trans h.below.os, e3.trans h.below.tape, e4.trans h.below.output, by rw [e1]; exact h.below.size, fun k hk => by rw [e1]; exact h.below.block k hk⟩, h.rge, h.fge, h.Rge⟩
theorem Kept.alike {w'' : World} (h : Kept R w w') (e : w''.heap = w'.heap) : Kept R w w'' := fun g hg hR => by rw [e]; exact h g hg hR

theorem fillOf_nil : fillOf [] = zeroPage := rfl

theorem grown_alloc_then {w w2 : World} {o : Obj} (h : (w.alloc o).grownBy w2 (some w.heap.size)) : w.grownBy w2 none := by
  refine ⟨h.os, h.tape, h.output, by have := h.size; simp at this; omega, fun k hk _ => ?_⟩
  rw [h.block k (by simp; omega) (by simp; omega)]
  exact heap_alloc_old w o hk

end
end Go.Proofs.Ytomkhdefjfjlnaa
