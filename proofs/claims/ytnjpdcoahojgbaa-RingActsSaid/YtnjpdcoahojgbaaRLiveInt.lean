/- Package ring at items of kind int: rows that a call has made for itself, and what else it keeps. -/
import Derived.Test.YtnjpdcoahojgbaaRNewInt
namespace Go.Proofs.Ytnjpdcoahojgbaa.RInt
open Go.ChangeShapes Go.WideShapes Go.ChangeAt Go.RowKit
set_option linter.unusedVariables false

/-- Rows that were made since the world w0; nothing that was there then has turned. -/
def Live (w0 w : World) (b : Nat) (S : List (List K)) : Prop := ∃ O, Is w b S O ∧ (∀ g, g ∈ O → w0.heap.size ≤ g) ∧ Below w0.heap.size w0 w

section
variable {w0 w : World} {b : Nat} {S : List (List K)}

theorem Live.now {O : List Nat} {S' : List (List K)} {v : Value} {e : Ending} {w' : World} (hO : ∀ g, g ∈ O → w0.heap.size ≤ g) (hb : Below w0.heap.size w0 w) (h : Now w b O S' v e w') : e = .returned v ∧ Live w0 w' b S' := by
  obtain ⟨he, O', hI, hK, hO', _⟩ := h
  refine ⟨he, O', hI, fun g hg => ?_, hb.trans (hK.below _ hb.size hO)⟩
  rcases hO' g hg with q | q
  · exact hO g q
  · exact Nat.le_trans hb.size q

theorem Live.start (m : Nat) (h1 : 1 ≤ m) (h2 : m ≤ 64) : Calls Try.prog 10 #[.int .i64 m] w0 fun e w' => ∃ b, e = .returned (.pointer (some ⟨b, 0, none⟩)) ∧ Live w0 w' b (List.replicate m []) := by
  refine (new_ok m w0 h1 h2).mono ?_
  rintro e w' ⟨b, O, he, hI, hB, hO⟩
  exact ⟨b, he, O, hI, hO, hB⟩

theorem Live.push (h : Live w0 w b S) (r : Int) {x : K} (hx : okK x) :
    Calls Try.prog 13 #[.pointer (some ⟨b, 0, none⟩), .int .i64 r, Value.int .i64 x] w fun e w' => e = .returned (.bool (decide (fits r x S))) ∧ Live w0 w' b (pushS r x S) := by
  obtain ⟨O, hI, hO, hB⟩ := h
  exact (push_any hI r hx).mono fun e w' hn => Live.now hO hB hn

theorem Live.len (h : Live w0 w b S) (r : Int) : Calls Try.prog 28 #[.pointer (some ⟨b, 0, none⟩), .int .i64 r] w fun e w' => e = .returned (.int .i64 (rowS r S).length) ∧ w = w' := by
  obtain ⟨O, hI, hO, hB⟩ := h
  exact len_any hI r

theorem Live.rows (h : Live w0 w b S) : Calls Try.prog 31 #[.pointer (some ⟨b, 0, none⟩)] w fun e w' => e = .returned (.int .i64 S.length) ∧ w = w' := by
  obtain ⟨O, hI, hO, hB⟩ := h
  exact rows_any hI

theorem Live.first (h : Live w0 w b S) (r : Int) : Calls Try.prog 25 #[.pointer (some ⟨b, 0, none⟩), .int .i64 r] w fun e w' => e = .returned (firstV (rowS r S)) ∧ w = w' := by
  obtain ⟨O, hI, hO, hB⟩ := h
  exact first_any hI r

theorem Live.below (h : Live w0 w b S) : Below w0.heap.size w0 w := by
  obtain ⟨O, hI, hO, hB⟩ := h
  exact hB
end
end Go.Proofs.Ytnjpdcoahojgbaa.RInt
