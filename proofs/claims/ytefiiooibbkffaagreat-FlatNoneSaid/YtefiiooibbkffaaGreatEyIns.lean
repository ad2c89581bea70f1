/- Package entry (landed): Insert. -/
import Derived.Test.YtefiiooibbkffaaGreatEyClipR
namespace Go.Proofs.YtefiiooibbkffaaGreat
open Go.ChangeShapes Go.WideShapes Go.ChangeAt Go.RowKit Go.Deep Go.Sort
set_option linter.unusedVariables false

theorem eown_form {w : World} {base : Nat} {v : Value} {xs : List En} (h : EOwn w base v xs) : ∃ a c, v = .slice a xs.length c := OwnOf.form h
theorem eown_lower {w : World} {base base2 : Nat} {v : Value} {xs : List En} (h : EOwn w base v xs) (hb : base2 ≤ base) : EOwn w base2 v xs := OwnOf.lower h hb
theorem parts_three {w : World} {B c1 c2 c3 : Nat} {a1 a2 a3 : Option Addr} {P Q R : List En} (hn : w.heap[B]? = some (.cells #[.slice a1 P.length c1, .slice a2 Q.length c2, .slice a3 R.length c3] 47 (0, 0))) (hP : EC w (.slice a1 P.length c1) P) (hQ : EC w (.slice a2 Q.length c2) Q) (hR : EC w (.slice a3 R.length c3) R) :
    EParts w (.slice (some ⟨B, 0, none⟩) 3 3) [P, Q, R] := by
  refine ⟨B, rfl, fun i X hX => ?_⟩
  rw [cell_of_row _ _ _ _ _ _ hn]
  match i, hX with
  | 0, hX => cases hX; exact ⟨_, rfl, hP⟩
  | 1, hX => cases hX; exact ⟨_, rfl, hQ⟩
  | 2, hX => cases hX; exact ⟨_, rfl, hR⟩
  | i + 3, hX => cases hX
theorem parts_two {w : World} {B c1 c2 : Nat} {a1 a2 : Option Addr} {P Q : List En} (hn : w.heap[B]? = some (.cells #[.slice a1 P.length c1, .slice a2 Q.length c2] 47 (0, 0))) (hP : EC w (.slice a1 P.length c1) P) (hQ : EC w (.slice a2 Q.length c2) Q) :
    EParts w (.slice (some ⟨B, 0, none⟩) 2 2) [P, Q] := by
  refine ⟨B, rfl, fun i X hX => ?_⟩
  rw [cell_of_row _ _ _ _ _ _ hn]
  match i, hX with
  | 0, hX => cases hX; exact ⟨_, rfl, hP⟩
  | 1, hX => cases hX; exact ⟨_, rfl, hQ⟩
  | i + 2, hX => cases hX
/-- A block of entries, as a list. -/
theorem ec_one {w : World} {B : Nat} {x : En} (hn : w.heap[B]? = some (.cells #[.int .i64 x.s, .int .i64 x.e, .int .i64 x.f, .int .i64 x.o, .bool x.sh, .int .i64 x.p, .int .i64 x.m, .int .i64 x.i, .int .i64 x.a, .bool x.wi] 50 (0, 0))) : EC w (.slice (some ⟨B, 0, none⟩) 1 1) [x] := by
  refine ⟨.inl ⟨rfl, .inr ⟨B, 0, 1, rfl, (Array.getElem?_eq_some_iff.1 hn).1, fun j u hu => ?_⟩⟩, fun a l c e => by cases e; exact Nat.le_refl _⟩
  rw [Nat.zero_add, cell_of_row _ _ _ _ _ _ hn]
  simpa [enCells] using hu
theorem ec_two {w : World} {B : Nat} {x y : En} (hn : w.heap[B]? = some (.cells #[.int .i64 x.s, .int .i64 x.e, .int .i64 x.f, .int .i64 x.o, .bool x.sh, .int .i64 x.p, .int .i64 x.m, .int .i64 x.i, .int .i64 x.a, .bool x.wi, .int .i64 y.s, .int .i64 y.e, .int .i64 y.f, .int .i64 y.o, .bool y.sh, .int .i64 y.p, .int .i64 y.m, .int .i64 y.i, .int .i64 y.a, .bool y.wi] 50 (0, 0))) : EC w (.slice (some ⟨B, 0, none⟩) 2 2) [x, y] := by
  refine ⟨.inl ⟨rfl, .inr ⟨B, 0, 2, rfl, (Array.getElem?_eq_some_iff.1 hn).1, fun j u hu => ?_⟩⟩, fun a l c e => by cases e; exact Nat.le_refl _⟩
  rw [Nat.zero_add, cell_of_row _ _ _ _ _ _ hn]
  simpa [enCells] using hu
theorem ins_yes {L : List En} {x : En} (h1 : goodB x = true) (h2 : freeB L x = true) : insE L x = (putE L x, true) := by unfold insE; rw [h1, h2]; rfl
theorem ins_bad {L : List En} {x : En} (h1 : goodB x = false) : insE L x = (L, false) := by unfold insE; rw [h1]; rfl
theorem ins_no {L : List En} {x : En} (h2 : freeB L x = false) : insE L x = (L, false) := by unfold insE; rw [h2]; simp
end Go.Proofs.YtefiiooibbkffaaGreat
