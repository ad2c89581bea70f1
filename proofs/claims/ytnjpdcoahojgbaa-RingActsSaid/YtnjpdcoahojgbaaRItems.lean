/- Rows of items, plainly: what an item's coming and going makes of them. No program. -/
import Derived.Test.YtnjpdcoahojgbaaRWorld
namespace Go.Proofs.Ytnjpdcoahojgbaa
open Go.RowKit
set_option linter.unusedVariables false

theorem modify_mid {α : Type} (f : α → α) (S1 S2 : List α) (x : α) : (S1 ++ x :: S2).modify S1.length f = S1 ++ f x :: S2 := by
  induction S1 with
  | nil => simp
  | cons y S1 ih => simpa using ih

theorem at_split {α : Type} {S : List α} {r : Nat} {x : α} (h : S[r]? = some x) : ∃ S1 S2, S = S1 ++ x :: S2 ∧ S1.length = r := by
  obtain ⟨hr, hx⟩ := List.getElem?_eq_some_iff.1 h
  refine ⟨S.take r, S.drop (r + 1), ?_, by simp; omega⟩
  rw [← hx, ← List.drop_eq_getElem_cons hr, List.take_append_drop]

section
variable {K : Type}

/-- The items alone. -/
def strip (T : List (List (K × Nat))) : List (List K) := T.map (·.map (·.1))

theorem strip_length (T : List (List (K × Nat))) : (strip T).length = T.length := by simp [strip]
theorem strip_flat (T : List (List (K × Nat))) : (strip T).flatten = T.flatten.map (·.1) := by
  unfold strip
  rw [List.map_flatten]
theorem strip_get (T : List (List (K × Nat))) (r : Nat) : (strip T)[r]? = (T[r]?).map (·.map (·.1)) := by simp [strip]
theorem strip_mid (S1 S2 : List (List (K × Nat))) (l : List (K × Nat)) : strip (S1 ++ l :: S2) = strip S1 ++ l.map (·.1) :: strip S2 := by simp [strip]
theorem strip_flat_length (T : List (List (K × Nat))) : (strip T).flatten.length = T.flatten.length := by rw [strip_flat, List.length_map]

variable [DecidableEq K]

/-- An item leaves, wherever it stands. -/
def rmv (x : K) (S : List (List K)) : List (List K) := S.map (·.filter (fun y => decide (y ≠ x)))

theorem rmv_length (x : K) (S : List (List K)) : (rmv x S).length = S.length := by simp [rmv]
theorem rmv_get (x : K) (S : List (List K)) (r : Nat) : (rmv x S)[r]? = (S[r]?).map (·.filter (fun y => decide (y ≠ x))) := by simp [rmv]
theorem filter_absent {x : K} {l : List K} (h : x ∉ l) : l.filter (fun y => decide (y ≠ x)) = l :=
  List.filter_eq_self.2 fun y hy => by simp; rintro rfl; exact h hy
theorem rmv_absent {x : K} {S : List (List K)} (h : x ∉ S.flatten) : rmv x S = S := by
  unfold rmv
  conv => rhs; rw [← List.map_id S]
  refine List.map_congr_left fun l hl => ?_
  exact filter_absent fun hx => h (List.mem_flatten.2 ⟨l, hl, hx⟩)
theorem rmv_flat (x : K) (S : List (List K)) : (rmv x S).flatten = S.flatten.filter (fun y => decide (y ≠ x)) := by
  unfold rmv
  rw [List.filter_flatten]

theorem filter_one {x : K} {l1 l2 : List K} (h : (l1 ++ x :: l2).Nodup) : (l1 ++ x :: l2).filter (fun y => decide (y ≠ x)) = l1 ++ l2 := by
  have k := List.nodup_append.1 h
  have k2 := List.nodup_cons.1 k.2.1
  have n1 : x ∉ l1 := fun m => k.2.2 x m x (by simp) rfl
  rw [List.filter_append, List.filter_cons, filter_absent n1, filter_absent k2.1]
  simp

theorem rmv_one {x : K} {S1 S2 : List (List K)} {l1 l2 : List K} (h : (S1 ++ (l1 ++ x :: l2) :: S2).flatten.Nodup) : rmv x (S1 ++ (l1 ++ x :: l2) :: S2) = S1 ++ (l1 ++ l2) :: S2 := by
  rw [List.flatten_append, List.flatten_cons] at h
  have k := List.nodup_append.1 h
  have k2 := List.nodup_append.1 k.2.1
  have n1 : x ∉ S1.flatten := fun m => k.2.2 x m x (by simp) rfl
  have n2 : x ∉ S2.flatten := fun m => k2.2.2 x (by simp) x m rfl
  have e1 := rmv_absent n1
  have e2 := rmv_absent n2
  unfold rmv at *
  rw [List.map_append, List.map_cons, e1, e2, filter_one k2.1]

theorem strip_cut {x : K} {a : Nat} {S1 S2 : List (List (K × Nat))} {l1 l2 : List (K × Nat)} (h : ((S1 ++ (l1 ++ (x, a) :: l2) :: S2).flatten.map (·.1)).Nodup) :
    strip (S1 ++ (l1 ++ l2) :: S2) = rmv x (strip (S1 ++ (l1 ++ (x, a) :: l2) :: S2)) := by
  rw [← strip_flat] at h
  rw [strip_mid] at h ⊢
  rw [strip_mid]
  simp only [List.map_append, List.map_cons] at h ⊢
  rw [rmv_one h]

/-- What Push, Front, Shift, Remove, Turn, First and Where make of rows, and tell. -/
def fits (r : Int) (x : K) (S : List (List K)) : Prop := 0 ≤ r ∧ r < S.length ∧ (x ∈ S.flatten ∨ S.flatten.length < 4096)
instance (r : Int) (x : K) (S : List (List K)) : Decidable (fits r x S) := by unfold fits; infer_instance

def pushS (r : Int) (x : K) (S : List (List K)) : List (List K) := if fits r x S then (rmv x S).modify r.toNat (· ++ [x]) else S
def frontS (r : Int) (x : K) (S : List (List K)) : List (List K) := if fits r x S then (rmv x S).modify r.toNat (x :: ·) else S
def rowS (r : Int) (S : List (List K)) : List K := if 0 ≤ r then (S[r.toNat]?).getD [] else []
def shiftS (r : Int) (S : List (List K)) : List (List K) := if 0 ≤ r then S.modify r.toNat List.tail else S
def turnS (r : Int) (S : List (List K)) : List (List K) := if 0 ≤ r then S.modify r.toNat (fun l => match l with | [] => [] | x :: t => t ++ [x]) else S
end
end Go.Proofs.Ytnjpdcoahojgbaa
