/- What has turned between two worlds; rows of values anywhere in memory. Over any program. -/
import Derived.Test.YtefiiooibbkffaaGreatTFlat
import Derived.Laws.AppendOwnNone
import Derived.Maps.AppendAt
import Derived.Deep.AppendLies
namespace Go.Proofs.YtefiiooibbkffaaGreat
open Go.ChangeShapes Go.WideShapes Go.ChangeAt Go.RowKit
set_option linter.unusedVariables false

/-- None but blocks of O has turned. -/
structure Turn (O : List Nat) (w w' : World) : Prop where
  os : w'.os = w.os
  tape : w'.tape = w.tape
  output : w'.output = w.output
  size : w.heap.size ≤ w'.heap.size
  block : ∀ k, k < w.heap.size → k ∉ O → w'.heap[k]? = w.heap[k]?

section
variable {O O' : List Nat} {w w' w2 : World}
theorem Turn.refl (O : List Nat) (w : World) : Turn O w w := ⟨rfl, rfl, rfl, Nat.le_refl _, fun _ _ _ => rfl⟩
theorem Turn.grown (g : w.grownBy w' none) : Turn O w w' := ⟨g.os, g.tape, g.output, g.size, fun k hk _ => g.block k hk (by simp)⟩
theorem Turn.one {x : Nat} (g : w.grownBy w' (some x)) (hx : x ∈ O) : Turn O w w' := ⟨g.os, g.tape, g.output, g.size, fun k hk hO => g.block k hk (fun e => hO (by rw [Option.some.inj e]; exact hx))⟩
theorem Turn.trans (h : Turn O w w') (k : Turn O' w' w2) (ho : ∀ b, b ∈ O' → b ∈ O ∨ w.heap.size ≤ b) : Turn O w w2 :=
  ⟨k.os.trans h.os, k.tape.trans h.tape, k.output.trans h.output, Nat.le_trans h.size k.size, fun b hb hO => (k.block b (Nat.lt_of_lt_of_le hb h.size) (fun hm => by
    rcases ho b hm with h1 | h1
    · exact hO h1
    · omega)).trans (h.block b hb hO)⟩
theorem Turn.trans' (h : Turn O w w') (k : Turn O w' w2) : Turn O w w2 := h.trans k fun b hb => .inl hb
theorem Turn.mono (h : Turn O w w') (ho : ∀ b, b ∈ O → b ∈ O') : Turn O' w w' := ⟨h.os, h.tape, h.output, h.size, fun k hk hO => h.block k hk fun hm => hO (ho k hm)⟩
theorem Turn.noGrown (h : Turn O w w') (ho : ∀ b, b ∈ O → w.heap.size ≤ b) : w.grownBy w' none := ⟨h.os, h.tape, h.output, h.size, fun k hk _ => h.block k hk fun hm => by have := ho k hm; omega⟩
theorem Turn.below {B : Nat} (h : Turn O w w') (hB : B ≤ w.heap.size) (ho : ∀ b, b ∈ O → B ≤ b) : Below B w w' := ⟨h.os, h.tape, h.output, h.size, fun k hk => h.block k (Nat.lt_of_lt_of_le hk hB) fun hm => by have := ho k hm; omega⟩
theorem Turn.setCell (O : List Nat) (w : World) (b o : Nat) (v : Value) (hb : b ∈ O) : Turn O w (w.setCell ⟨b, o, none⟩ v) :=
  ⟨rfl, rfl, rfl, by simp, fun k _ hk => heap_setCell_other w _ k v (fun e => hk (by rw [e]; exact hb))⟩
end

/-- A row of k elements of 'size' cells each. -/
def RowAt (w : World) (size : Nat) (v : Value) (k : Nat) (cs : List Value) : Prop :=
  cs.length = k * size ∧ ((v = .slice none 0 0 ∧ k = 0) ∨ ∃ g o c, v = .slice (some ⟨g, o, none⟩) k c ∧ g < w.heap.size ∧ ∀ (j : Nat) u, cs[j]? = some u → w.cell? ⟨g, o + j, none⟩ = some u)

section
variable {w w' : World} {size k : Nat} {v : Value} {cs : List Value}
theorem RowAt.nil (w : World) (size : Nat) : RowAt w size (.slice none 0 0) 0 [] := ⟨by simp, .inl ⟨rfl, rfl⟩⟩
theorem RowAt.kept (h : RowAt w size v k cs) (hs : w.heap.size ≤ w'.heap.size) (hb : ∀ a l c, v = .slice (some a) l c → w'.heap[a.block]? = w.heap[a.block]?) : RowAt w' size v k cs := by
  refine ⟨h.1, ?_⟩
  rcases h.2 with h0 | ⟨g, o, c, hv, hg, hc⟩
  · exact .inl h0
  · exact .inr ⟨g, o, c, hv, Nat.lt_of_lt_of_le hg hs, fun j u hu => (World.cell?_of_block (w := w) (w' := w') (a := ⟨g, o + j, none⟩) (show w'.heap[g]? = w.heap[g]? from hb ⟨g, o, none⟩ _ _ hv)).trans (hc j u hu)⟩
theorem RowAt.grow (h : RowAt w size v k cs) (g : w.grownBy w' none) : RowAt w' size v k cs := by
  refine h.kept g.size fun a l c hv => ?_
  rcases h.2 with ⟨h0, _⟩ | ⟨b, o, c', hv', hg, _⟩
  · rw [h0] at hv; cases hv
  · rw [hv'] at hv
    cases hv
    exact g.block _ hg (by simp)
theorem RowAt.own {base : Nat} {e : TypeId} (h : w.ownsRow base e size v k cs) : RowAt w size v k cs := by
  refine ⟨h.1, ?_⟩
  rcases h.2 with h0 | ⟨g, cap, cur, hv, _, hg, _, _, _, ht⟩
  · exact .inl h0
  · refine .inr ⟨g, 0, cap, hv, (Array.getElem?_eq_some_iff.1 hg).1, fun j u hu => ?_⟩
    rw [← ht] at hu
    have hj : j < k * size := by
      have := (List.getElem?_eq_some_iff.1 hu).1
      rw [List.length_take] at this
      omega
    rw [List.getElem?_take_of_lt hj, Array.getElem?_toList] at hu
    rw [Nat.zero_add, cell_of_row _ _ _ _ _ _ hg]
    exact hu
/-- Without its first element. -/
theorem RowAt.tail {g o c : Nat} (h : RowAt w size (.slice (some ⟨g, o, none⟩) (k + 1) c) (k + 1) cs) (c' : Nat) : RowAt w size (.slice (some ⟨g, o + size, none⟩) k c') k (cs.drop size) := by
  refine ⟨by rw [List.length_drop, h.1, Nat.succ_mul]; omega, ?_⟩
  rcases h.2 with ⟨h0, _⟩ | ⟨g', o', c2, hv, hg, hc⟩
  · cases h0
  · cases hv
    refine .inr ⟨g, o + size, c', rfl, hg, fun j u hu => ?_⟩
    rw [List.getElem?_drop] at hu
    have := hc _ u hu
    rwa [← Nat.add_assoc] at this
theorem RowAt.form (h : RowAt w size v k cs) : ∃ s c, v = .slice s k c := by
  rcases h.2 with ⟨rfl, rfl⟩ | ⟨g, o, c, rfl, _⟩
  · exact ⟨_, _, rfl⟩
  · exact ⟨_, _, rfl⟩
end

/-- Elements, each by its cells. -/
theorem flat_at {α : Type} (cells : α → List Value) (size : Nat) (hsz : ∀ x, (cells x).length = size) (xs : List α) (j : Nat) (y : α) (h : xs[j]? = some y) (q : Nat) (u : Value) (hq : (cells y)[q]? = some u) : (xs.flatMap cells)[j * size + q]? = some u := by
  have hq3 : q < size := by have := (List.getElem?_eq_some_iff.1 hq).1; rw [hsz] at this; exact this
  induction xs generalizing j with
  | nil => simp at h
  | cons x xs ih =>
    cases j with
    | zero =>
      simp only [List.getElem?_cons_zero, Option.some.injEq] at h
      subst h
      rw [List.flatMap_cons, Nat.zero_mul, Nat.zero_add, List.getElem?_append_left (by rw [hsz]; exact hq3)]
      exact hq
    | succ j =>
      rw [List.getElem?_cons_succ] at h
      rw [List.flatMap_cons, List.getElem?_append_right (by rw [hsz, Nat.succ_mul]; omega)]
      have : (j + 1) * size + q - (cells x).length = j * size + q := by rw [hsz, Nat.succ_mul]; omega
      rw [this]
      exact ih j h
theorem flat_len {α : Type} (cells : α → List Value) (size : Nat) (hsz : ∀ x, (cells x).length = size) (xs : List α) : (xs.flatMap cells).length = xs.length * size := by
  induction xs with
  | nil => simp
  | cons x xs ih => rw [List.flatMap_cons, List.length_append, ih, hsz, List.length_cons, Nat.succ_mul]; omega
theorem flat_drop {α : Type} (cells : α → List Value) (size : Nat) (hsz : ∀ x, (cells x).length = size) (x : α) (xs : List α) : ((x :: xs).flatMap cells).drop size = xs.flatMap cells := by
  rw [List.flatMap_cons, List.drop_append_of_le_length (by rw [hsz]; exact Nat.le_refl _), List.drop_of_length_le (by rw [hsz]; exact Nat.le_refl _), List.nil_append]

/-- A row of such elements. -/
def RowOf {α : Type} (cells : α → List Value) (size : Nat) (w : World) (v : Value) (xs : List α) : Prop := RowAt w size v xs.length (xs.flatMap cells)
theorem RowOf.at {α : Type} {cells : α → List Value} {size : Nat} {w : World} {v : Value} {xs : List α} (hsz : ∀ x, (cells x).length = size) (h : RowOf cells size w v xs) {j : Nat} {y : α} (hy : xs[j]? = some y) :
    ∃ g o c, v = .slice (some ⟨g, o, none⟩) xs.length c ∧ ∀ (q : Nat) u, (cells y)[q]? = some u → w.cell? ⟨g, o + (j * size + q), none⟩ = some u := by
  have hj : j < xs.length := (List.getElem?_eq_some_iff.1 hy).1
  rcases h.2 with ⟨_, h0⟩ | ⟨g, o, c, hv, hg, hc⟩
  · omega
  · exact ⟨g, o, c, hv, fun q u hq => hc _ u (flat_at cells size hsz xs j y hy q u hq)⟩
end Go.Proofs.YtefiiooibbkffaaGreat
