/- Rows of whatever elements, in whatever block; such rows in the making (as in layer 12's text ZRow, without the appends of numbers). -/
import Derived.Test.YtefiiooibbkffaaGreatRows
import Derived.Test.YtefiiooibbkffaaGreatTRow
import Derived.Test.YtefiiooibbkffaaGreatTInts
import Derived.WalkKit
import Derived.ProofKit
import Derived.OpenShut
import Derived.WalkLawsBesides
import Derived.WalkSpells
import Derived.BigQuiet
import Derived.WalkArith
import Derived.Deep.QuietTactic
import Derived.Deep.DeepMust
import Derived.Outline
import Derived.Below
import Derived.Laws.MakeOwn
import Derived.Laws.OwnMore
import Derived.Laws.AppendOwnNone
import Derived.Deep.AppendLies
import Derived.Deep.OwnRows
import Derived.Deep.RegionHeld3
import Derived.Maps.AppendAt
import Derived.Lib.AppendZerosOnto
namespace Go.Proofs.YtefiiooibbkffaaGreat
open Go.ChangeShapes Go.WideShapes Go.ChangeAt Go.RowKit Go.Deep
set_option linter.unusedVariables false

theorem grown_drew1 (w : World) : w.grownBy w.drew none := ⟨rfl, rfl, rfl, Nat.le_refl _, fun _ _ _ => rfl⟩
theorem grown_draws (w : World) (n : Nat) : w.grownBy (w.drewN n) none := ⟨rfl, rfl, rfl, Nat.le_refl _, fun _ _ _ => rfl⟩
theorem grown_set (W : World) (b o : Nat) (v : Value) : W.grownBy (W.setCell ⟨b, o, none⟩ v) (some b) := ⟨rfl, rfl, rfl, by simp, fun k _ hk => heap_setCell_other W _ k v (fun e => hk (by rw [e]))⟩
theorem grown_at {a b e : World} {x : Nat} (h : a.grownBy b none) (g : b.grownBy e (some x)) (hx : a.heap.size ≤ x) : a.grownBy e none :=
  ⟨g.os.trans h.os, g.tape.trans h.tape, g.output.trans h.output, Nat.le_trans h.size g.size, fun k hk _ => (g.block k (Nat.lt_of_lt_of_le hk h.size) (by intro e; have e2 := Option.some.inj e; omega)).trans (h.block k hk (by simp))⟩
theorem grown_own {a b e : World} {r : Option Nat} (h : a.grownBy b none) (g : b.grownBy e r) (hx : ∀ x, r = some x → a.heap.size ≤ x) : a.grownBy e none := by
  cases r with
  | none => exact grown_trans h g
  | some x => exact grown_at h g (hx x rfl)
theorem grown_then {a b e : World} {r : Option Nat} (h : a.grownBy b r) (g : b.grownBy e none) : a.grownBy e r :=
  ⟨g.os.trans h.os, g.tape.trans h.tape, g.output.trans h.output, Nat.le_trans h.size g.size, fun k hk hr => (g.block k (Nat.lt_of_lt_of_le hk h.size) (by simp)).trans (h.block k hk hr)⟩
theorem okS {x : Int} (h0 : -100000 ≤ x) (h1 : x ≤ 100000) : okI x := ⟨by omega, by omega⟩
theorem takel_at {α : Type} {xs : List α} {j : Nat} {y : α} (h : xs[j]? = some y) : xs.take (j + 1) = xs.take j ++ [y] := by rw [List.take_add_one, h]; rfl

def zCells (z : Int) : List Value := [.int .i64 z]
theorem z_len (z : Int) : (zCells z).length = 1 := rfl
theorem z_flat (xs : List Int) : xs.flatMap zCells = xs.map (Value.int .i64) := by
  induction xs with
  | nil => rfl
  | cons x xs ih => rw [List.flatMap_cons, ih]; rfl
/-- A row that a call makes. -/
def OwnOf {α : Type} (cells : α → List Value) (size : Nat) (t : TypeId) (w : World) (base : Nat) (v : Value) (xs : List α) : Prop := w.ownsRow base t size v xs.length (xs.flatMap cells)
section
variable {α : Type} {cells : α → List Value} {size : Nat} {t : TypeId} {w w' : World} {base : Nat} {v : Value} {xs : List α}
theorem OwnOf.nil (w : World) (base : Nat) : OwnOf cells size t w base (.slice none 0 0) [] := World.ownsRow_nil _ _ _ _
theorem OwnOf.form (h : OwnOf cells size t w base v xs) : ∃ a c, v = .slice a xs.length c := by
  rcases h.2 with ⟨rfl, h0⟩ | ⟨g, cap, cur, rfl, _⟩
  · exact ⟨none, 0, by rw [h0]⟩
  · exact ⟨_, _, rfl⟩
theorem OwnOf.there (h : OwnOf cells size t w base v xs) (h0 : 0 < xs.length) : ∃ g c, v = .slice (some ⟨g, 0, none⟩) xs.length c := by
  rcases h.2 with ⟨_, h1⟩ | ⟨g, cap, cur, rfl, _⟩
  · omega
  · exact ⟨_, _, rfl⟩
theorem OwnOf.lt (h : OwnOf cells size t w base v xs) {g : Nat} (hg : v.ownBlock = some g) : base ≤ g ∧ g < w.heap.size := World.ownsRow.lt h g hg
theorem OwnOf.kept (h : OwnOf cells size t w base v xs) (hb : ∀ g, v.ownBlock = some g → w'.heap[g]? = w.heap[g]?) : OwnOf cells size t w' base v xs := by
  refine ⟨h.1, ?_⟩
  rcases h.2 with hn | ⟨g, cap, cur, rfl, hb2, hgg, rest⟩
  · exact .inl hn
  · exact .inr ⟨g, cap, cur, rfl, hb2, (hb g rfl).trans hgg, rest⟩
theorem OwnOf.grow (h : OwnOf cells size t w base v xs) (g : w.grownBy w' none) : OwnOf cells size t w' base v xs := h.kept fun b hb => g.block b (h.lt hb).2 (by simp)
theorem OwnOf.lower {base2 : Nat} (h : OwnOf cells size t w base v xs) (hb : base2 ≤ base) : OwnOf cells size t w base2 v xs := by
  refine ⟨h.1, ?_⟩
  rcases h.2 with hn | ⟨g, cap, cur, rfl, hb2, rest⟩
  · exact .inl hn
  · exact .inr ⟨g, cap, cur, rfl, Nat.le_trans hb hb2, rest⟩
theorem OwnOf.row (h : OwnOf cells size t w base v xs) : RowOf cells size w v xs := RowAt.own h
theorem OwnOf.at {g c : Nat} (hsz : ∀ x, (cells x).length = size) (h : OwnOf cells size t w base (.slice (some ⟨g, 0, none⟩) xs.length c) xs) {j : Nat} {y : α} (hy : xs[j]? = some y) {q : Nat} {u : Value} (hq : (cells y)[q]? = some u) : w.cell? ⟨g, j * size + q, none⟩ = some u := by
  obtain ⟨g', o, c', hv, hc⟩ := RowOf.at hsz h.row hy
  cases hv
  have := hc q u hq
  rwa [Nat.zero_add] at this
theorem OwnOf.frozen {g c : Nat} (h : OwnOf cells size t w base (.slice (some ⟨g, 0, none⟩) xs.length c) xs) (o : Nat) : w.frozen? ⟨g, o, none⟩ = false := by
  rcases h.2 with ⟨h0, _⟩ | ⟨g', cap, cur, hsl, hb, hg, _⟩
  · cases h0
  · cases hsl
    exact frozen_of_row _ _ _ _ _ hg
/-- One cell of it turns. -/
theorem OwnOf.turn {g c o : Nat} {u : Value} {ys : List α} (h : OwnOf cells size t w base (.slice (some ⟨g, 0, none⟩) xs.length c) xs) (hl : ys.length = xs.length) (he : ys.flatMap cells = (xs.flatMap cells).set o u) :
    OwnOf cells size t (w.setCell ⟨g, o, none⟩ u) base (.slice (some ⟨g, 0, none⟩) xs.length c) ys := by
  unfold OwnOf
  rw [hl, he]
  rcases h.2 with ⟨h0, _⟩ | ⟨g', cap, cur, hsl, hb, hg, h1, h2, h3, ht⟩
  · cases h0
  · cases hsl
    have g1 := heap_setCell_same w g o _ _ u hg
    refine ⟨by rw [List.length_set]; exact h.1, .inr ⟨g, c, _, rfl, hb, g1, h1, h2, by simp [h3], ?_⟩⟩
    rw [Array.toList_setIfInBounds, List.take_set, ht]
end
def ZOwn := OwnOf zCells 1 3
/-- The cells of a row of numbers, of runs. -/
theorem z_cells {w : World} {v : Value} {L : List Int} (h : RowOf zCells 1 w v L) {j : Nat} {x : Int} (hx : L[j]? = some x) : ∃ g o c, v = .slice (some ⟨g, o, none⟩) L.length c ∧ w.cell? ⟨g, o + j, none⟩ = some (.int .i64 x) := by
  obtain ⟨g, o, c, hv, hc⟩ := RowOf.at z_len h hx
  have := hc 0 _ rfl
  rw [Nat.mul_one, Nat.add_zero] at this
  exact ⟨g, o, c, hv, this⟩
theorem own_z {w : World} {base g c : Nat} {L : List Int} (h : ZOwn w base (.slice (some ⟨g, 0, none⟩) L.length c) L) {j : Nat} {x : Int} (hx : L[j]? = some x) : w.cell? ⟨g, j, none⟩ = some (.int .i64 x) := by
  have := OwnOf.at z_len h hx (q := 0) rfl
  rwa [Nat.mul_one, Nat.add_zero] at this
theorem ZOwn.set {w : World} {base g c : Nat} {L : List Int} (h : ZOwn w base (.slice (some ⟨g, 0, none⟩) L.length c) L) (m : Nat) (x : Int) : ZOwn (w.setCell ⟨g, m, none⟩ (.int .i64 x)) base (.slice (some ⟨g, 0, none⟩) L.length c) (L.set m x) :=
  OwnOf.turn h (by simp) (by rw [z_flat, z_flat, List.map_set])

theorem info_intZ : (Tryz.prog.info? 3).map (fun i => (i.zero, i.size, i.bytes)) = some (some (.int .i64 0), 1, 8) := by kernel_rfl
theorem z_ones (xs : List Int) : ∀ u, u ∈ xs.flatMap zCells → u.oneCell' = true := by
  intro u hu
  obtain ⟨y, _, hy⟩ := List.mem_flatMap.1 hu
  simp [zCells] at hy
  rw [hy]; rfl
/-- A row in the making, since w. -/
structure MkOf {α : Type} (cells : α → List Value) (size : Nat) (t : TypeId) (w wr : World) (v : Value) (xs : List α) : Prop where
  grown : w.grownBy wr none
  own : OwnOf cells size t wr w.heap.size v xs
def ZMk := MkOf zCells 1 3
section
variable {α : Type} {cells : α → List Value} {size : Nat} {t : TypeId} {w wr w2 : World} {v v2 : Value} {xs zs : List α} {o : Obj}
theorem MkOf.nil (w : World) : MkOf cells size t w w (.slice none 0 0) [] := ⟨grown_refl _ _, OwnOf.nil _ _⟩
theorem MkOf.grow (h : MkOf cells size t w wr v xs) (g : wr.grownBy w2 none) : MkOf cells size t w w2 v xs := ⟨grown_trans h.grown g, h.own.grow g⟩
theorem MkOf.app (h : MkOf cells size t w wr v xs) (g : (wr.alloc o).grownBy w2 v.ownBlock) (hown : OwnOf cells size t w2 w.heap.size v2 zs) : MkOf cells size t w w2 v2 zs :=
  ⟨grown_own (grown_trans h.grown (World.grownBy_alloc wr o none)) g fun x hx => (h.own.lt hx).1, hown⟩
theorem MkOf.set {g c q : Nat} {u : Value} (h : MkOf cells size t w wr (.slice (some ⟨g, 0, none⟩) xs.length c) xs) (hown : OwnOf cells size t (wr.setCell ⟨g, q, none⟩ u) w.heap.size (.slice (some ⟨g, 0, none⟩) zs.length c) zs) : MkOf cells size t w (wr.setCell ⟨g, q, none⟩ u) (.slice (some ⟨g, 0, none⟩) zs.length c) zs :=
  ⟨grown_at h.grown (grown_set _ _ _ _) (h.own.lt (g := g) rfl).1, hown⟩
theorem MkOf.row (h : MkOf cells size t w wr v xs) : RowOf cells size wr v xs := h.own.row
end
theorem rowOf_form {α : Type} {cells : α → List Value} {size : Nat} {w : World} {u : Value} {xs : List α} (h : RowOf cells size w u xs) : ∃ s c, u = .slice s xs.length c := RowAt.form h
theorem rowOf_grow {α : Type} {cells : α → List Value} {size : Nat} {w w' : World} {u : Value} {xs : List α} (h : RowOf cells size w u xs) (g : w.grownBy w' none) : RowOf cells size w' u xs := RowAt.grow h g
/-- A row that a call made stays where others' blocks turn. -/
theorem row_turn {α : Type} {cells : α → List Value} {size : Nat} {w w' : World} {u : Value} {xs : List α} {P : List Nat} (h : RowOf cells size w u xs) (t : Turn P w w') (hP : ∀ b, u.ownBlock = some b → b ∉ P) : RowOf cells size w' u xs := by
  refine RowAt.kept h t.size fun a l c e => ?_
  refine t.block a.block ?_ (hP a.block (by rw [e]; rfl))
  rcases h.2 with ⟨h0, _⟩ | ⟨g, o, c', hv, hg, _⟩
  · rw [h0] at e; cases e
  · rw [hv] at e; cases e; exact hg
end Go.Proofs.YtefiiooibbkffaaGreat
