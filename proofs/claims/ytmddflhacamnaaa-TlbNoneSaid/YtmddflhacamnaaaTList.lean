/- Layer 5: what is kept, as plain lists; its cells; results that lie in memory. -/
import Derived.Test.YtmddflhacamnaaaTRow
import Derived.Laws.ResultCell
import Derived.Laws.StructEq
import Derived.Laws.Unary
import Derived.OwnWalk
namespace Go.Proofs.Ytmddflhacamnaaa
open Go.ChangeShapes Go.WideShapes Go.ChangeAt Go.RowKit
set_option linter.unusedVariables false

/-- What is kept for a key. -/
structure KeptV where
  a : Int
  v : Int
  fl : Int
  pp : Int
def keptCells (x : KeptV) : List Value := [.int .i64 x.a, .int .i64 x.v, .int .i64 x.fl, .int .i64 x.pp]
theorem kept_len (x : KeptV) : (keptCells x).length = 4 := rfl

def sameK (a v : Int) (x : KeptV) : Bool := x.a == a && x.v == v
def findV (xs : List KeptV) (a v : Int) : Value :=
  match xs.find? (sameK a v) with
  | none => .tuple #[.agg #[.int .i64 0, .int .i64 0], .bool false]
  | some x => .tuple #[.agg #[.int .i64 x.fl, .int .i64 x.pp], .bool true]
def putL (sz : Int) (xs : List KeptV) (y : KeptV) : List KeptV :=
  match xs.findIdx? (sameK y.a y.v) with
  | some i => xs.set i y
  | none => if ((xs.length : Int) + 1) > sz then (xs ++ [y]).drop 1 else xs ++ [y]
def dropK (p : KeptV → Bool) (xs : List KeptV) : List KeptV := xs.filter fun x => !p x

theorem findV_none {xs : List KeptV} {a v : Int} (h : xs.find? (sameK a v) = none) : findV xs a v = .tuple #[.agg #[.int .i64 0, .int .i64 0], .bool false] := by unfold findV; rw [h]
theorem findV_some {xs : List KeptV} {a v : Int} {x : KeptV} (h : xs.find? (sameK a v) = some x) : findV xs a v = .tuple #[.agg #[.int .i64 x.fl, .int .i64 x.pp], .bool true] := by unfold findV; rw [h]
theorem drop_at {α : Type} {xs : List α} {j : Nat} {y : α} (h : xs[j]? = some y) : xs.drop j = y :: xs.drop (j + 1) := by
  have hj := (List.getElem?_eq_some_iff.1 h).1
  rw [List.drop_eq_getElem_cons hj]
  congr 1
  exact (List.getElem?_eq_some_iff.1 h).2
theorem take_at {α : Type} {xs : List α} {j : Nat} {y : α} (h : xs[j]? = some y) : xs.take (j + 1) = xs.take j ++ [y] := by rw [List.take_add_one, h]; rfl

/-- Two results, the first one a struct in memory. -/
theorem results_pair_tmp {P : Program} {fn : Func} {p u : Tmp} {ty : TypeId} (h : fn.results = #[.cell p ty, .tmp u]) (tmps : Array Value) (w : World) (g : Nat) (t : TypeId) (cs : Array Value) (fr : Nat × Nat) (d : TypeDesc)
    (hp : tmps.getD p undef = .pointer (some ⟨g, 0, none⟩)) (hg : w.heap[g]? = some (.cells cs t fr))
    (hu : P.underlying ty = some d) (hd : (match d with | .struct _ | .array _ _ => true | _ => false) = true) (hi : (P.info? ty).map (·.size) = some cs.size) :
    (results fn tmps).run P w = .ok (.tuple #[.agg cs, tmps.getD u undef]) w := by
  rw [results_cell_tmp h, hp]
  simp [asAddr, Result.andThen, run_loadVar_row w g t ty cs fr d hg hu hd hi]

/-- A struct of two cells, stored into. -/
theorem heap_pair (w : World) (g : Nat) (x y x' y' : Value) (t : TypeId) (hg : w.heap[g]? = some (.cells #[x, y] t (0, 0))) (h1 : x'.oneCell' = true) (h2 : y'.oneCell' = true) :
    ((w.setCell ⟨g, 0, none⟩ x').setCell ⟨g, 1, none⟩ y').heap[g]? = some (.cells #[x', y'] t (0, 0)) := by
  have h : w.heap[g]? = some (.cells [x, y].toArray t (0, 0)) := hg
  exact heap_setCells h [x', y'] (by simp) (by intro v hv; simp at hv; rcases hv with rfl | rfl <;> assumption)
theorem grown_draws (w : World) (k : Nat) (r : Option Nat) : w.grownBy (w.drewN k) r := ⟨rfl, rfl, rfl, Nat.le_refl _, fun _ _ _ => rfl⟩
theorem grown_at {a b e : World} {x : Nat} (h : a.grownBy b none) (g : b.grownBy e (some x)) (hx : a.heap.size ≤ x) : a.grownBy e none :=
  ⟨g.os.trans h.os, g.tape.trans h.tape, g.output.trans h.output, Nat.le_trans h.size g.size, fun k hk _ => (g.block k (Nat.lt_of_lt_of_le hk h.size) (by intro e; have e2 := Option.some.inj e; omega)).trans (h.block k hk (by simp))⟩
theorem grown_set (W : World) (b o : Nat) (v : Value) : W.grownBy (W.setCell ⟨b, o, none⟩ v) (some b) := ⟨rfl, rfl, rfl, by simp, fun k _ hk => heap_setCell_other W _ k v (fun e => hk (by rw [e]))⟩
theorem grown_pair {a w2 : World} {x : Nat} (h : a.grownBy w2 none) (hx : a.heap.size ≤ x) (x' y' : Value) : a.grownBy ((w2.setCell ⟨x, 0, none⟩ x').setCell ⟨x, 1, none⟩ y') none :=
  grown_at (grown_at h (grown_set w2 x 0 x') hx) (grown_set _ x 1 y') hx

/-- Two cells of a struct, as a block. -/
def TwoB (w : World) (y : Nat) (t : TypeId) (p q : Value) : Prop := w.heap[y]? = some (.cells #[p, q] t (0, 0))
section
variable {w w' : World} {y : Nat} {t : TypeId} {p q : Value}
theorem TwoB.at (h : TwoB w y t p q) : w.cell? ⟨y, 0, none⟩ = some p ∧ w.cell? ⟨y, 1, none⟩ = some q := ⟨by rw [cell_of_row _ _ _ _ _ _ h]; rfl, by rw [cell_of_row _ _ _ _ _ _ h]; rfl⟩
theorem TwoB.lt (h : TwoB w y t p q) : y < w.heap.size := (Array.getElem?_eq_some_iff.1 h).1
theorem TwoB.frozen (h : TwoB w y t p q) : w.frozen? ⟨y, 0, none⟩ = false ∧ w.frozen? ⟨y, 1, none⟩ = false := ⟨frozen_of_row w y 0 _ _ h, frozen_of_row w y 1 _ _ h⟩
theorem TwoB.grow (h : TwoB w y t p q) (g : w.grownBy w' none) : TwoB w' y t p q := (g.block _ h.lt (by simp)).trans h
theorem TwoB.grow' {x : Nat} (h : TwoB w y t p q) (g : w.grownBy w' (some x)) (hx : x ≠ y) : TwoB w' y t p q := (g.block _ h.lt (fun e => hx (Option.some.inj e).symm)).trans h
theorem TwoB.turn {O : List Nat} (h : TwoB w y t p q) (g : Turn O w w') (hy : y ∉ O) : TwoB w' y t p q := (g.block _ h.lt hy).trans h
theorem TwoB.new (w : World) (t : TypeId) (p q : Value) : TwoB (w.alloc (.cells #[p, q] t)) w.heap.size t p q := heap_alloc_new w _
end
end Go.Proofs.Ytmddflhacamnaaa
