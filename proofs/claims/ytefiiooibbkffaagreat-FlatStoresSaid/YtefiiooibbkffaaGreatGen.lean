/- Small laws on rows of bytes and on worlds, over any program. -/
import Derived.Deep.MidRow
import Derived.Laws.Slices
import Derived.Stop.BytesEq
import Derived.Laws.AppendOwn
import Derived.Laws.OwnMore
import Derived.Laws.CopyRow
import Derived.Below
import Derived.Deep.Quiet
import Derived.Deep.QuietTactic
import Derived.Lib.Hide
import Derived.Lib.SliceRun
namespace Go.Proofs.YtefiiooibbkffaaGreat
open Go.RowKit
open Extern.Stop (cell)

/-- A stretch of a list written over from place o on. -/
def splice {α : Type} (L : List α) (o : Nat) (xs : List α) : List α := L.take o ++ xs ++ L.drop (o + xs.length)

theorem length_splice {α : Type} (L : List α) (o : Nat) (xs : List α) (h : o + xs.length ≤ L.length) : (splice L o xs).length = L.length := by
  simp [splice]; omega

theorem get_splice {α : Type} (L : List α) (o : Nat) (xs : List α) (h : o + xs.length ≤ L.length) (j : Nat) :
    (splice L o xs)[j]? = if j < o then L[j]? else if j < o + xs.length then xs[j - o]? else L[j]? := by
  unfold splice
  rw [List.append_assoc, List.getElem?_append]
  have ht : (L.take o).length = o := by simp; omega
  rw [ht]
  by_cases h1 : j < o
  · simp [h1]
  · rw [if_neg h1, if_neg h1, List.getElem?_append]
    by_cases h2 : j < o + xs.length
    · rw [if_pos (by omega), if_pos h2]
    · rw [if_neg (by omega), if_neg h2, List.getElem?_drop]
      congr 1
      omega

theorem getD_splice_in {L xs : List UInt8} {o j : Nat} (h : o + xs.length ≤ L.length) (h1 : o ≤ j) (h2 : j < o + xs.length) : (splice L o xs).getD j 0 = xs.getD (j - o) 0 := by
  simp only [List.getD]
  rw [get_splice L o xs h, if_neg (by omega), if_pos h2]

theorem map_splice {α β : Type} (f : α → β) (L : List α) (o : Nat) (xs : List α) : (splice L o xs).map f = splice (L.map f) o (xs.map f) := by
  simp [splice, List.map_take, List.map_drop]

theorem splice_nil {α : Type} (L : List α) (o : Nat) : splice L o [] = L := by simp [splice]

/-- What a store of many cells leaves in its row. -/
theorem heap_setCells {w : World} {g o : Nat} {cs : List Value} {t : TypeId} (hg : w.heap[g]? = some (.cells cs.toArray t (0, 0))) (vs : List Value) (h : o + vs.length ≤ cs.length) (h1 : ∀ v ∈ vs, v.oneCell' = true) :
    (w.setCells g o vs).heap[g]? = some (.cells (splice cs o vs).toArray t (0, 0)) := by
  have e1 := run_storeCells_at (default : Program) g o t vs 0 cs.toArray w hg (by simpa using h) h1
  have e2 := run_storeCells_cells (P := (default : Program)) g o vs 0 w (fun j hj => by
      rw [cell_of_row w g _ _ t (0, 0) hg]; simp; omega) (fun j hj => by rw [frozen_of_row w g _ _ t hg]) h1
  rw [e1] at e2
  simp only [Result.ok.injEq, true_and, Nat.add_zero] at e2
  rw [← e2, setRow_heap w g cs.toArray _ t (0, 0) hg]
  simp [splice]

theorem size_setCells (w : World) (g o : Nat) (vs : List Value) : (w.setCells g o vs).heap.size = w.heap.size := by
  induction vs generalizing o w with
  | nil => rfl
  | cons v r ih => rw [World.setCells, ih]; simp [World.setCell]

theorem grown_setCells (w : World) (g o : Nat) (vs : List Value) : w.grownBy (w.setCells g o vs) (some g) := by
  induction vs generalizing o w with
  | nil => exact ⟨rfl, rfl, rfl, Nat.le_refl _, fun _ _ _ => rfl⟩
  | cons v r ih =>
    have h := ih (w.setCell ⟨g, o, none⟩ v) (o + 1)
    refine ⟨h.os, h.tape, h.output, by rw [size_setCells]; exact Nat.le_refl _, fun k hk hne => ?_⟩
    rw [World.setCells, h.block k (by simpa [World.setCell] using hk) hne]
    exact heap_setCell_other w _ k v (by simpa using fun e => hne (by rw [e]))

theorem setCells_snoc (g : Nat) (v : Value) : ∀ (vs : List Value) (o : Nat) (w : World), w.setCells g o (vs ++ [v]) = (w.setCells g o vs).setCell ⟨g, o + vs.length, none⟩ v
  | [], _, _ => rfl
  | u :: r, o, w => by
    have ih := setCells_snoc g v r (o + 1) (w.setCell ⟨g, o, none⟩ u)
    rw [List.cons_append, World.setCells, ih, List.length_cons, World.setCells, show o + (r.length + 1) = o + 1 + r.length by omega]

theorem grown_refl (w : World) (r : Option Nat) : w.grownBy w r := ⟨rfl, rfl, rfl, Nat.le_refl _, fun _ _ _ => rfl⟩

theorem grown_trans {a b c : World} {r : Option Nat} (h : a.grownBy b r) (k : b.grownBy c r) : a.grownBy c r :=
  ⟨k.os.trans h.os, k.tape.trans h.tape, k.output.trans h.output, Nat.le_trans h.size k.size,
    fun i hi hne => (k.block i (Nat.lt_of_lt_of_le hi h.size) hne).trans (h.block i hi hne)⟩

theorem grown_none {a b : World} {r : Option Nat} (h : a.grownBy b none) : a.grownBy b r :=
  ⟨h.os, h.tape, h.output, h.size, fun i hi _ => h.block i hi (by simp)⟩

theorem below_of_grown {B : Nat} {a b : World} {r : Option Nat} (h : a.grownBy b r) (hB : B ≤ a.heap.size) (hr : ∀ k, r = some k → B ≤ k) : Below B a b :=
  (Below.refl B a).grown h hB hr

theorem grown_of_below {a b : World} (h : Below a.heap.size a b) (r : Option Nat) : a.grownBy b r :=
  ⟨h.os, h.tape, h.output, h.size, fun k hk _ => h.block k hk⟩

theorem setCells_append (g : Nat) : ∀ (us vs : List Value) (o : Nat) (w : World), w.setCells g o (us ++ vs) = (w.setCells g o us).setCells g (o + us.length) vs
  | [], _, _, _ => rfl
  | u :: r, vs, o, w => by
    rw [List.cons_append, World.setCells, setCells_append g r vs, List.length_cons, World.setCells, show o + (r.length + 1) = o + 1 + r.length by omega]

/-- A new block, written: nothing that was there has turned. -/
theorem grown_alloc_setCells (w : World) (o : Obj) (i : Nat) (vs : List Value) : w.grownBy ((w.alloc o).setCells w.heap.size i vs) none := by
  have g := grown_setCells (w.alloc o) w.heap.size i vs
  refine ⟨g.os, g.tape, g.output, by have := g.size; simp at this; omega, fun k hk _ => ?_⟩
  rw [g.block k (by simp; omega) (by simp; omega)]
  exact heap_alloc_old w o k hk

theorem one_cells (xs : List UInt8) : ∀ v ∈ xs.map cell, v.oneCell' = true := by
  intro v hv
  obtain ⟨b, _, rfl⟩ := List.mem_map.1 hv
  rfl

/-- A row of bytes, and the facts that a walk asks of it. -/
theorem cell_of_bytes {w : World} {g : Nat} {L : List UInt8} {t : TypeId} (hg : w.heap[g]? = some (.cells (L.map cell).toArray t (0, 0))) (j : Nat) (hj : j < L.length) :
    w.cell? ⟨g, j, none⟩ = some (.int .u8 (L.getD j 0).toNat) := by
  rw [cell_of_row w g _ _ t (0, 0) hg]
  simp [List.getD, List.getElem?_eq_getElem hj, cell]

theorem there_of_bytes {w : World} {g : Nat} {L : List UInt8} {t : TypeId} (hg : w.heap[g]? = some (.cells (L.map cell).toArray t (0, 0))) (o n : Nat) (h : o + n ≤ L.length) : w.there g o n := by
  intro j hj
  refine ⟨?_, frozen_of_row w g _ _ t hg⟩
  rw [cell_of_row w g _ _ t (0, 0) hg]
  simp; omega

theorem range_of_bytes {w : World} {g : Nat} {L : List UInt8} {t : TypeId} (hg : w.heap[g]? = some (.cells (L.map cell).toArray t (0, 0))) (o n : Nat) (_h : o + n ≤ L.length) : w.rangeAt g o (((L.drop o).take n).map cell) := by
  intro j v hv
  rw [cell_of_row w g _ _ t (0, 0) hg]
  simp only [List.getElem?_map, List.getElem?_take] at hv
  split at hv
  · simpa using hv
  · simp at hv

/-- A stretch of an array of elements of one cell, as a slice. -/
theorem run_sliceAt_mid {P : Program} (w : World) (t e : TypeId) (n : Nat) (ht : P.underlying t = some (.array n e)) (hs : (P.info? e).map (·.size) = some 1) (b o : Nat) (lo hi : Int) (h0 : 0 ≤ lo) (h1 : lo ≤ hi) (h2 : hi ≤ n) :
    (Instr.sliceAt t (.pointer (some ⟨b, o, none⟩)) (some (.int .i64 lo)) (some (.int .i64 hi)) none).run P w = .ok (.slice (some ⟨b, if n = lo.toNat then o else o + lo.toNat, none⟩) (hi.toNat - lo.toNat) (n - lo.toNat)) w := by
  have eh : (hi.toNat : Int) = hi := Int.toNat_of_nonneg (by omega)
  cases hq : P.info? e with
  | none => simp [hq] at hs
  | some i =>
    have hi' : i.size = 1 := by simpa [hq] using hs
    simp [Instr.sliceAt, Instr.sureAddr, run_underlying ht, Instr.sliceBounds, run_sliceBound, sizeOf, typeInfo, *, (by omega : 0 ≤ hi)]
    by_cases hn : n = lo.toNat
    · simp [hn]
    · simp [hn, Addr.add_mid]

theorem run_sliceAt_from {P : Program} (w : World) (t e : TypeId) (n : Nat) (ht : P.underlying t = some (.array n e)) (hs : (P.info? e).map (·.size) = some 1) (b o : Nat) (lo : Int) (h0 : 0 ≤ lo) (h2 : lo ≤ n) :
    (Instr.sliceAt t (.pointer (some ⟨b, o, none⟩)) (some (.int .i64 lo)) none none).run P w = .ok (.slice (some ⟨b, if n = lo.toNat then o else o + lo.toNat, none⟩) (n - lo.toNat) (n - lo.toNat)) w := by
  cases hq : P.info? e with
  | none => simp [hq] at hs
  | some i =>
    have hi' : i.size = 1 := by simpa [hq] using hs
    simp [Instr.sliceAt, Instr.sureAddr, run_underlying ht, Instr.sliceBounds, run_sliceBound, sizeOf, typeInfo, *]
    by_cases hn : n = lo.toNat
    · simp [hn]
    · simp [hn, Addr.add_mid]

/-- A number as a byte. -/
def b8 (x : Int) : UInt8 := UInt8.ofNat x.toNat
theorem cell_b8 {x : Int} (h0 : 0 ≤ x) (h1 : x < 256) : cell (b8 x) = .int .u8 x := by
  unfold b8 cell
  congr 1
  simp
  omega

/-- A slice of bytes reads as bs. -/
def Src (w : World) (s : Option Addr) (l : Nat) (bs : List UInt8) : Prop := bs.length = l ∧ (l = 0 ∨ ∃ b o, s = some ⟨b, o, none⟩ ∧ w.rangeAt b o (bs.map cell))

theorem Src.of_block {w : World} {b : Nat} {bs : List UInt8} {t : TypeId} (h : w.heap[b]? = some (.cells (bs.map cell).toArray t (0, 0))) : Src w (some ⟨b, 0, none⟩) bs.length bs := by
  refine ⟨rfl, .inr ⟨b, 0, rfl, ?_⟩⟩
  have := range_of_bytes h 0 bs.length (by omega)
  simpa using this

/-- A stretch of memory reads the same where its block has not turned. -/
theorem range_kept {w w' : World} {b o : Nat} {cs : List Value} (h : w.rangeAt b o cs) (he : w'.heap[b]? = w.heap[b]?) : w'.rangeAt b o cs := by
  intro j v hv
  rw [← h j v hv]
  exact World.cell?_of_block he

theorem Src.kept {w w' : World} {s : Option Addr} {l : Nat} {bs : List UInt8} {r : Option Nat} (h : Src w s l bs) (g : w.grownBy w' r) (hr : ∀ a, s = some a → r ≠ some a.block) : Src w' s l bs := by
  refine ⟨h.1, ?_⟩
  rcases h.2 with h0 | ⟨b, o, rfl, hr'⟩
  · exact .inl h0
  · by_cases hl : l = 0
    · exact .inl hl
    · refine .inr ⟨b, o, rfl, range_kept hr' (g.block b ?_ (Ne.symm (hr _ rfl)))⟩
      obtain ⟨x, hx⟩ : ∃ x, (bs.map cell)[0]? = some x := by
        cases bs with
        | nil => simp [← h.1] at hl
        | cons x r => exact ⟨_, rfl⟩
      exact World.block_lt_of_cell? w _ (hr' 0 x hx)

/-- What Fill leaves: the first bytes, and noughts behind them. -/
def fillOf (bs : List UInt8) : List UInt8 := bs.take 4096 ++ List.replicate (4096 - bs.length) 0
theorem fillOf_length (bs : List UInt8) : (fillOf bs).length = 4096 := by
  simp [fillOf]; omega

/-- In a region that draws its order and only reads: a whole array is loaded. -/
theorem wpQuiet_load_mid {P : Program} {ops : Array Oper} {rest : List Oper} {o : Oper} {a : Act} {Q : Act → Prop} {w : World} (hg : o.guard = none) (ty : TypeId) (x : Operand) (ho : o.op = .load ty x)
    (b off : Nat) (hx : a.eval x = .pointer (some ⟨b, off, none⟩)) (cs : List Value) (d : TypeDesc) (hc : w.rangeAt b off cs)
    (hu : P.underlying ty = some d) (hd : d.isRow = true) (hi : (P.info? ty).map (·.size) = some cs.length)
    (h : wpQuiet P ops (fun w' => ∃ n, w' = w.drewN n) Q rest (a.put o.dst (.agg cs.toArray))) : wpQuiet P ops (fun w' => ∃ n, w' = w.drewN n) Q (o :: rest) a := by
  unfold wpQuiet
  rw [if_pos (by simp [Region.wanted, hg])]
  refine ⟨.agg cs.toArray, fun w' hw' => ?_, h⟩
  obtain ⟨n, rfl⟩ := hw'
  have hl := run_loadVar_mid (w.drewN n) b off ty cs d hc hu hd hi
  unfold Oper.quietAt execOp
  simp only [ho, hx, Instr.loadAt, Instr.sureAddr, Sem.run_bind, Sem.run_pure, Result.andThen_ok, hl]
  exact ⟨rfl, rfl⟩
end Go.Proofs.YtefiiooibbkffaaGreat
