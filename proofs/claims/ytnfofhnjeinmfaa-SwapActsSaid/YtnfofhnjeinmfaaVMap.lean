/- A map from places to arrays of bytes, by the plain pages that it tells; over its types alone. -/
import Derived.Test.YtnfofhnjeinmfaaVMem
import Derived.Maps.OwnSet
import Derived.Deep.WholeRow
import Derived.DeepKeys4
namespace Go.Proofs.Ytnfofhnjeinmfaa
open Go.ChangeShapes Go.WideShapes Go.ChangeAt Go.RowKit Go.Deep
open Go.Maps (Keyed)
open Extern.Stop (cell)
set_option linter.unusedVariables false

theorem int_kd : Keyed Try.prog 3 := Maps.int_keyed Try.underlying3
def pgV (p : List UInt8) : Value := .agg (p.map cell).toArray
def heldP (v : Value) : Option (DataW Value × List MemPlace) := some (.held v, [])
theorem zero_page (w : World) : (zeroValue 67).run Try.prog w = .ok (pgV pageZ) w := by kernel_rfl
/-- The page's cells. -/
def pgC (p : List UInt8) : Array Value := (p.map cell).toArray
theorem zero_pageC (w : World) : (zeroValue 67).run Try.prog w = .ok (.agg (pgC pageZ)) w := zero_page w
theorem pgC_size {p : List UInt8} (h : p.length = 4096) : (pgC p).size = 4096 := by simp [pgC, h]
theorem pgC_one (p : List UInt8) : (pgC p).all (·.oneCell') = true := by
  rw [Array.all_eq_true]
  intro i hi
  simp [pgC, cell, Value.oneCell']
/-- A page stored whole into the array that was made last. -/
theorem run_store_page (w : World) (p q : List UInt8) (hp : p.length = 4096) (hq : q.length = 4096) :
    (storeVar 67 ⟨w.heap.size, 0, none⟩ (.agg (pgC q))).run Try.prog (w.alloc (.cells (pgC p) 67)) = .ok () (w.alloc (.cells (pgC q) 67)) :=
  run_storeVar_new w 67 (pgC p) (pgC q) (by rw [pgC_size hq]; kernel_rfl) (by rw [pgC_size hp, pgC_size hq]) (pgC_one q)
theorem run_cells_page (w : World) (p q : List UInt8) (hp : p.length = 4096) (hq : q.length = 4096) :
    (storeCells ⟨w.heap.size, 0, none⟩ (pgC q).toList).run Try.prog (w.alloc (.cells (pgC p) 67)) = .ok () (w.alloc (.cells (pgC q) 67)) := by
  have h := run_storeCells_at (P := Try.prog) w.heap.size 0 67 (pgC q).toList 0 (pgC p) (w.alloc (.cells (pgC p) 67)) (heap_alloc_new w _) (by rw [Array.length_toList, pgC_size hq, pgC_size hp]; exact Nat.le_refl _) (by intro v hv; simp [pgC] at hv; obtain ⟨x, -, rfl⟩ := hv; rfl)
  rw [h, World.setRow_alloc_new]
  congr 3
  simp only [Nat.zero_add, List.take_zero, List.nil_append]
  rw [List.drop_eq_nil_of_le (by rw [Array.length_toList, Array.length_toList, pgC_size hq, pgC_size hp]; exact Nat.le_refl _), List.append_nil]
theorem run_slice_page (w : World) (b : Nat) : (Instr.sliceAt 67 (.pointer (some ⟨b, 0, none⟩)) none none none).run Try.prog w = .ok (.slice (some ⟨b, 0, none⟩) 4096 4096) w := by
  have hi : (Try.prog.info? 5).map (·.size) = some 1 := by kernel_rfl
  cases hq : Try.prog.info? 5 with
  | none => simp [hq] at hi
  | some i =>
    have hi' : i.size = 1 := by simpa [hq] using hi
    simp [Instr.sliceAt, Instr.sureAddr, run_underlying Try.underlying67, Instr.sliceBounds, sizeOf, typeInfo, hq, hi', Addr.add_mid]
/-- Block M is a map that tells these pages; what it has not is a page of noughts. -/
def PMap (w : World) (M n : Nat) (L : List (List UInt8)) : Prop := ∃ D : DataW Value, w.ownsMap Try.prog 3 heldP M n D ∧ ∀ (i : Nat) p, L[i]? = some p → D.atKey (.int .i64 (i : Int)) (.held (pgV pageZ)) = .held (pgV p)
theorem int_key (i : Nat) (hi : i < 1000000) : keyOf Try.prog 3 (.int .i64 (i : Int)) = some (.int .i64 (i : Int)) := by
  have hw : (Lit.int .i64 (i : Int)).wf = true := by
    simp [Lit.wf, IntKind.min, IntKind.max, IntKind.signed, IntKind.bits]
    omega
  simp [keyOf, mapKey, Try.underlying3, hw]
section
variable {w w' : World} {M n : Nat} {L : List (List UInt8)}
theorem PMap.lt (h : PMap w M n L) : M < w.heap.size := by obtain ⟨D, h1, _⟩ := h; exact h1.lt
theorem PMap.kept (h : PMap w M n L) (hb : w'.heap[M]? = w.heap[M]?) : PMap w' M n L := by
  obtain ⟨D, ⟨es, clock, h1, h2⟩, h3⟩ := h
  exact ⟨D, ⟨es, clock, hb.trans h1, h2⟩, h3⟩
theorem PMap.ne (h : PMap w M n L) {b : Nat} {cs : Array Value} {t : TypeId} {fr : Nat × Nat} (hb : w.heap[b]? = some (.cells cs t fr)) : M ≠ b := fun e => by
  obtain ⟨D, ⟨es, clock, h1, h2⟩, h3⟩ := h
  have := h1.symm.trans (e ▸ hb)
  simp at this
theorem PMap.made (w : World) (k : Nat) : PMap (w.alloc (.map #[] 0)) w.heap.size 0 (List.replicate k pageZ) := by
  refine ⟨.map [], World.ownsMap_made _ _ _ _, fun i p hp => ?_⟩
  rw [(List.mem_replicate.1 (List.mem_of_getElem? hp)).2]
  rfl
theorem PMap.look (h : PMap w M n L) {i : Nat} {p : List UInt8} (hp : L[i]? = some p) (hi : i < 1000000) : (Instr.lookup 56 (.map (some M)) (.int .i64 (i : Int)) false).run Try.prog w = .ok (pgV p) w := by
  obtain ⟨D, h1, h2⟩ := h
  obtain ⟨v, ps, hrun, hv⟩ := h1.lookup int_kd Try.underlying56 (z := pgV pageZ) (zero_page w) (zd := .held (pgV pageZ)) (zp := []) rfl (int_key i hi)
  rw [h2 i p hp] at hv
  unfold heldP at hv
  simp at hv
  rw [hrun, hv.1]
theorem PMap.put (h : PMap w M n L) (hn : n < 2000000) {i : Nat} (p : List UInt8) (hi : i < 1000000) : ∃ w', (Instr.mapUpdate 56 (.map (some M)) (.int .i64 (i : Int)) (pgV p)).run Try.prog w = .ok () w' ∧ PMap w' M (n + 1) (L.set i p) ∧ w.grownBy w' (some M) := by
  obtain ⟨D, h1, h2⟩ := h
  obtain ⟨w', hrun, r1, r2⟩ := h1.update int_kd Try.underlying56 (by unfold maxLen; omega) (int_key i hi) (val := pgV p) (d := .held (pgV p)) (ps := []) rfl
  refine ⟨w', hrun, ⟨_, r1, fun j pj hj => ?_⟩, r2⟩
  by_cases e : i = j
  · subst e
    have hlt := (List.getElem?_eq_some_iff.1 hj).1
    rw [List.length_set] at hlt
    rw [List.getElem?_set_self hlt] at hj
    cases hj
    exact Maps.atKey_put_same h1.isMap (int_kd.key (int_key i hi)) _ _
  · rw [List.getElem?_set_ne e] at hj
    rw [Maps.atKey_put_other (by intro e2; simp at e2; omega)]
    exact h2 j pj hj
end
end Go.Proofs.Ytnfofhnjeinmfaa
