/- A map from files' places to arrays of bytes, by the plain pages that it tells; arrays that are alike; over its types alone. -/
import Derived.Test.YtlaniifbfgcfaaaIOk
import Derived.Maps.OwnSet
import Derived.Deep.WholeRow
import Derived.DeepKeys4
import Derived.ChangeKeysEq
import Derived.Laws.StructEq
namespace Go.Proofs.Ytlaniifbfgcfaaa
open Go.ChangeShapes Go.WideShapes Go.ChangeAt Go.RowKit Go.Deep
open Go.Maps (Keyed)
open Extern.Stop (cell)
set_option linter.unusedVariables false

theorem laidI : laidOutB Try.prog = true := by kernel_rfl
theorem spot_keyed : Keyed Try.prog 72 := Keyed.of_law (deep_law_laid laidI (m := 2) (by omega) (of_decide_eq_true (by kernel_rfl)) (by kernel_rfl) (by rw [Try.underlying72]))
def spotV (a v : Int) : Value := .agg #[.int .i64 a, .int .i64 v]
def spotL (a v : Int) : Lit := .string (keyBytes [.int .i64 a, .int .i64 v])
theorem wf_okI {x : Int} (h : okI x) : (Lit.int .i64 x).wf = true := by
  have h1 := h.1
  have h2 := h.2
  simp [Lit.wf, IntKind.min, IntKind.max, IntKind.signed, IntKind.bits]
  omega
theorem spot_key {a v : Int} (ha : okI a) (hv : okI v) : keyOf Try.prog 72 (spotV a v) = some (spotL a v) := by
  have hkt : Try.prog.keyType 72 = true := by kernel_rfl
  have hcs : Try.prog.cellsOf 72 = 2 := by kernel_rfl
  have hci : Try.prog.cellsOf 3 = 1 := by kernel_rfl
  obtain ⟨m, hm⟩ : ∃ m, Try.prog.types.size = m + 1 := ⟨Try.prog.types.size - 1, by have : 0 < Try.prog.types.size := of_decide_eq_true (by kernel_rfl); omega⟩
  have w1 := wf_okI ha
  have w2 := wf_okI hv
  unfold keyOf spotV spotL
  simp only [Try.underlying72]
  rw [if_pos (by simp [hkt, Value.formed, Try.underlying72, hcs]), hm]
  unfold Program.keyLits
  simp only [Try.underlying72, Value.cells]
  rw [if_pos (by simp [hcs])]
  simp [hci, Program.keyLits, Try.underlying3, w1, w2]
theorem spotL_inj {a v a' v' : Int} (ha : okI a) (hv : okI v) (ha' : okI a') (hv' : okI v') (h : spotL a v = spotL a' v') : a = a' ∧ v = v' := by
  have e : spotV a v = spotV a' v' := spot_keyed.inj (spot_key ha hv) (by rw [spot_key ha' hv', h])
  unfold spotV at e
  simpa using e

/-- The page's cells. -/
def pgC (p : List UInt8) : Array Value := (p.map cell).toArray
def pgV (p : List UInt8) : Value := .agg (pgC p)
def heldP (v : Value) : Option (DataW Value × List MemPlace) := some (.held v, [])
theorem zero_page (w : World) : (zeroValue 78).run Try.prog w = .ok (.agg (pgC pageZ)) w := by kernel_rfl
theorem pgC_size {p : List UInt8} (h : p.length = 4096) : (pgC p).size = 4096 := by simp [pgC, h]
theorem pgC_one (p : List UInt8) : (pgC p).all (·.oneCell') = true := by
  rw [Array.all_eq_true]
  intro i hi
  simp [pgC, cell, Value.oneCell']
theorem pgC_at (p : List UInt8) {i : Nat} (hi : i < p.length) : (pgC p)[i]? = some (.int .u8 (p.getD i 0).toNat) := by
  simp [pgC, cell, hi]
/-- A page stored whole into the array that was made last. -/
theorem run_store_page (w : World) (p q : List UInt8) (hp : p.length = 4096) (hq : q.length = 4096) :
    (storeVar 78 ⟨w.heap.size, 0, none⟩ (.agg (pgC q))).run Try.prog (w.alloc (.cells (pgC p) 78)) = .ok () (w.alloc (.cells (pgC q) 78)) :=
  run_storeVar_new w 78 (pgC p) (pgC q) (by rw [pgC_size hq]; kernel_rfl) (by rw [pgC_size hp, pgC_size hq]) (pgC_one q)
theorem run_cells_page (w : World) (p q : List UInt8) (hp : p.length = 4096) (hq : q.length = 4096) :
    (storeCells ⟨w.heap.size, 0, none⟩ (pgC q).toList).run Try.prog (w.alloc (.cells (pgC p) 78)) = .ok () (w.alloc (.cells (pgC q) 78)) := by
  have h := run_storeCells_at (P := Try.prog) w.heap.size 0 78 (pgC q).toList 0 (pgC p) (w.alloc (.cells (pgC p) 78)) (heap_alloc_new w _) (by rw [Array.length_toList, pgC_size hq, pgC_size hp]; exact Nat.le_refl _) (by intro v hv; simp [pgC] at hv; obtain ⟨x, -, rfl⟩ := hv; rfl)
  rw [h, World.setRow_alloc_new]
  congr 3
  simp only [Nat.zero_add, List.take_zero, List.nil_append]
  rw [List.drop_eq_nil_of_le (by rw [Array.length_toList, Array.length_toList, pgC_size hq, pgC_size hp]; exact Nat.le_refl _), List.append_nil]
theorem run_slice_page (w : World) (b : Nat) : (Instr.sliceAt 78 (.pointer (some ⟨b, 0, none⟩)) none none none).run Try.prog w = .ok (.slice (some ⟨b, 0, none⟩) 4096 4096) w := by
  have hi : (Try.prog.info? 5).map (·.size) = some 1 := by kernel_rfl
  cases hq : Try.prog.info? 5 with
  | none => simp [hq] at hi
  | some i =>
    have hi' : i.size = 1 := by simpa [hq] using hi
    simp [Instr.sliceAt, Instr.sureAddr, run_underlying Try.underlying78, Instr.sliceBounds, sizeOf, typeInfo, hq, hi', Addr.add_mid]

/-- Two arrays of bytes, '=='. -/
theorem run_forAll {P : Program} (w : World) (g : Nat → Sem Bool) (b : Nat → Bool) (rs : List Nat) (h : ∀ i, i ∈ rs → (g i).run P w = .ok (b i) w) :
    (forIn rs ((none, ()) : Option Bool × Unit) fun i _ => do
        let v ← g i
        if (!v) = true then pure (ForInStep.done (some false, ())) else pure (ForInStep.yield (none, ()))).run P w = .ok (if rs.all b then none else some false, ()) w := by
  induction rs with
  | nil => simp
  | cons i rs ih =>
    simp only [List.forIn_cons, Sem.run_bind, List.all_cons]
    rw [h i List.mem_cons_self]
    rcases Bool.eq_false_or_eq_true (b i) with hb | hb
    · simp only [hb, Result.andThen_ok, Bool.not_true, Bool.false_eq_true, if_false, Sem.run_pure, Bool.true_and]
      exact ih fun j hj => h j (List.mem_cons_of_mem _ hj)
    · simp [hb]
theorem uint8_one (w : World) : (sizeOf 5).run Try.prog w = .ok 1 w := by kernel_rfl
theorem part_page (w : World) {xs : Array Value} {i : Nat} {v : Value} (h : xs[i]? = some v) : (part 5 xs i).run Try.prog w = .ok v w := by
  simp [part, isAgg, run_underlying Try.underlying5, h]
theorem all_eq (p q : List UInt8) (h : p.length = q.length) : (List.range' 0 p.length).all (fun i => ((p.getD i 0).toNat : Int) == ((q.getD i 0).toNat : Int)) = (p == q) := by
  rw [Bool.eq_iff_iff, List.all_eq_true, beq_iff_eq]
  constructor
  · intro ha
    apply List.ext_getElem h
    intro i h1 h2
    have h3 := ha i (List.mem_range'_1.2 ⟨Nat.zero_le _, by omega⟩)
    rw [List.getD_eq_getElem?_getD, List.getD_eq_getElem?_getD, List.getElem?_eq_getElem h1, List.getElem?_eq_getElem h2] at h3
    have h4 : (p[i].toNat : Int) = (q[i].toNat : Int) := by simpa using h3
    exact UInt8.toNat_inj.1 (by omega)
  · rintro rfl i _
    simp
theorem run_eq_page (d : Nat) (w : World) {p q : List UInt8} (hp : p.length = 4096) (hq : q.length = 4096) : (Op.equalIn (d + 2) 78 (.agg (pgC p)) (.agg (pgC q))).run Try.prog w = .ok (p == q) w := by
  rw [Op.equalIn]
  simp only [Sem.run_bind, run_underlying Try.underlying78, Result.andThen_ok, uint8_one]
  rw [Std.Legacy.Range.forIn_eq_forIn_range']
  have h := run_forAll (P := Try.prog) w (fun i => do
    let a ← part 5 (pgC p) (i * 1)
    let b ← part 5 (pgC q) (i * 1)
    Op.equalIn (d + 1) 5 a b) (fun i => ((p.getD i 0).toNat : Int) == ((q.getD i 0).toNat : Int)) (List.range' 0 4096) (fun i hi => by
      have hlt := (List.mem_range'_1.1 hi).2
      simp only [Sem.run_bind, Nat.mul_one]
      rw [part_page w (pgC_at p (by omega)), Result.andThen_ok, part_page w (pgC_at q (by omega)), Result.andThen_ok]
      rw [run_equalIn_int w d 5 .u8 .u8 _ _ Try.underlying5])
  have e := all_eq p q (hp.trans hq.symm)
  rw [hp] at e
  rw [e] at h
  simp only [bind_assoc] at h
  show ((Sem.run Try.prog (forIn (List.range' 0 4096) (none, ()) _) w).andThen _) = _
  rw [h]
  cases p == q <;> rfl
theorem eq_page (w : World) {p q : List UInt8} (hp : p.length = 4096) (hq : q.length = 4096) : (binOp .eql 78 (.agg (pgC p)) (.agg (pgC q))).run Try.prog w = .ok (.bool (p == q)) w := by
  rw [run_eql_struct, run_eq_page 9998 w hp hq]
  rfl
/-- Block M is a map that tells these pages; what it has not is a page of noughts. -/
def IMap (w : World) (M n : Nat) (P : Int → Int → List UInt8) : Prop := ∃ D : DataW Value, w.ownsMap Try.prog 72 heldP M n D ∧ ∀ i k : Int, okI i → okI k → D.atKey (spotL i k) (.held (pgV pageZ)) = .held (pgV (P i k))
section
variable {w w' : World} {M n : Nat} {P : Int → Int → List UInt8}
theorem IMap.lt (h : IMap w M n P) : M < w.heap.size := by obtain ⟨D, h1, _⟩ := h; exact h1.lt
theorem IMap.kept (h : IMap w M n P) (hb : w'.heap[M]? = w.heap[M]?) : IMap w' M n P := by
  obtain ⟨D, ⟨es, clock, h1, h2⟩, h3⟩ := h
  exact ⟨D, ⟨es, clock, hb.trans h1, h2⟩, h3⟩
theorem IMap.ne (h : IMap w M n P) {b : Nat} {cs : Array Value} {t : TypeId} {fr : Nat × Nat} (hb : w.heap[b]? = some (.cells cs t fr)) : M ≠ b := fun e => by
  obtain ⟨D, ⟨es, clock, h1, h2⟩, h3⟩ := h
  have := h1.symm.trans (e ▸ hb)
  simp at this
theorem IMap.made (w : World) : IMap (w.alloc (.map #[] 0)) w.heap.size 0 (fun _ _ => pageZ) := ⟨.map [], World.ownsMap_made _ _ _ _, fun i k _ _ => rfl⟩
theorem IMap.look (h : IMap w M n P) {i k : Int} (hi : okI i) (hk : okI k) : (Instr.lookup 62 (.map (some M)) (.agg #[.int .i64 i, .int .i64 k]) false).run Try.prog w = .ok (.agg (pgC (P i k))) w := by
  obtain ⟨D, h1, h2⟩ := h
  obtain ⟨v, ps, hrun, hv⟩ := h1.lookup spot_keyed Try.underlying62 (z := .agg (pgC pageZ)) (zero_page w) (zd := .held (pgV pageZ)) (zp := []) rfl (spot_key hi hk)
  rw [h2 i k hi hk] at hv
  unfold heldP at hv
  simp at hv
  unfold spotV at hrun
  rw [hrun, hv.1]
  rfl
theorem IMap.put (h : IMap w M n P) (hn : n < 2000000) {i k : Int} (p : List UInt8) (hi : okI i) (hk : okI k) : ∃ w', (Instr.mapUpdate 62 (.map (some M)) (.agg #[.int .i64 i, .int .i64 k]) (.agg (pgC p))).run Try.prog w = .ok () w' ∧ IMap w' M (n + 1) (putI P i k p) ∧ w.grownBy w' (some M) := by
  obtain ⟨D, h1, h2⟩ := h
  obtain ⟨w', hrun, r1, r2⟩ := h1.update spot_keyed Try.underlying62 (by unfold maxLen; omega) (spot_key hi hk) (val := .agg (pgC p)) (d := .held (pgV p)) (ps := []) rfl
  refine ⟨w', hrun, ⟨_, r1, fun j l hj hl => ?_⟩, r2⟩
  unfold putI
  by_cases e : j = i ∧ l = k
  · obtain ⟨rfl, rfl⟩ := e
    rw [if_pos ⟨rfl, rfl⟩]
    exact Maps.atKey_put_same h1.isMap (spot_keyed.key (spot_key hi hk)) _ _
  · rw [if_neg e, Maps.atKey_put_other (fun e2 => e (spotL_inj hj hl hi hk e2))]
    exact h2 j l hj hl
theorem IMap.strike (h : IMap w M n P) {i k : Int} (hi : okI i) (hk : okI k) (ty : TypeId) : ∃ w', (Builtin.delete_ #[62, 72] ty #[.map (some M), .agg #[.int .i64 i, .int .i64 k]]).run Try.prog w = .ok (.tuple #[]) w' ∧ IMap w' M n (putI P i k pageZ) ∧ w.grownBy w' (some M) := by
  obtain ⟨D, h1, h2⟩ := h
  obtain ⟨w', hrun, r1, r2⟩ := h1.drop spot_keyed Try.underlying62 (spot_key hi hk) ty
  refine ⟨w', hrun, ⟨_, r1, fun j l hj hl => ?_⟩, r2.grown⟩
  unfold putI
  by_cases e : j = i ∧ l = k
  · obtain ⟨rfl, rfl⟩ := e
    rw [if_pos ⟨rfl, rfl⟩]
    exact Maps.atKey_del_same _
  · rw [if_neg e, Maps.atKey_del_other (fun e2 => e (spotL_inj hj hl hi hk e2))]
    exact h2 j l hj hl
theorem IMap.says (h : IMap w M n P) {P' : Int → Int → List UInt8} (e : ∀ i k, okI i → okI k → P' i k = P i k) : IMap w M n P' := by
  obtain ⟨D, h1, h2⟩ := h
  exact ⟨D, h1, fun i k hi hk => by rw [e i k hi hk]; exact h2 i k hi hk⟩
end
end Go.Proofs.Ytlaniifbfgcfaaa
