/- Layer 16: 'copy', 'clear' and 'append' over rows of entries, by the cells of the block that holds them. -/
import Derived.Test.YtefiiooibbkffaaGreatEyDb
import Derived.Laws.CopyRow
import Derived.Laws.IdiomCopy
import Derived.Lib.Overlaps
import Derived.Lib.AppendZerosOnto
import Derived.Deep.RegionLaw
namespace Go.Proofs.YtefiiooibbkffaaGreat
open Go.ChangeShapes Go.WideShapes Go.ChangeAt Go.RowKit Go.Deep
set_option linter.unusedVariables false
set_option linter.unusedSimpArgs false

/-- A block of entries' cells. -/
def Slab (w : World) (g : Nat) (C : List Value) : Prop := w.heap[g]? = some (.cells C.toArray 50 (0, 0))
/-- Cells written over. -/
def putC (C : List Value) (o : Nat) (X : List Value) : List Value := C.take o ++ (X ++ C.drop (o + X.length))
theorem putC_len {C X : List Value} {o : Nat} (h : o + X.length ≤ C.length) : (putC C o X).length = C.length := by unfold putC; simp; omega
theorem putC_get {C X : List Value} {o : Nat} (h : o + X.length ≤ C.length) (j : Nat) : (putC C o X)[j]? = if j < o then C[j]? else if j < o + X.length then X[j - o]? else C[j]? := by
  unfold putC
  have e0 : (C.take o).length = o := by simp; omega
  by_cases h1 : j < o
  · rw [if_pos h1, List.getElem?_append_left (by omega), List.getElem?_take, if_pos h1]
  · rw [if_neg h1, List.getElem?_append_right (by omega), e0]
    by_cases h2 : j < o + X.length
    · rw [if_pos h2, List.getElem?_append_left (by omega)]
    · rw [if_neg h2, List.getElem?_append_right (by omega), List.getElem?_drop]
      congr 1
      omega
section
variable {w w' : World} {g : Nat} {C : List Value}
theorem Slab.cell (h : Slab w g C) {j : Nat} {v : Value} (hj : C[j]? = some v) : w.cell? ⟨g, j, none⟩ = some v := by
  rw [cell_of_row _ _ _ _ _ _ h]
  simpa using hj
theorem Slab.frozen (h : Slab w g C) (o : Nat) : w.frozen? ⟨g, o, none⟩ = false := frozen_of_row _ _ _ _ _ h
theorem Slab.lt (h : Slab w g C) : g < w.heap.size := (Array.getElem?_eq_some_iff.1 h).1
theorem Slab.shape (h : Slab w g C) : w.shape? g = some (50, C.length) := by
  unfold World.shape?
  rw [h]
  simp
theorem Slab.grow {r : Option Nat} (h : Slab w g C) (hg : w.grownBy w' r) (hr : some g ≠ r) : Slab w' g C := (hg.block _ h.lt hr).trans h
/-- The row that a call's slice has, as the cells of its block. -/
theorem own_slab {base : Nat} {v : Value} {L : List En} (h : EOwn w base v L) : (v = .slice none 0 0 ∧ L = []) ∨ ∃ g cap C, v = .slice (some ⟨g, 0, none⟩) L.length cap ∧ base ≤ g ∧ Slab w g C ∧ L.length ≤ cap ∧ cap ≤ maxLen ∧ C.length = cap * 10 ∧ C.take (L.length * 10) = L.flatMap enCells := by
  rcases h.2 with ⟨rfl, h0⟩ | ⟨g, cap, cur, rfl, hb, hg, h1, h2, h3, h4⟩
  · exact .inl ⟨rfl, List.length_eq_zero_iff.1 h0⟩
  · exact .inr ⟨g, cap, cur.toList, rfl, hb, by unfold Slab; simpa using hg, h1, h2, by simpa using h3, h4⟩
theorem slab_own {base cap : Nat} {L : List En} (hb : base ≤ g) (h : Slab w g C) (h1 : L.length ≤ cap) (h2 : cap ≤ maxLen) (h3 : C.length = cap * 10) (h4 : C.take (L.length * 10) = L.flatMap enCells) : EOwn w base (.slice (some ⟨g, 0, none⟩) L.length cap) L :=
  ⟨flat_len enCells 10 en_len L, .inr ⟨g, cap, C.toArray, rfl, hb, h, h1, h2, by simpa using h3, by simpa using h4⟩⟩
end
theorem slab_put {w : World} {g : Nat} {C D : List Value} (h : Slab w g C) : Slab (w.setRow g D.toArray) g D := setRow_heap w g _ _ _ _ h
theorem grown_put (w : World) (g : Nat) (D : Array Value) : w.grownBy (w.setRow g D) (some g) := ⟨rfl, rfl, rfl, by simp, fun k _ hk => setRow_other w g k _ (fun e => hk (by rw [e]))⟩
theorem en_info : ∃ i0, Tryz.prog.info? 50 = some i0 ∧ i0.zero = some (.agg #[.int .i64 0, .int .i64 0, .int .i64 0, .int .i64 0, .bool false, .int .i64 0, .int .i64 0, .int .i64 0, .int .i64 0, .bool false]) ∧ i0.size = 10 ∧ i0.bytes = 80 := info_parts info_en
theorem load_nothing (w : World) (x : Addr) : (loadCells x 0).run Tryz.prog w = .ok #[] w := by simpa using run_loadCells_list (P := Tryz.prog) w x [] (by simp)
/-- 'copy(d, s)'. -/
theorem run_copy10 (w : World) (ty : TypeId) (dp sp : Option Addr) (dLen dCap sLen sCap k g off : Nat) (C cs : List Value) (hk : Nat.min sLen dLen = k) (hn : cs.length = k * 10)
    (hpos : 0 < k → dp = some ⟨g, off, none⟩ ∧ ∃ ad, sp = some ad ∧ ∀ (j : Nat) v, cs[j]? = some v → w.cell? (ad.add j) = some v) (hg : Slab w g C) (hfit : off + cs.length ≤ C.length) (h1 : ∀ v ∈ cs, v.oneCell' = true) :
    (Builtin.copy_ #[47, 47] ty #[.slice dp dLen dCap, .slice sp sLen sCap]).run Tryz.prog w = .ok (.int .i64 k) (w.setRow g (putC C off cs).toArray) := by
  obtain ⟨i0, hi, hz0, hz1, hz2⟩ := en_info
  have hu : Tryz.prog.underlying 47 = some (.slice 50) := Tryz.underlying47
  rcases Nat.eq_zero_or_pos k with h0 | h0
  · subst h0
    obtain rfl : cs = [] := List.eq_nil_of_length_eq_zero (by omega)
    have e : putC C off [] = C := by unfold putC; simp
    rw [e, setRow_self w g _ _ _ hg]
    cases dp <;> cases sp <;> simp [Builtin.copy_, run_underlying hu, Builtin.lenOf, Builtin.firstCells, sizeOf, typeInfo, hi, hz1, hk, storeCells, load_nothing, goInt]
  · obtain ⟨rfl, ad, rfl, hsrc⟩ := hpos h0
    have hl := run_loadCells_list (P := Tryz.prog) w ad cs hsrc
    have hst := run_storeCells_at Tryz.prog g off _ cs 0 C.toArray w hg (by simpa using hfit) h1
    rw [hn] at hl
    simp only [Nat.add_zero] at hst
    have e : (List.take off C.toArray.toList ++ cs ++ List.drop (off + cs.length) C.toArray.toList).toArray = (putC C off cs).toArray := by
      unfold putC
      simp
    rw [e] at hst
    simp [Builtin.copy_, run_underlying hu, Builtin.lenOf, Builtin.firstCells, sizeOf, typeInfo, hi, hz1, hk, hl, hst, goInt]
def zeroCs : List Value := [.int .i64 0, .int .i64 0, .int .i64 0, .int .i64 0, .bool false, .int .i64 0, .int .i64 0, .int .i64 0, .int .i64 0, .bool false]
def zerosC (n : Nat) : List Value := (Builtin.zeroCells zeroCs.toArray n).toList
theorem zerosC_len (n : Nat) : (zerosC n).length = n * 10 := by unfold zerosC; rw [Array.length_toList, size_zeroCells]; rfl
theorem zeroCs_one (n : Nat) : ∀ v ∈ zerosC n, v.oneCell' = true := by
  intro v hv
  unfold zerosC Builtin.zeroCells at hv
  simp only [Array.toList_map, List.mem_map] at hv
  obtain ⟨i, -, rfl⟩ := hv
  have hlt : i % zeroCs.toArray.size < 10 := Nat.mod_lt _ (by decide)
  have hall : ∀ j : Fin 10, (zeroCs.toArray[j.val]!).oneCell' = true := by decide
  exact hall ⟨i % zeroCs.toArray.size, hlt⟩
/-- 'clear(s)'. -/
theorem run_clear10 (w : World) (ty : TypeId) (p : Option Addr) (n c g off : Nat) (C : List Value) (hp : 0 < n → p = some ⟨g, off, none⟩) (hg : Slab w g C) (hfit : off + n * 10 ≤ C.length) :
    (Builtin.clear_ #[47] ty #[.slice p n c]).run Tryz.prog w = .ok (.tuple #[]) (w.setRow g (putC C off (zerosC n)).toArray) := by
  obtain ⟨i0, hi, hz0, hz1, hz2⟩ := en_info
  have hu : Tryz.prog.underlying 47 = some (.slice 50) := Tryz.underlying47
  rcases Nat.eq_zero_or_pos n with h0 | h0
  · subst h0
    have e0 : zerosC 0 = [] := List.eq_nil_of_length_eq_zero (by rw [zerosC_len])
    have e : putC C off [] = C := by unfold putC; simp
    rw [e0, e, setRow_self w g _ _ _ hg]
    cases p <;> simp [Builtin.clear_, run_underlying hu]
  · obtain rfl := hp h0
    have hst := run_storeCells_at Tryz.prog g off _ (zerosC n) 0 C.toArray w hg (by rw [zerosC_len]; simpa using hfit) (zeroCs_one n)
    simp only [Nat.add_zero] at hst
    have e : (List.take off C.toArray.toList ++ zerosC n ++ List.drop (off + (zerosC n).length) C.toArray.toList).toArray = (putC C off (zerosC n)).toArray := by
      unfold putC
      simp
    rw [e] at hst
    obtain ⟨m, rfl⟩ : ∃ m, n = m + 1 := ⟨n - 1, by omega⟩
    have hzv : ∀ W, (zeroValue 50).run Tryz.prog W = .ok (.agg zeroCs.toArray) W := fun W => by simp [zeroValue, typeInfo, hi, hz0]; rfl
    have hcells : (Value.agg zeroCs.toArray).cells = zeroCs.toArray := by rfl
    unfold zerosC at hst ⊢
    simp [Builtin.clear_, run_underlying hu, hzv, hcells, hst]
/-- These operations, for the walk, and within a region that draws. -/
theorem wpList_copyE {ops : Array Oper} {rest : List Oper} {o : Oper} {a : Act} {Q : Exit → Act → World → Prop} (w : World) (hgd : o.guard = none) (d s : Operand)
    (ho : o.op = .call { callee := .builtin .copy, args := #[d, s], argTypes := #[47, 47] }) (v u : Value) (hd : a.eval d = v) (hs : a.eval s = u) {v' : Value} {w' : World}
    (hr : (Builtin.copy_ #[47, 47] o.type #[v, u]).run Tryz.prog w = .ok v' w') (h : wpList Tryz.prog ops Q rest (a.put o.dst v') w') : wpList Tryz.prog ops Q (o :: rest) a w :=
  wpList_plain hgd fun _ hK => by
    unfold Oper.wp execOp
    simp only [ho, resolve, invoke, builtin, Sem.run_bind, Sem.run_pure, Result.andThen_ok, List.map_toArray, List.map_cons, List.map_nil, hd, hs, hr]
    exact hK _ _ h
theorem wpList_clearE {ops : Array Oper} {rest : List Oper} {o : Oper} {a : Act} {Q : Exit → Act → World → Prop} (w : World) (hgd : o.guard = none) (s : Operand)
    (ho : o.op = .call { callee := .builtin .clear, args := #[s], argTypes := #[47] }) (u : Value) (hs : a.eval s = u) {v' : Value} {w' : World}
    (hr : (Builtin.clear_ #[47] o.type #[u]).run Tryz.prog w = .ok v' w') (h : wpList Tryz.prog ops Q rest (a.put o.dst v') w') : wpList Tryz.prog ops Q (o :: rest) a w :=
  wpList_plain hgd fun _ hK => by
    unfold Oper.wp execOp
    simp only [ho, resolve, invoke, builtin, Sem.run_bind, Sem.run_pure, Result.andThen_ok, List.map_toArray, List.map_cons, List.map_nil, hs, hr]
    exact hK _ _ h
theorem step_copyE {ops : Array Oper} {o : Oper} {a : Act} {w : World} {K : Act → World → Prop} {Q : Exit → Act → World → Prop} {E : Prop} (hgd : o.guard = none) (d s : Operand)
    (ho : o.op = .call { callee := .builtin .copy, args := #[d, s], argTypes := #[47, 47] }) (v u : Value) (hd : a.eval d = v) (hs : a.eval s = u) {v' : Value} {w' : World}
    (hr : (Builtin.copy_ #[47, 47] o.type #[v, u]).run Tryz.prog w = .ok v' w') (h : K (a.put o.dst v') w') :
    if Region.wanted o (yielded ops a.tmps) = true then Oper.wp Tryz.prog o a w K Q else E := by
  have hw : Region.wanted o (yielded ops a.tmps) = true := by simp [Region.wanted, hgd]
  rw [if_pos hw]
  unfold Oper.wp
  simp [execOp, ho, resolve, invoke, builtin, hd, hs, hr, Result.andThen]
  exact h
/-- A list that stands where the elder one stood, or in new memory. -/
def New (w : World) (v v' : Value) : Prop := ∀ g, v'.ownBlock = some g → v.ownBlock = some g ∨ w.heap.size ≤ g
theorem New.refl (w : World) (v : Value) : New w v v := fun _ h => .inl h
theorem New.of {w w' : World} {base : Nat} {v v' : Value} {L : List En} (h : EOwn w' base v' L) (hb : w.heap.size ≤ base) : New w v v' := fun g hg => .inr (Nat.le_trans hb (OwnOf.lt h hg).1)
theorem New.after {w w1 : World} {v v' : Value} (h : New w1 v v') (hs : w.heap.size ≤ w1.heap.size) : New w v v' := fun g hg => (h g hg).imp id fun k => Nat.le_trans hs k
/-- 'append(l, m...)' onto a row of the call's own, and where it stands then. -/
theorem wpList_eappN {ops : Array Oper} {rest : List Oper} {o : Oper} {a : Act} {Q : Exit → Act → World → Prop} (w : World) (hgd : o.guard = none) (s x : Operand)
    (ho : o.op = .call { callee := .builtin .append, args := #[s, x], argTypes := #[47, 47] }) (base : Nat) (v : Value) (xs : List En) (hs : a.eval s = v) (h : EOwn w base v xs) (v2 : Value) (ys : List En) (hx : a.eval x = v2) (hy : ERow w v2 ys)
    (hl : xs.length + ys.length ≤ 1000000) (hbase : base ≤ w.heap.size)
    (hK : ∀ v' w', EOwn w' base v' (xs ++ ys) → w.grownBy w' v.ownBlock → New w v v' → wpList Tryz.prog ops Q rest (a.put o.dst v') w') :
    wpList Tryz.prog ops Q (o :: rest) a w := by
  obtain ⟨i0, hi, hz0, hz1, hz2⟩ := info_parts info_en
  rcases erow_cases hy with ⟨rfl, h0⟩ | ⟨ad, c, rfl, hc⟩
  · refine wpList_append_own_none hgd s x 47 ho base 50 i0 10 Tryz.underlying47 hi v xs.length (xs.flatMap enCells) hs h hx ?_
    subst h0
    exact hK v w (by rw [List.append_nil]; exact h) (grown_refl _ _) (New.refl _ _)
  · refine wpList_append_own_at _ hgd s x 47 ho base 50 i0 (.agg #[.int .i64 0, .int .i64 0, .int .i64 0, .int .i64 0, .bool false, .int .i64 0, .int .i64 0, .int .i64 0, .int .i64 0, .bool false]) 10 80 Tryz.underlying47 hi hz0 hz1 hz2 rfl (by decide) v xs.length (xs.flatMap enCells) hs h ad ys.length c (ys.flatMap enCells) hx (flat_len enCells 10 en_len ys) hc (en_ones ys) (by unfold maxLen; omega) (by omega) hbase ?_
    intro v' w' hown' hgrow hnil hat
    refine hK v' w' ?_ hgrow (fun g hg => ?_)
    · unfold EOwn OwnOf
      rw [List.length_append, List.flatMap_append]
      exact hown'
    · rcases hat with e | e
      · exact .inl (e ▸ hg)
      · rw [e] at hg
        exact .inr (by have := Option.some.inj hg; omega)
end Go.Proofs.YtefiiooibbkffaaGreat
