/- Layer 16: 'copy', 'clear' and 'append' over rows of entries, by the cells of the block that holds them. Layer 16: rows of entries, plainly: parts of a block's cells. No program but the type's size. Layer 16: slices.Insert at entries: a row of the call's own, another such row put in. Layer 16: slices.Insert at entries where there is no room: a new row; where there is: the rest goes up. Layer 16: slices.Replace at entries: its ways. Layer 16: slices.Insert and slices.Replace at entries, whatever the room. -/
import Derived.Test.YtefiiooibbkffaaGreatEyDb
import Derived.Laws.CopyRow
import Derived.Laws.IdiomCopy
import Derived.Lib.Overlaps
import Derived.Lib.AppendZerosOnto
import Derived.Deep.RegionLaw
import Derived.BigQuiet
namespace Go.Proofs.YtefiiooibbkffaaGreat
open Go.ChangeShapes Go.WideShapes Go.ChangeAt Go.RowKit Go.Deep
set_option linter.unusedVariables false
set_option linter.unusedSimpArgs false

/-- A block of entries' cells. -/
def Slab (w : World) (g : Nat) (C : List Value) : Prop := w.heap[g]? = some (.cells C.toArray 50 (0, 0))
/-- Cells written over. -/
def putC (C : List Value) (o : Nat) (X : List Value) : List Value := C.take o ++ (X ++ C.drop (o + X.length))
theorem putC_len {C X : List Value} {o : Nat} (h : o + X.length ≤ C.length) : (putC C o X).length = C.length := by unfold putC; simp; omega
theorem putC_get {C X : List Value} {o : Nat} (h : o + X.length ≤ C.length) (j : Nat) : (putC C o X)[j]? = if j < o then C[j]? else if j < o + X.length then X[j - o]? else C[j]? := by
  unfold putC
  have e0 : (C.take o).length = o := by simp; omega
  by_cases h1 : j < o
  · rw [if_pos h1, List.getElem?_append_left (by omega), List.getElem?_take, if_pos h1]
  · rw [if_neg h1, List.getElem?_append_right (by omega), e0]
    by_cases h2 : j < o + X.length
    · rw [if_pos h2, List.getElem?_append_left (by omega)]
    · rw [if_neg h2, List.getElem?_append_right (by omega), List.getElem?_drop]
      congr 1
      omega
section
variable {w w' : World} {g : Nat} {C : List Value}
theorem Slab.cell (h : Slab w g C) {j : Nat} {v : Value} (hj : C[j]? = some v) : w.cell? ⟨g, j, none⟩ = some v := by
  rw [cell_of_row _ _ _ _ _ _ h]
  simpa using hj
theorem Slab.frozen (h : Slab w g C) (o : Nat) : w.frozen? ⟨g, o, none⟩ = false := frozen_of_row _ _ _ _ _ h
theorem Slab.lt (h : Slab w g C) : g < w.heap.size := (Array.getElem?_eq_some_iff.1 h).1
theorem Slab.shape (h : Slab w g C) : w.shape? g = some (50, C.length) := by
  unfold World.shape?
  rw [h]
  simp
theorem Slab.grow {r : Option Nat} (h : Slab w g C) (hg : w.grownBy w' r) (hr : some g ≠ r) : Slab w' g C := (hg.block _ h.lt hr).trans h
/-- The row that a call's slice has, as the cells of its block. -/
theorem own_slab {base : Nat} {v : Value} {L : List En} (h : EOwn w base v L) : (v = .slice none 0 0 ∧ L = []) ∨ ∃ g cap C, v = .slice (some ⟨g, 0, none⟩) L.length cap ∧ base ≤ g ∧ Slab w g C ∧ L.length ≤ cap ∧ cap ≤ maxLen ∧ C.length = cap * 10 ∧ C.take (L.length * 10) = L.flatMap enCells := by
  rcases h.2 with ⟨rfl, h0⟩ | ⟨g, cap, cur, rfl, hb, hg, h1, h2, h3, h4⟩
  · exact .inl ⟨rfl, List.length_eq_zero_iff.1 h0⟩
  · exact .inr ⟨g, cap, cur.toList, rfl, hb, by unfold Slab; simpa using hg, h1, h2, by simpa using h3, h4⟩
theorem slab_own {base cap : Nat} {L : List En} (hb : base ≤ g) (h : Slab w g C) (h1 : L.length ≤ cap) (h2 : cap ≤ maxLen) (h3 : C.length = cap * 10) (h4 : C.take (L.length * 10) = L.flatMap enCells) : EOwn w base (.slice (some ⟨g, 0, none⟩) L.length cap) L :=
  ⟨flat_len enCells 10 en_len L, .inr ⟨g, cap, C.toArray, rfl, hb, h, h1, h2, by simpa using h3, by simpa using h4⟩⟩
end
theorem slab_put {w : World} {g : Nat} {C D : List Value} (h : Slab w g C) : Slab (w.setRow g D.toArray) g D := setRow_heap w g _ _ _ _ h
theorem grown_put (w : World) (g : Nat) (D : Array Value) : w.grownBy (w.setRow g D) (some g) := ⟨rfl, rfl, rfl, by simp, fun k _ hk => setRow_other w g k _ (fun e => hk (by rw [e]))⟩
theorem en_info : ∃ i0, Tryz.prog.info? 50 = some i0 ∧ i0.zero = some (.agg #[.int .i64 0, .int .i64 0, .int .i64 0, .int .i64 0, .bool false, .int .i64 0, .int .i64 0, .int .i64 0, .int .i64 0, .bool false]) ∧ i0.size = 10 ∧ i0.bytes = 80 := info_parts info_en
theorem load_nothing (w : World) (x : Addr) : (loadCells x 0).run Tryz.prog w = .ok #[] w := by simpa using run_loadCells_list (P := Tryz.prog) w x [] (by simp)
/-- 'copy(d, s)'. -/
theorem run_copy10 (w : World) (ty : TypeId) (dp sp : Option Addr) (dLen dCap sLen sCap k g off : Nat) (C cs : List Value) (hk : Nat.min sLen dLen = k) (hn : cs.length = k * 10)
    (hpos : 0 < k → dp = some ⟨g, off, none⟩ ∧ ∃ ad, sp = some ad ∧ ∀ (j : Nat) v, cs[j]? = some v → w.cell? (ad.add j) = some v) (hg : Slab w g C) (hfit : off + cs.length ≤ C.length) (h1 : ∀ v ∈ cs, v.oneCell' = true) :
    (Builtin.copy_ #[47, 47] ty #[.slice dp dLen dCap, .slice sp sLen sCap]).run Tryz.prog w = .ok (.int .i64 k) (w.setRow g (putC C off cs).toArray) := by
  obtain ⟨i0, hi, hz0, hz1, hz2⟩ := en_info
  have hu : Tryz.prog.underlying 47 = some (.slice 50) := Tryz.underlying47
  rcases Nat.eq_zero_or_pos k with h0 | h0
  · subst h0
    obtain rfl : cs = [] := List.eq_nil_of_length_eq_zero (by omega)
    have e : putC C off [] = C := by unfold putC; simp
    rw [e, setRow_self w g _ _ _ hg]
    cases dp <;> cases sp <;> simp [Builtin.copy_, run_underlying hu, Builtin.lenOf, Builtin.firstCells, sizeOf, typeInfo, hi, hz1, hk, storeCells, load_nothing, goInt]
  · obtain ⟨rfl, ad, rfl, hsrc⟩ := hpos h0
    have hl := run_loadCells_list (P := Tryz.prog) w ad cs hsrc
    have hst := run_storeCells_at Tryz.prog g off _ cs 0 C.toArray w hg (by simpa using hfit) h1
    rw [hn] at hl
    simp only [Nat.add_zero] at hst
    have e : (List.take off C.toArray.toList ++ cs ++ List.drop (off + cs.length) C.toArray.toList).toArray = (putC C off cs).toArray := by
      unfold putC
      simp
    rw [e] at hst
    simp [Builtin.copy_, run_underlying hu, Builtin.lenOf, Builtin.firstCells, sizeOf, typeInfo, hi, hz1, hk, hl, hst, goInt]
def zeroCs : List Value := [.int .i64 0, .int .i64 0, .int .i64 0, .int .i64 0, .bool false, .int .i64 0, .int .i64 0, .int .i64 0, .int .i64 0, .bool false]
def zerosC (n : Nat) : List Value := (Builtin.zeroCells zeroCs.toArray n).toList
theorem zerosC_len (n : Nat) : (zerosC n).length = n * 10 := by unfold zerosC; rw [Array.length_toList, size_zeroCells]; rfl
theorem zeroCs_one (n : Nat) : ∀ v ∈ zerosC n, v.oneCell' = true := by
  intro v hv
  unfold zerosC Builtin.zeroCells at hv
  simp only [Array.toList_map, List.mem_map] at hv
  obtain ⟨i, -, rfl⟩ := hv
  have hlt : i % zeroCs.toArray.size < 10 := Nat.mod_lt _ (by decide)
  have hall : ∀ j : Fin 10, (zeroCs.toArray[j.val]!).oneCell' = true := by decide
  exact hall ⟨i % zeroCs.toArray.size, hlt⟩
/-- 'clear(s)'. -/
theorem run_clear10 (w : World) (ty : TypeId) (p : Option Addr) (n c g off : Nat) (C : List Value) (hp : 0 < n → p = some ⟨g, off, none⟩) (hg : Slab w g C) (hfit : off + n * 10 ≤ C.length) :
    (Builtin.clear_ #[47] ty #[.slice p n c]).run Tryz.prog w = .ok (.tuple #[]) (w.setRow g (putC C off (zerosC n)).toArray) := by
  obtain ⟨i0, hi, hz0, hz1, hz2⟩ := en_info
  have hu : Tryz.prog.underlying 47 = some (.slice 50) := Tryz.underlying47
  rcases Nat.eq_zero_or_pos n with h0 | h0
  · subst h0
    have e0 : zerosC 0 = [] := List.eq_nil_of_length_eq_zero (by rw [zerosC_len])
    have e : putC C off [] = C := by unfold putC; simp
    rw [e0, e, setRow_self w g _ _ _ hg]
    cases p <;> simp [Builtin.clear_, run_underlying hu]
  · obtain rfl := hp h0
    have hst := run_storeCells_at Tryz.prog g off _ (zerosC n) 0 C.toArray w hg (by rw [zerosC_len]; simpa using hfit) (zeroCs_one n)
    simp only [Nat.add_zero] at hst
    have e : (List.take off C.toArray.toList ++ zerosC n ++ List.drop (off + (zerosC n).length) C.toArray.toList).toArray = (putC C off (zerosC n)).toArray := by
      unfold putC
      simp
    rw [e] at hst
    obtain ⟨m, rfl⟩ : ∃ m, n = m + 1 := ⟨n - 1, by omega⟩
    have hzv : ∀ W, (zeroValue 50).run Tryz.prog W = .ok (.agg zeroCs.toArray) W := fun W => by simp [zeroValue, typeInfo, hi, hz0]; rfl
    have hcells : (Value.agg zeroCs.toArray).cells = zeroCs.toArray := by rfl
    unfold zerosC at hst ⊢
    simp [Builtin.clear_, run_underlying hu, hzv, hcells, hst]
/-- These operations, for the walk, and within a region that draws. -/
theorem wpList_copyE {ops : Array Oper} {rest : List Oper} {o : Oper} {a : Act} {Q : Exit → Act → World → Prop} (w : World) (hgd : o.guard = none) (d s : Operand)
    (ho : o.op = .call { callee := .builtin .copy, args := #[d, s], argTypes := #[47, 47] }) (v u : Value) (hd : a.eval d = v) (hs : a.eval s = u) {v' : Value} {w' : World}
    (hr : (Builtin.copy_ #[47, 47] o.type #[v, u]).run Tryz.prog w = .ok v' w') (h : wpList Tryz.prog ops Q rest (a.put o.dst v') w') : wpList Tryz.prog ops Q (o :: rest) a w :=
  wpList_plain hgd fun _ hK => by
    unfold Oper.wp execOp
    simp only [ho, resolve, invoke, builtin, Sem.run_bind, Sem.run_pure, Result.andThen_ok, List.map_toArray, List.map_cons, List.map_nil, hd, hs, hr]
    exact hK _ _ h
theorem wpList_clearE {ops : Array Oper} {rest : List Oper} {o : Oper} {a : Act} {Q : Exit → Act → World → Prop} (w : World) (hgd : o.guard = none) (s : Operand)
    (ho : o.op = .call { callee := .builtin .clear, args := #[s], argTypes := #[47] }) (u : Value) (hs : a.eval s = u) {v' : Value} {w' : World}
    (hr : (Builtin.clear_ #[47] o.type #[u]).run Tryz.prog w = .ok v' w') (h : wpList Tryz.prog ops Q rest (a.put o.dst v') w') : wpList Tryz.prog ops Q (o :: rest) a w :=
  wpList_plain hgd fun _ hK => by
    unfold Oper.wp execOp
    simp only [ho, resolve, invoke, builtin, Sem.run_bind, Sem.run_pure, Result.andThen_ok, List.map_toArray, List.map_cons, List.map_nil, hs, hr]
    exact hK _ _ h
theorem step_copyE {ops : Array Oper} {o : Oper} {a : Act} {w : World} {K : Act → World → Prop} {Q : Exit → Act → World → Prop} {E : Prop} (hgd : o.guard = none) (d s : Operand)
    (ho : o.op = .call { callee := .builtin .copy, args := #[d, s], argTypes := #[47, 47] }) (v u : Value) (hd : a.eval d = v) (hs : a.eval s = u) {v' : Value} {w' : World}
    (hr : (Builtin.copy_ #[47, 47] o.type #[v, u]).run Tryz.prog w = .ok v' w') (h : K (a.put o.dst v') w') :
    if Region.wanted o (yielded ops a.tmps) = true then Oper.wp Tryz.prog o a w K Q else E := by
  have hw : Region.wanted o (yielded ops a.tmps) = true := by simp [Region.wanted, hgd]
  rw [if_pos hw]
  unfold Oper.wp
  simp [execOp, ho, resolve, invoke, builtin, hd, hs, hr, Result.andThen]
  exact h
/-- A list that stands where the elder one stood, or in new memory. -/
def New (w : World) (v v' : Value) : Prop := ∀ g, v'.ownBlock = some g → v.ownBlock = some g ∨ w.heap.size ≤ g
theorem New.refl (w : World) (v : Value) : New w v v := fun _ h => .inl h
theorem New.of {w w' : World} {base : Nat} {v v' : Value} {L : List En} (h : EOwn w' base v' L) (hb : w.heap.size ≤ base) : New w v v' := fun g hg => .inr (Nat.le_trans hb (OwnOf.lt h hg).1)
theorem New.after {w w1 : World} {v v' : Value} (h : New w1 v v') (hs : w.heap.size ≤ w1.heap.size) : New w v v' := fun g hg => (h g hg).imp id fun k => Nat.le_trans hs k
/-- 'append(l, m...)' onto a row of the call's own, and where it stands then. -/
theorem wpList_eappN {ops : Array Oper} {rest : List Oper} {o : Oper} {a : Act} {Q : Exit → Act → World → Prop} (w : World) (hgd : o.guard = none) (s x : Operand)
    (ho : o.op = .call { callee := .builtin .append, args := #[s, x], argTypes := #[47, 47] }) (base : Nat) (v : Value) (xs : List En) (hs : a.eval s = v) (h : EOwn w base v xs) (v2 : Value) (ys : List En) (hx : a.eval x = v2) (hy : ERow w v2 ys)
    (hl : xs.length + ys.length ≤ 1000000) (hbase : base ≤ w.heap.size)
    (hK : ∀ v' w', EOwn w' base v' (xs ++ ys) → w.grownBy w' v.ownBlock → New w v v' → wpList Tryz.prog ops Q rest (a.put o.dst v') w') :
    wpList Tryz.prog ops Q (o :: rest) a w := by
  obtain ⟨i0, hi, hz0, hz1, hz2⟩ := info_parts info_en
  rcases erow_cases hy with ⟨rfl, h0⟩ | ⟨ad, c, rfl, hc⟩
  · refine wpList_append_own_none hgd s x 47 ho base 50 i0 10 Tryz.underlying47 hi v xs.length (xs.flatMap enCells) hs h hx ?_
    subst h0
    exact hK v w (by rw [List.append_nil]; exact h) (grown_refl _ _) (New.refl _ _)
  · refine wpList_append_own_at _ hgd s x 47 ho base 50 i0 (.agg #[.int .i64 0, .int .i64 0, .int .i64 0, .int .i64 0, .bool false, .int .i64 0, .int .i64 0, .int .i64 0, .int .i64 0, .bool false]) 10 80 Tryz.underlying47 hi hz0 hz1 hz2 rfl (by decide) v xs.length (xs.flatMap enCells) hs h ad ys.length c (ys.flatMap enCells) hx (flat_len enCells 10 en_len ys) hc (en_ones ys) (by unfold maxLen; omega) (by omega) hbase ?_
    intro v' w' hown' hgrow hnil hat
    refine hK v' w' ?_ hgrow (fun g hg => ?_)
    · unfold EOwn OwnOf
      rw [List.length_append, List.flatMap_append]
      exact hown'
    · rcases hat with e | e
      · exact .inl (e ▸ hg)
      · rw [e] at hg
        exact .inr (by have := Option.some.inj hg; omega)
end Go.Proofs.YtefiiooibbkffaaGreat

namespace Go.Proofs.YtefiiooibbkffaaGreat
open Go.ChangeShapes Go.WideShapes Go.ChangeAt Go.RowKit Go.Deep
set_option linter.unusedVariables false
set_option linter.unusedSimpArgs false

theorem sl_at (g i j cap : Nat) : ∃ p, sliced (some ⟨g, 0, none⟩) i j cap 10 = .slice (some p) (j - i) (cap - i) ∧ p.block = g ∧ (i < cap → p = ⟨g, i * 10, none⟩) := by
  unfold sliced
  by_cases h : cap = i
  · rw [if_pos h]
    exact ⟨_, rfl, rfl, fun h2 => by omega⟩
  · rw [if_neg h]
    refine ⟨_, rfl, ?_, fun _ => by simp [Addr.add_mid]⟩
    simp [Addr.add_mid]
theorem ens_take (L : List En) (i : Nat) : (L.take i).flatMap enCells = (L.flatMap enCells).take (i * 10) := by
  induction L generalizing i with
  | nil => simp
  | cons x r ih =>
    cases i with
    | zero => simp
    | succ k =>
      rw [List.take_succ_cons, List.flatMap_cons, List.flatMap_cons, ih, List.take_append, en_len]
      rw [List.take_of_length_le (show (enCells x).length ≤ (k + 1) * 10 by rw [en_len]; omega)]
      congr 2
      omega
theorem ens_drop (L : List En) (i : Nat) : (L.drop i).flatMap enCells = (L.flatMap enCells).drop (i * 10) := by
  induction L generalizing i with
  | nil => simp
  | cons x r ih =>
    cases i with
    | zero => simp
    | succ k =>
      rw [List.drop_succ_cons, List.flatMap_cons, ih, List.drop_append, en_len]
      rw [List.drop_eq_nil_of_le (show (enCells x).length ≤ (k + 1) * 10 by rw [en_len]; omega), List.nil_append]
      congr 1
      omega
theorem flat_size (L : List En) : (L.flatMap enCells).length = L.length * 10 := flat_len enCells 10 en_len L
/-- What the cells of a block say from one element on. -/
theorem slab_part {C : List Value} {L : List En} {n : Nat} (hC : C.take (n * 10) = L.flatMap enCells) (hn : L.length = n) (i : Nat) {j : Nat} {v : Value} (hj : ((L.drop i).flatMap enCells)[j]? = some v) : C[i * 10 + j]? = some v := by
  rw [ens_drop, List.getElem?_drop, ← hC, List.getElem?_take] at hj
  split at hj
  · exact hj
  · cases hj
/-- A stretch, the elements that are put in, and the rest behind them: in whatever order they were written. -/
theorem three_take {C : List Value} {A M D : List En} {i m d : Nat} (ha : A.length = i) (hm : M.length = m) (hd : D.length = d)
    (h1 : ∀ j, j < i * 10 → C[j]? = (A.flatMap enCells)[j]?) (h2 : ∀ j, j < m * 10 → C[i * 10 + j]? = (M.flatMap enCells)[j]?) (h3 : ∀ j, j < d * 10 → C[(i + m) * 10 + j]? = (D.flatMap enCells)[j]?) :
    C.take ((A ++ M ++ D).length * 10) = (A ++ M ++ D).flatMap enCells := by
  have e1 : (A.flatMap enCells).length = i * 10 := by rw [flat_size, ha]
  have e2 : (M.flatMap enCells).length = m * 10 := by rw [flat_size, hm]
  have e3 : (D.flatMap enCells).length = d * 10 := by rw [flat_size, hd]
  have hl : (A ++ M ++ D).length = i + m + d := by simp; omega
  rw [hl, List.flatMap_append, List.flatMap_append]
  apply List.ext_getElem?
  intro j
  rw [List.getElem?_take]
  by_cases k0 : j < (i + m + d) * 10
  · rw [if_pos k0]
    by_cases k1 : j < i * 10
    · rw [h1 j k1, List.getElem?_append_left (by rw [List.length_append]; omega), List.getElem?_append_left (by omega)]
    · by_cases k2 : j < (i + m) * 10
      · have := h2 (j - i * 10) (by omega)
        rw [show i * 10 + (j - i * 10) = j by omega] at this
        rw [this, List.getElem?_append_left (by rw [List.length_append]; omega), List.getElem?_append_right (by omega), e1]
      · have := h3 (j - (i + m) * 10) (by omega)
        rw [show (i + m) * 10 + (j - (i + m) * 10) = j by omega] at this
        rw [this, List.getElem?_append_right (by rw [List.length_append]; omega), List.length_append, e1, e2]
        congr 1
        omega
  · rw [if_neg k0, List.getElem?_eq_none]
    rw [List.length_append, List.length_append]
    omega
theorem take_get {C : List Value} {L : List En} {n : Nat} (hC : C.take (n * 10) = L.flatMap enCells) (i j : Nat) (hi : i ≤ n) (hj : j < i * 10) : C[j]? = ((L.take i).flatMap enCells)[j]? := by
  rw [ens_take, ← hC, List.getElem?_take, if_pos hj, List.getElem?_take, if_pos (by omega)]
theorem drop_get {C : List Value} {L : List En} {n : Nat} (hC : C.take (n * 10) = L.flatMap enCells) (i j : Nat) (hj : i * 10 + j < n * 10) : C[i * 10 + j]? = ((L.drop i).flatMap enCells)[j]? := by
  rw [ens_drop, List.getElem?_drop, ← hC, List.getElem?_take, if_pos hj]
theorem eown_grow0 {w w' : World} {base : Nat} {v : Value} {xs : List En} (h : EOwn w base v xs) (g : w.grownBy w' none) : EOwn w' base v xs := OwnOf.grow h g
theorem eown_kept0 {w w' : World} {base : Nat} {v : Value} {xs : List En} {r : Option Nat} (h : EOwn w base v xs) (g : w.grownBy w' r) (hne : ∀ b, v.ownBlock = some b → r ≠ some b) : EOwn w' base v xs := OwnOf.kept h fun b hb => g.block b (OwnOf.lt h hb).2 (fun e => hne b hb e.symm)
theorem grown_at' {a b e : World} {x : Option Nat} (h : a.grownBy b none) (g : b.grownBy e x) : a.grownBy e x := grown_trans (grown_none h) g
end Go.Proofs.YtefiiooibbkffaaGreat

namespace Go.Proofs.YtefiiooibbkffaaGreat
open Go.ChangeShapes Go.WideShapes Go.ChangeAt Go.RowKit Go.Deep
set_option linter.unusedVariables false
set_option linter.unusedSimpArgs false

/-- Two rows of the calls' own have no element in common. -/
theorem overlaps_no {w : World} {g h n m c d : Nat} {C D : List Value} {p q : Addr} (hg : Slab w g C) (hh : Slab w h D) (hne : g ≠ h) (hp : p.block = g) (hq : q.block = h) (hd : D.length ≠ 0) (hsp : p.spot = none) :
    (callFunc 202 #[.slice (some p) n c, .slice (some q) m d]).run Tryz.prog w = .ok (.value (.bool false)) w := by
  subst hp hq
  have hov := Lib.run_overlaps_apart (P := Tryz.prog) w 47 4 50 Tryz.underlying47 10 (fun w => by rw [← en_elem]; exact en_size w) p q n c m d hne _ _ _ _ hg.shape hh.shape hd (by have := hg.frozen p.off; obtain ⟨b, o, s⟩ := p; cases hsp; exact this) (hg.frozen _)
  rw [run_callFunc_extern Tryz.func202 (by kernel_rfl) (by kernel_rfl) (by kernel_rfl) (e := Extern.SlicesOverlaps.overlaps #[47, 47] #[4]) (by kernel_rfl), hov]
  rfl
theorem en_nil {w : World} {base : Nat} {v : Value} {L : List En} (h : EOwn w base v L) (h0 : L.length = 0) : L = [] := List.length_eq_zero_iff.1 h0
theorem row_src {w : World} {b n c : Nat} {s : Option Addr} {M : List En} (h : EOwn w b (.slice s n c) M) : 0 < M.length → ∃ ad, s = some ad ∧ ∀ (j : Nat) v, (M.flatMap enCells)[j]? = some v → w.cell? (ad.add j) = some v := fun h0 => by
  rcases erow_cases (eown_row h) with ⟨e, rfl⟩ | ⟨ad, c', e, hc⟩
  · simp at h0
  · cases e
    exact ⟨ad, rfl, hc⟩
set_option maxHeartbeats 4000000 in
set_option maxRecDepth 100000 in
/-- Put in at the end. -/
theorem insert_end {w : World} {base bu : Nat} {v u : Value} {L M : List En} (h : EOwn w base v L) (hu : EOwn w bu u M) (hb : base ≤ w.heap.size) (hl : L.length ≤ 100000) (hm : M.length ≤ 100000) (h0 : M.length ≠ 0) :
    Calls Tryz.prog 201 #[v, .int .i64 L.length, u] w fun e w' => ∃ v', e = .returned v' ∧ EOwn w' base v' (L ++ M) ∧ New w v v' ∧ w.grownBy w' v.ownBlock := by
  have hc := (EOwn.ec h).2
  obtain ⟨sv, cv, hv⟩ := OwnOf.form h
  obtain ⟨su, cu, hv2⟩ := OwnOf.form hu
  subst hv hv2
  have hle : L.length ≤ cv := hc _ _ _ rfl
  have hz : ¬ ((M.length : Int) = 0) := by omega
  have hs0 := fun W => run_from W sv L.length cv L.length (Nat.le_refl _) hle
  have HV := Lib.hid h
  have HU := Lib.hid hu
  obtain ⟨n, hn⟩ : ∃ n, L.length = n := ⟨_, rfl⟩
  obtain ⟨m, hm'⟩ : ∃ m, M.length = m := ⟨_, rfl⟩
  have HN := Lib.hid hn
  have HM := Lib.hid hm'
  rw [hn] at hl hs0 HV ⊢
  rw [hm'] at hz hm HU ⊢
  obtain ⟨x0, hx0⟩ : ∃ x0, sliced sv n n cv 10 = x0 := ⟨_, rfl⟩
  rw [hx0] at hs0
  clear h hu hc hle h0 hn hm' hx0
  go_enter Tryz.func201, Tryz.ntmps201
  go_wp2_with (at_builtin; refine wpList_eappN w rfl _ _ rfl base _ L rfl HV.out _ M rfl (eown_row HU.out) (by have := HN.out; have := HM.out; omega) hb ?_; intro v8 w8 hown8 hg8 hn8; have HO8 := Lib.hid hown8; have HG8 := Lib.hid hg8; have HN8 := Lib.hid hn8; clear hown8 hg8 hn8)
  go_ret
  exact ⟨_, rfl, HO8.out, HN8.out, HG8.out⟩
/-- Nothing is put in. -/
theorem insert_none {w : World} {base : Nat} {v u : Value} {L : List En} (h : EOwn w base v L) (hu : u = .slice none 0 0 ∨ ∃ a c, u = .slice (some a) 0 c) (i : Nat) (hi : i ≤ L.length) :
    Calls Tryz.prog 201 #[v, .int .i64 i, u] w fun e w' => e = .returned v ∧ w' = w := by
  have hc := (EOwn.ec h).2
  obtain ⟨sv, cv, hv⟩ := OwnOf.form h
  subst hv
  have hle : L.length ≤ cv := hc _ _ _ rfl
  have hs0 := fun W => run_from W sv L.length cv i hi hle
  obtain ⟨x0, hx0⟩ : ∃ x0, sliced sv i L.length cv 10 = x0 := ⟨_, rfl⟩
  rw [hx0] at hs0
  clear h hc hle hx0 hi
  obtain ⟨n, hn⟩ : ∃ n, L.length = n := ⟨_, rfl⟩
  rw [hn] at hs0 ⊢
  clear hn
  rcases hu with rfl | ⟨a, c, rfl⟩ <;>
  · go_enter Tryz.func201, Tryz.ntmps201
    go_wp2_with fail
    go_ret
    exact ⟨rfl, rfl⟩
end Go.Proofs.YtefiiooibbkffaaGreat

namespace Go.Proofs.YtefiiooibbkffaaGreat
open Go.ChangeShapes Go.WideShapes Go.ChangeAt Go.RowKit Go.Deep
set_option linter.unusedVariables false
set_option linter.unusedSimpArgs false

theorem zero_cells_en : (Value.agg #[.int .i64 0, .int .i64 0, .int .i64 0, .int .i64 0, .bool false, .int .i64 0, .int .i64 0, .int .i64 0, .int .i64 0, .bool false]).cells.size = 10 := by rfl
/-- 'append(s[:i], make([]Entry, k)...)' where there is no room. -/
theorem grow_zeros {w : World} {g i cap n : Nat} {C : List Value} {L : List En} (hg : Slab w g C) (hC : C.take (n * 10) = L.flatMap enCells) (hi : i ≤ n) (hLn : L.length = n) (hCl : C.length = cap * 10) (k : Nat) (h0 : 0 < k) (hno : cap < i + k) (hk : i + k ≤ 1000000) :
    ∃ (cc : Nat) (D : List Value), (∀ ty, (Builtin.append_ #[47, 3] ty #[.slice (some ⟨g, 0, none⟩) i cap, .int .i64 (k : Int)]).run Tryz.prog w = .ok (.slice (some ⟨w.heap.size, 0, none⟩) (i + k) cc) (w.drew.alloc (.cells D.toArray 50))) ∧
      i + k ≤ cc ∧ cc ≤ maxLen ∧ D.length = cc * 10 ∧ ∀ j, j < i * 10 → D[j]? = ((L.take i).flatMap enCells)[j]? := by
  obtain ⟨i0, hin, hz0, hz1, hz2⟩ := en_info
  have hcells : ∀ (j : Nat) v, ((L.take i).flatMap enCells)[j]? = some v → w.drew.cell? ((⟨g, 0, none⟩ : Addr).add j) = some v := fun j v hj => by
    have hj2 : j < i * 10 := by
      have := (List.getElem?_eq_some_iff.1 hj).1
      rw [flat_size, List.length_take] at this
      omega
    rw [Addr.add_mid, Nat.zero_add]
    refine Slab.cell (C := C) hg ?_
    rw [take_get hC i j hi hj2]
    exact hj
  have hsz : ((L.take i).flatMap enCells).length = i * 10 := by rw [flat_size, List.length_take]; omega
  have hold := run_firstCells_some (P := Tryz.prog) w.drew 10 i ⟨g, 0, none⟩ i cap ((L.take i).flatMap enCells) hsz hcells
  have hr := fun ty => Lib.run_append_grow_zeros (P := Tryz.prog) w 47 3 ty 50 i0 _ .i64 .i64 Tryz.underlying47 Tryz.underlying3 hin hz0 (some ⟨g, 0, none⟩) i cap ((L.take i).flatMap enCells) (by rw [hz1]; exact hold) k h0 (by rw [hz1]; omega) hno (by omega) (by rw [hz2]; omega)
    (by rw [hz2]; have := nextslicecap_le hno; omega)
  have hge := grownCap_ge w (i + k) cap 50
  have hle := grownCap_le_maxLen w (i + k) cap 50 (by unfold maxLen; omega)
  obtain ⟨cc, hcc⟩ : ∃ cc, grownCap w (i + k) cap 50 = cc := ⟨_, rfl⟩
  rw [hcc] at hge hle
  simp only [hcc] at hr
  refine ⟨cc, (((L.take i).flatMap enCells).toArray ++ Builtin.zeroCells (Value.agg #[.int .i64 0, .int .i64 0, .int .i64 0, .int .i64 0, .bool false, .int .i64 0, .int .i64 0, .int .i64 0, .int .i64 0, .bool false]).cells k ++ Builtin.zeroCells (Value.agg #[.int .i64 0, .int .i64 0, .int .i64 0, .int .i64 0, .bool false, .int .i64 0, .int .i64 0, .int .i64 0, .int .i64 0, .bool false]).cells (cc - (i + k))).toList, fun ty => by rw [Array.toArray_toList]; exact hr ty, hge, hle, ?_, fun j hj => ?_⟩
  · rw [Array.length_toList, Array.size_append, Array.size_append, size_zeroCells, size_zeroCells, zero_cells_en, List.size_toArray, hsz]
    omega
  · rw [Array.toList_append, Array.toList_append, List.append_assoc, List.getElem?_append_left (by rw [hsz]; exact hj)]
set_option maxHeartbeats 4000000 in
set_option maxRecDepth 100000 in
/-- There is no room: a new row. -/
theorem insert_grow {w : World} {base bu g cap : Nat} {u : Value} {L M : List En} {C : List Value} (hg : Slab w g C) (hCl : C.length = cap * 10) (hC : C.take (L.length * 10) = L.flatMap enCells) (hlc : L.length ≤ cap) (hu : EOwn w bu u M) (hb : base ≤ w.heap.size) (hl : L.length ≤ 100000) (hm : M.length ≤ 100000) (h0 : M.length ≠ 0) (i : Nat) (hi : i < L.length) (hno : cap < L.length + M.length) :
    Calls Tryz.prog 201 #[.slice (some ⟨g, 0, none⟩) L.length cap, .int .i64 i, u] w fun e w' => ∃ v', e = .returned v' ∧ EOwn w' base v' (L.take i ++ M ++ L.drop i) ∧ (∀ b, v'.ownBlock = some b → w.heap.size ≤ b) ∧ w.grownBy w' none := by
  obtain ⟨su, cu, hv2⟩ := OwnOf.form hu
  subst hv2
  obtain ⟨n, hn⟩ : ∃ n, L.length = n := ⟨_, rfl⟩
  obtain ⟨m, hm'⟩ : ∃ m, M.length = m := ⟨_, rfl⟩
  rw [hn] at hl hi hno hC hlc ⊢
  rw [hm'] at hm hu h0 hno ⊢
  have hz : ¬ ((m : Int) = 0) := by omega
  have hz2 : ¬ ((i : Int) = (n : Int)) := by omega
  have b1 : decide ((n : Int) + (m : Int) > (cap : Int)) = true := decide_eq_true (by omega)
  have hs0 := fun W => run_from W (some ⟨g, 0, none⟩) n cap i (by omega) hlc
  obtain ⟨p0, e0, -, -⟩ := sl_at g i n cap
  rw [e0] at hs0
  have hs1 := fun W => run_to W (some ⟨g, 0, none⟩) n cap i (by omega)
  obtain ⟨p1, e1, -, q1⟩ := sl_at g 0 i cap
  rw [e1, q1 (by omega)] at hs1
  simp only [Nat.zero_mul, Nat.sub_zero] at hs1
  obtain ⟨cc, D, hap, hcc1, hcc2, hD, hDi⟩ := grow_zeros hg hC (Nat.le_of_lt hi) hn hCl (n + m - i) (by omega) (by omega) (by omega)
  rw [show i + (n + m - i) = n + m by omega] at hcc1
  rw [show ((n + m - i : Nat) : Int) = (n : Int) + (m : Int) - (i : Int) by omega, show i + (n + m - i) = n + m by omega] at hap
  obtain ⟨w1, hw1⟩ : ∃ w1, w.drew.alloc (.cells D.toArray 50) = w1 := ⟨_, rfl⟩
  obtain ⟨G, hG⟩ : ∃ G, w.heap.size = G := ⟨_, rfl⟩
  simp only [hw1] at hap
  rw [hG] at hap
  have g1 : w.grownBy w1 none := by rw [← hw1]; exact grown_trans (grown_drew1 w) (World.grownBy_alloc _ _ _)
  have s1 : Slab w1 G D := by rw [← hw1, ← hG]; exact heap_alloc_new w.drew _
  have hgG : g < G := by rw [← hG]; exact hg.lt
  have gs : Slab w1 g C := hg.grow g1 (by simp)
  have hu1 := eown_grow0 hu g1
  -- the elements that are put in
  have hs2 := fun W => run_from W (some ⟨G, 0, none⟩) (n + m) cc i (by omega) hcc1
  obtain ⟨p2, e2, -, q2⟩ := sl_at G i (n + m) cc
  rw [e2, q2 (by omega)] at hs2
  have hMl : (M.flatMap enCells).length = m * 10 := by rw [flat_size, hm']
  have hcp1 := fun ty => run_copy10 w1 ty (some ⟨G, i * 10, none⟩) su (n + m - i) (cc - i) m cu m G (i * 10) D (M.flatMap enCells) (by simp only [Nat.min_def]; split <;> omega) hMl (fun h => ⟨rfl, row_src hu1 (by rw [hm']; exact h)⟩) s1 (by omega) (en_ones M)
  obtain ⟨w2, hw2⟩ : ∃ w2, w1.setRow G (putC D (i * 10) (M.flatMap enCells)).toArray = w2 := ⟨_, rfl⟩
  simp only [hw2] at hcp1
  have s2 : Slab w2 G (putC D (i * 10) (M.flatMap enCells)) := by rw [← hw2]; exact slab_put s1
  have g2 : w1.grownBy w2 (some G) := by rw [← hw2]; exact grown_put _ _ _
  have gs2 : Slab w2 g C := gs.grow g2 (by simp; omega)
  -- the rest behind them
  have hs3 : ∀ W, (Instr.slice 47 (.slice (some ⟨G, 0, none⟩) (n + m) cc) (some (.int .i64 ((i : Int) + (m : Int)))) none none).run Tryz.prog W = .ok (sliced (some ⟨G, 0, none⟩) (i + m) (n + m) cc 10) W := fun W => by
    have := run_from W (some ⟨G, 0, none⟩) (n + m) cc (i + m) (by omega) hcc1
    rwa [Int.natCast_add] at this
  obtain ⟨p3, e3, -, q3⟩ := sl_at G (i + m) (n + m) cc
  rw [e3, q3 (by omega)] at hs3
  obtain ⟨p4, e4, -, q4⟩ := sl_at g i n cap
  have hq4 := q4 (by omega)
  have hp0 : p0 = p4 := by rw [e0] at e4; injection e4 with z1 z2 z3; exact Option.some.inj z1
  subst hp0
  subst hq4
  have hPl : (putC D (i * 10) (M.flatMap enCells)).length = cc * 10 := by rw [putC_len (by omega), hD]
  have hDl : ((L.drop i).flatMap enCells).length = (n - i) * 10 := by rw [flat_size, List.length_drop, hn]
  have hcp2 := fun ty => run_copy10 w2.drew ty (some ⟨G, (i + m) * 10, none⟩) (some ⟨g, i * 10, none⟩) (n + m - (i + m)) (cc - (i + m)) (n - i) (cap - i) (n - i) G ((i + m) * 10) _ ((L.drop i).flatMap enCells) (by simp only [Nat.min_def]; split <;> omega) hDl
    (fun h => ⟨rfl, _, rfl, fun j v hj => by rw [Addr.add_mid]; exact Slab.cell (C := C) gs2 (slab_part hC hn i hj)⟩) s2 (by omega) (en_ones _)
  obtain ⟨E, hE⟩ : ∃ E, putC (putC D (i * 10) (M.flatMap enCells)) ((i + m) * 10) ((L.drop i).flatMap enCells) = E := ⟨_, rfl⟩
  rw [hE] at hcp2
  obtain ⟨w3, hw3⟩ : ∃ w3, w2.drew.setRow G E.toArray = w3 := ⟨_, rfl⟩
  simp only [hw3] at hcp2
  have s3 : Slab w3 G E := by rw [← hw3]; exact slab_put (w := w2.drew) s2
  have g3 : w2.grownBy w3 (some G) := by rw [← hw3]; exact grown_at' (grown_drew1 w2) (grown_put _ _ _)
  have hEl : E.length = cc * 10 := by rw [← hE, putC_len (by omega), hPl]
  have hlen : (L.take i ++ M ++ L.drop i).length = n + m := by simp; omega
  have hown : EOwn w3 base (.slice (some ⟨G, 0, none⟩) (n + m) cc) (L.take i ++ M ++ L.drop i) := by
    rw [← hlen]
    refine slab_own (by omega) s3 (by omega) hcc2 hEl (three_take (i := i) (m := m) (d := n - i) (by rw [List.length_take]; omega) hm' (by rw [List.length_drop, hn]) (fun j hj => ?_) (fun j hj => ?_) fun j hj => ?_)
    · rw [← hE, putC_get (by omega), if_pos (by omega), putC_get (by omega), if_pos hj]
      exact hDi j hj
    · rw [← hE, putC_get (by omega), if_pos (by omega), putC_get (by omega), if_neg (by omega), if_pos (by omega)]
      congr 1
      omega
    · rw [← hE, putC_get (by omega), if_neg (by omega), if_pos (by omega)]
      congr 1
      omega
  have hw1' : IntKind.i64.wrap ((i : Int) + (m : Int)) = (i : Int) + (m : Int) := by rw [IntKind.wrap_i64]; omega
  have hb1 : (0 : Int) ≤ (i : Int) + (m : Int) := by omega
  have hb3 : (i : Int) + (m : Int) ≤ (n : Int) + (m : Int) := by omega
  have htn : ((i : Int) + (m : Int)).toNat = i + m := by omega
  have hb2 : ¬ (cc = i + m) := by omega
  have HW := Lib.hid (grown_at (grown_at g1 g2 (by omega)) g3 (by omega))
  have HO := Lib.hid hown
  have HAP := Lib.hid hap
  have HC2 := Lib.hid hcp2
  clear hap hcp2 hown g1 s1 gs hu1 s2 g2 gs2 s3 g3 hg hC hu hE hw1 hw2 hw3 hEl hPl hDl hMl hD hDi hn hm' hlen e0 e1 e2 e3 e4 q1 q2 q3 q4
  go_enter Tryz.func201, Tryz.ntmps201
  go_wp2_with (at_builtin; refine Lib.wpList_append_run _ rfl _ _ _ _ rfl _ _ rfl rfl _ _ (HAP.out _) ?_)
  go_region_law (refine step_copyE rfl _ _ rfl _ _ (by simp [Act.eval, Act.put]) (by simp [Act.eval, Act.put]) (HC2.out _) ?_)
  go_wp2_with fail
  go_ret
  exact ⟨_, rfl, HO.out, fun b hb => by have e : G = b := Option.some.inj hb; omega, HW.out⟩
set_option maxHeartbeats 4000000 in
set_option maxRecDepth 100000 in
/-- There is room: the rest goes up. -/
theorem insert_shift {w : World} {base bu g cap : Nat} {u : Value} {L M : List En} {C : List Value} (hbg : base ≤ g) (hg : Slab w g C) (hCl : C.length = cap * 10) (hcm : cap ≤ maxLen) (hC : C.take (L.length * 10) = L.flatMap enCells) (hlc : L.length ≤ cap) (hu : EOwn w bu u M) (hne : u.ownBlock ≠ some g) (hl : L.length ≤ 100000) (hm : M.length ≤ 100000) (h0 : M.length ≠ 0) (i : Nat) (hi : i < L.length) (hno : L.length + M.length ≤ cap) :
    Calls Tryz.prog 201 #[.slice (some ⟨g, 0, none⟩) L.length cap, .int .i64 i, u] w fun e w' => ∃ v', e = .returned v' ∧ EOwn w' base v' (L.take i ++ M ++ L.drop i) ∧ (∀ b, v'.ownBlock = some b → b = g) ∧ w.grownBy w' (some g) := by
  rcases own_slab hu with ⟨-, hnil⟩ | ⟨h, cu, U, hv2, -, hh, -, -, -, -⟩
  · exact (h0 (by rw [hnil]; rfl)).elim
  subst hv2
  have hgh : h ≠ g := fun e => hne (by rw [e]; rfl)
  obtain ⟨n, hn⟩ : ∃ n, L.length = n := ⟨_, rfl⟩
  obtain ⟨m, hm'⟩ : ∃ m, M.length = m := ⟨_, rfl⟩
  rw [hn] at hl hi hno hC hlc ⊢
  rw [hm'] at hm hu h0 hno ⊢
  have hz : ¬ ((m : Int) = 0) := by omega
  have hz2 : ¬ ((i : Int) = (n : Int)) := by omega
  have b1 : decide ((n : Int) + (m : Int) > (cap : Int)) = false := decide_eq_false (by omega)
  have hs0 := fun W => run_from W (some ⟨g, 0, none⟩) n cap i (by omega) hlc
  obtain ⟨p0, e0, -, -⟩ := sl_at g i n cap
  rw [e0] at hs0
  -- s[:n+m]
  have hs1 : ∀ W, (Instr.slice 47 (.slice (some ⟨g, 0, none⟩) n cap) none (some (.int .i64 ((n : Int) + (m : Int)))) none).run Tryz.prog W = .ok (sliced (some ⟨g, 0, none⟩) 0 (n + m) cap 10) W := fun W => by
    have := run_to W (some ⟨g, 0, none⟩) n cap (n + m) hno
    rwa [Int.natCast_add] at this
  obtain ⟨p1, e1, -, q1⟩ := sl_at g 0 (n + m) cap
  rw [e1, q1 (by omega)] at hs1
  simp only [Nat.zero_mul, Nat.sub_zero] at hs1
  have hs3 : ∀ W, (Instr.slice 47 (.slice (some ⟨g, 0, none⟩) (n + m) cap) (some (.int .i64 ((i : Int) + (m : Int)))) none none).run Tryz.prog W = .ok (sliced (some ⟨g, 0, none⟩) (i + m) (n + m) cap 10) W := fun W => by
    have := run_from W (some ⟨g, 0, none⟩) (n + m) cap (i + m) (by omega) hno
    rwa [Int.natCast_add] at this
  obtain ⟨p3, e3, -, q3⟩ := sl_at g (i + m) (n + m) cap
  rw [e3, q3 (by omega)] at hs3
  have hs4 := fun W => run_from W (some ⟨g, 0, none⟩) (n + m) cap i (by omega) hno
  obtain ⟨p4, e4, -, q4⟩ := sl_at g i (n + m) cap
  rw [e4, q4 (by omega)] at hs4
  have hov := fun c d => overlaps_no (w := w) (n := m) (m := n + m - (i + m)) (c := c) (d := d) (p := ⟨h, 0, none⟩) (q := ⟨g, (i + m) * 10, none⟩) hh hg hgh rfl rfl (by omega) rfl
  have hMl : (M.flatMap enCells).length = m * 10 := by rw [flat_size, hm']
  have hDl : ((L.drop i).flatMap enCells).length = (n - i) * 10 := by rw [flat_size, List.length_drop, hn]
  have hcp1 := fun ty => run_copy10 w.drew ty (some ⟨g, (i + m) * 10, none⟩) (some ⟨g, i * 10, none⟩) (n + m - (i + m)) (cap - (i + m)) (n + m - i) (cap - i) (n - i) g ((i + m) * 10) C ((L.drop i).flatMap enCells) (by simp only [Nat.min_def]; split <;> omega) hDl
    (fun h => ⟨rfl, _, rfl, fun j v hj => by rw [Addr.add_mid]; exact Slab.cell (C := C) (w := w.drew) hg (slab_part hC hn i hj)⟩) hg (by omega) (en_ones _)
  obtain ⟨w2, hw2⟩ : ∃ w2, w.drew.setRow g (putC C ((i + m) * 10) ((L.drop i).flatMap enCells)).toArray = w2 := ⟨_, rfl⟩
  simp only [hw2] at hcp1
  have s2 : Slab w2 g (putC C ((i + m) * 10) ((L.drop i).flatMap enCells)) := by rw [← hw2]; exact slab_put (w := w.drew) hg
  have g2 : w.grownBy w2 (some g) := by rw [← hw2]; exact grown_at' (grown_drew1 w) (grown_put _ _ _)
  have hu2 : EOwn w2 bu (.slice (some ⟨h, 0, none⟩) m cu) M := eown_kept0 hu g2 (fun b hb e => hgh (by cases hb; cases e; rfl))
  have hPl : (putC C ((i + m) * 10) ((L.drop i).flatMap enCells)).length = cap * 10 := by rw [putC_len (by omega), hCl]
  have hcp2 := fun ty => run_copy10 w2 ty (some ⟨g, i * 10, none⟩) (some ⟨h, 0, none⟩) (n + m - i) (cap - i) m cu m g (i * 10) _ (M.flatMap enCells) (by simp only [Nat.min_def]; split <;> omega) hMl (fun h => ⟨rfl, row_src hu2 (by rw [hm']; exact h)⟩) s2 (by omega) (en_ones M)
  obtain ⟨E, hE⟩ : ∃ E, putC (putC C ((i + m) * 10) ((L.drop i).flatMap enCells)) (i * 10) (M.flatMap enCells) = E := ⟨_, rfl⟩
  rw [hE] at hcp2
  obtain ⟨w3, hw3⟩ : ∃ w3, w2.setRow g E.toArray = w3 := ⟨_, rfl⟩
  simp only [hw3] at hcp2
  have s3 : Slab w3 g E := by rw [← hw3]; exact slab_put s2
  have g3 : w2.grownBy w3 (some g) := by rw [← hw3]; exact grown_put _ _ _
  have hEl : E.length = cap * 10 := by rw [← hE, putC_len (by omega), hPl]
  have hlen : (L.take i ++ M ++ L.drop i).length = n + m := by simp; omega
  have hown : EOwn w3 base (.slice (some ⟨g, 0, none⟩) (n + m) cap) (L.take i ++ M ++ L.drop i) := by
    rw [← hlen]
    refine slab_own hbg s3 (by omega) hcm hEl (three_take (i := i) (m := m) (d := n - i) (by rw [List.length_take]; omega) hm' (by rw [List.length_drop, hn]) (fun j hj => ?_) (fun j hj => ?_) fun j hj => ?_)
    · rw [← hE, putC_get (by omega), if_pos hj, putC_get (by omega), if_pos (by omega)]
      exact take_get hC i j (by omega) hj
    · rw [← hE, putC_get (by omega), if_neg (by omega), if_pos (by omega)]
      congr 1
      omega
    · rw [← hE, putC_get (by omega), if_neg (by omega), if_neg (by omega), putC_get (by omega), if_neg (by omega), if_pos (by omega)]
      congr 1
      omega
  have hw1' : IntKind.i64.wrap ((i : Int) + (m : Int)) = (i : Int) + (m : Int) := by rw [IntKind.wrap_i64]; omega
  have hb1 : (0 : Int) ≤ (i : Int) + (m : Int) := by omega
  have hb3 : (i : Int) + (m : Int) ≤ (n : Int) + (m : Int) := by omega
  have htn : ((i : Int) + (m : Int)).toNat = i + m := by omega
  have hb2 : ¬ (cap = i + m) := by omega
  have hb4 : ¬ (cap = i) := by omega
  have hb5 : (i : Int) ≤ (n : Int) + (m : Int) := by omega
  have HW := Lib.hid (grown_trans g2 g3)
  have HO := Lib.hid hown
  have HC1 := Lib.hid hcp1
  clear hcp1 hown s2 g2 s3 g3 hu2 hu hg hC hE hw2 hw3 hEl hPl hDl hMl hn hm' hlen hh hcm hbg hne e0 e1 e3 e4 q1 q3 q4 hCl h0
  go_enter Tryz.func201, Tryz.ntmps201
  go_wp2_with (simp only [hov])
  go_region_law (refine step_copyE rfl _ _ rfl _ _ (by simp [Act.eval, Act.put]) (by simp [Act.eval, Act.put]) (HC1.out _) ?_)
  go_wp2_with fail
  go_ret
  exact ⟨_, rfl, HO.out, fun b hb => by have e : g = b := Option.some.inj hb; exact e.symm, HW.out⟩
end Go.Proofs.YtefiiooibbkffaaGreat

namespace Go.Proofs.YtefiiooibbkffaaGreat
open Go.ChangeShapes Go.WideShapes Go.ChangeAt Go.RowKit Go.Deep
set_option linter.unusedVariables false
set_option linter.unusedSimpArgs false
set_option maxHeartbeats 4000000 in
set_option maxRecDepth 100000 in
/-- There is no room: a new row. -/
theorem replace_grow {w : World} {base bu g cap : Nat} {u : Value} {L M : List En} {C : List Value} (hg : Slab w g C) (hCl : C.length = cap * 10) (hC : C.take (L.length * 10) = L.flatMap enCells) (hlc : L.length ≤ cap) (hu : EOwn w bu u M) (hb : base ≤ w.heap.size) (hl : L.length ≤ 100000) (hm : M.length ≤ 100000) (i j : Nat) (hij : i < j) (hj : j < L.length) (HNO : cap < i + M.length + (L.length - j)) :
    Calls Tryz.prog 186 #[.slice (some ⟨g, 0, none⟩) L.length cap, .int .i64 i, .int .i64 j, u] w fun e w' => ∃ v', e = .returned v' ∧ EOwn w' base v' (L.take i ++ M ++ L.drop j) ∧ (∀ b, v'.ownBlock = some b → w.heap.size ≤ b) ∧ w.grownBy w' none := by
  obtain ⟨su, cu, hv2⟩ := OwnOf.form hu
  subst hv2
  obtain ⟨n, hn⟩ : ∃ n, L.length = n := ⟨_, rfl⟩
  obtain ⟨m, hm'⟩ : ∃ m, M.length = m := ⟨_, rfl⟩
  rw [hn] at hl hj hC hlc ⊢
  try rw [hn] at HNO
  rw [hm'] at hm hu ⊢
  try rw [hm'] at HNO
  obtain ⟨d, hd⟩ : ∃ d, n - j = d := ⟨_, rfl⟩
  have hz : ¬ ((i : Int) = (j : Int)) := by omega
  have hz2 : ¬ ((j : Int) = (n : Int)) := by omega
  have hs0 := fun W => run_between W (some ⟨g, 0, none⟩) n cap i j (by omega) (by omega)
  obtain ⟨p0, e0, -, -⟩ := sl_at g i j cap
  rw [e0] at hs0
  have hs1 := fun W => run_to W (some ⟨g, 0, none⟩) n cap i (by omega)
  obtain ⟨p1, e1, -, q1⟩ := sl_at g 0 i cap
  rw [e1, q1 (by omega)] at hs1
  simp only [Nat.zero_mul, Nat.sub_zero] at hs1
  have hs4 := fun W => run_from W (some ⟨g, 0, none⟩) n cap j (by omega) hlc
  obtain ⟨p4, e4, -, q4⟩ := sl_at g j n cap
  rw [e4, q4 (by omega), hd] at hs4
  have hMl : (M.flatMap enCells).length = m * 10 := by rw [flat_size, hm']
  have hDl : ((L.drop j).flatMap enCells).length = d * 10 := by rw [flat_size, List.length_drop, hn, hd]
  have hlen : (L.take i ++ M ++ L.drop j).length = i + m + d := by simp; omega
  rw [hd] at HNO
  have b1 : decide ((i : Int) + (m : Int) + (d : Int) > (cap : Int)) = true := decide_eq_true (by omega)
  have hw1' : IntKind.i64.wrap ((i : Int) + (m : Int)) = (i : Int) + (m : Int) := by rw [IntKind.wrap_i64]; omega
  have hw2' : IntKind.i64.wrap ((i : Int) + (m : Int) + (d : Int)) = (i : Int) + (m : Int) + (d : Int) := by rw [IntKind.wrap_i64]; omega
  have ha1 : (0 : Int) ≤ (i : Int) + (m : Int) := by omega
  have ha2 : (i : Int) + (m : Int) ≤ (i : Int) + (m : Int) + (d : Int) := by omega
  have ha3 : ((i : Int) + (m : Int)).toNat = i + m := by omega
  have ha4 : ¬ (cap = i) := by omega
  have ha5 : ¬ (cap = j) := by omega
  have ha6 : (i : Int) ≤ (n : Int) := by omega
  have ha7 : (i : Int) ≤ (cap : Int) := by omega
  have ha8 : (j : Int) ≤ (n : Int) := by omega
  have ha9 : ¬ (cap = 0) := by omega
  have hd9 : d ≤ 100000 := by omega
  have hi9 : i ≤ 100000 := by omega
  have hj9 : j ≤ 100000 := by omega
  have HGq0 := Lib.hid hg
  have HCq := Lib.hid hC
  have HU := Lib.hid hu
  have HNn := Lib.hid hn
  have HNm := Lib.hid hm'
  have HLn := Lib.hid hlen
  have HD0 := Lib.hid hd
  have HMl := Lib.hid hMl
  have HDl := Lib.hid hDl
  have HCl := Lib.hid hCl
  have HG0 := Lib.hid hg
  clear hg hC hu hn hm' hlen hd hMl hDl hCl e0 e1 e4 q1 q4
  go_enter Tryz.func186, Tryz.ntmps186
  go_wp2_with fail
  go_quiet (fail)
  rename_i nq
  obtain ⟨wq, hwq⟩ : ∃ wq, w.drewN nq = wq := ⟨_, rfl⟩
  have gq : w.grownBy wq none := by rw [← hwq]; exact grown_draws w nq
  have HGq := Lib.hid (show Slab wq g C by rw [← hwq]; exact HGq0.out)
  rw [hwq]
  clear hwq
  have hn := HNn.out
  have hm' := HNm.out
  have hlen := HLn.out
  have hd := HD0.out
  have hMl := HMl.out
  have hDl := HDl.out
  have hCl := HCl.out
  obtain ⟨cc, D, hap, hcc1, hcc2, hD, hDi⟩ := grow_zeros (w := wq) HGq.out HCq.out (show i ≤ n by omega) HNn.out HCl.out (m + d) (by omega) (by omega) (by omega)
  rw [← Nat.add_assoc] at hcc1
  rw [show ((m + d : Nat) : Int) = (i : Int) + (m : Int) + (d : Int) - (i : Int) by omega, ← Nat.add_assoc] at hap
  obtain ⟨w1, hw1⟩ : ∃ w1, wq.drew.alloc (.cells D.toArray 50) = w1 := ⟨_, rfl⟩
  obtain ⟨G, hG⟩ : ∃ G, wq.heap.size = G := ⟨_, rfl⟩
  simp only [hw1] at hap
  rw [hG] at hap
  have g1 : w.grownBy w1 none := by rw [← hw1]; exact grown_trans gq (grown_trans (grown_drew1 _) (World.grownBy_alloc _ _ _))
  have s1 : Slab w1 G D := by rw [← hw1, ← hG]; exact heap_alloc_new wq.drew _
  have hgG : g < G := by rw [← hG]; exact HGq.out.lt
  have hwG : w.heap.size ≤ G := by rw [← hG]; exact gq.size
  have gs : Slab w1 g C := HG0.out.grow g1 (by simp)
  have hu1 := eown_grow0 HU.out g1
  have hs2 : ∀ W, (Instr.slice 47 (.slice (some ⟨G, 0, none⟩) (i + m + d) cc) (some (.int .i64 (i : Int))) none none).run Tryz.prog W = .ok (sliced (some ⟨G, 0, none⟩) i (i + m + d) cc 10) W := fun W => run_from W (some ⟨G, 0, none⟩) (i + m + d) cc i (by omega) hcc1
  obtain ⟨p2, e2, -, q2⟩ := sl_at G i (i + m + d) cc
  rw [e2, q2 (by omega)] at hs2
  have hcp1 := fun ty => run_copy10 w1 ty (some ⟨G, i * 10, none⟩) su (i + m + d - i) (cc - i) m cu m G (i * 10) D (M.flatMap enCells) (by simp only [Nat.min_def]; split <;> omega) HMl.out (fun h => ⟨rfl, row_src hu1 (by rw [HNm.out]; exact h)⟩) s1 (by omega) (en_ones M)
  obtain ⟨w2, hw2⟩ : ∃ w2, w1.setRow G (putC D (i * 10) (M.flatMap enCells)).toArray = w2 := ⟨_, rfl⟩
  simp only [hw2] at hcp1
  have s2 : Slab w2 G (putC D (i * 10) (M.flatMap enCells)) := by rw [← hw2]; exact slab_put s1
  have g2 : w1.grownBy w2 (some G) := by rw [← hw2]; exact grown_put _ _ _
  have gs2 : Slab w2 g C := gs.grow g2 (by simp; omega)
  have hs3 : ∀ W, (Instr.slice 47 (.slice (some ⟨G, 0, none⟩) (i + m + d) cc) (some (.int .i64 ((i : Int) + (m : Int)))) none none).run Tryz.prog W = .ok (sliced (some ⟨G, 0, none⟩) (i + m) (i + m + d) cc 10) W := fun W => by
    have := run_from W (some ⟨G, 0, none⟩) (i + m + d) cc (i + m) (by omega) hcc1
    rwa [Int.natCast_add] at this
  obtain ⟨p3, e3, -, q3⟩ := sl_at G (i + m) (i + m + d) cc
  rw [e3, q3 (by omega)] at hs3
  have hPl : (putC D (i * 10) (M.flatMap enCells)).length = cc * 10 := by rw [putC_len (by rw [HMl.out]; omega), hD]
  have hcp2 := fun ty => run_copy10 w2.drew ty (some ⟨G, (i + m) * 10, none⟩) (some ⟨g, j * 10, none⟩) (i + m + d - (i + m)) (cc - (i + m)) d (cap - j) d G ((i + m) * 10) _ ((L.drop j).flatMap enCells) (by simp only [Nat.min_def]; split <;> omega) HDl.out
    (fun h => ⟨rfl, _, rfl, fun q v hq => by rw [Addr.add_mid]; exact Slab.cell (C := C) gs2 (slab_part HCq.out HNn.out j hq)⟩) s2 (by omega) (en_ones _)
  obtain ⟨E, hE⟩ : ∃ E, putC (putC D (i * 10) (M.flatMap enCells)) ((i + m) * 10) ((L.drop j).flatMap enCells) = E := ⟨_, rfl⟩
  rw [hE] at hcp2
  obtain ⟨w3, hw3⟩ : ∃ w3, w2.drew.setRow G E.toArray = w3 := ⟨_, rfl⟩
  simp only [hw3] at hcp2
  have s3 : Slab w3 G E := by rw [← hw3]; exact slab_put (w := w2.drew) s2
  have g3 : w2.grownBy w3 (some G) := by rw [← hw3]; exact grown_at' (grown_drew1 w2) (grown_put _ _ _)
  have hEl : E.length = cc * 10 := by rw [← hE, putC_len (by rw [HDl.out]; omega), hPl]
  have hown : EOwn w3 base (.slice (some ⟨G, 0, none⟩) (i + m + d) cc) (L.take i ++ M ++ L.drop j) := by
    rw [← HLn.out]
    refine slab_own (by omega) s3 (by omega) hcc2 hEl (three_take (i := i) (m := m) (d := d) (by rw [List.length_take, HNn.out]; omega) HNm.out (by rw [List.length_drop, HNn.out, HD0.out]) (fun q hq => ?_) (fun q hq => ?_) fun q hq => ?_)
    · rw [← hE, putC_get (by first | omega | (rw [HMl.out]; omega) | (rw [HDl.out]; omega)), if_pos (by omega), putC_get (by first | omega | (rw [HMl.out]; omega) | (rw [HDl.out]; omega)), if_pos hq]
      exact hDi q hq
    · rw [← hE, putC_get (by first | omega | (rw [HMl.out]; omega) | (rw [HDl.out]; omega)), if_pos (by omega), putC_get (by first | omega | (rw [HMl.out]; omega) | (rw [HDl.out]; omega)), if_neg (by omega), if_pos (by omega)]
      congr 1
      omega
    · rw [← hE, putC_get (by first | omega | (rw [HMl.out]; omega) | (rw [HDl.out]; omega)), if_neg (by omega), if_pos (by omega)]
      congr 1
      omega
  have hb2 : ¬ (cc = i + m) := by omega
  have HW := Lib.hid (grown_at (grown_at g1 g2 (by omega)) g3 (by omega))
  have HO := Lib.hid hown
  have HAP := Lib.hid hap
  have HC2 := Lib.hid hcp2
  clear hap hcp2 hown g1 s1 gs hu1 s2 g2 gs2 s3 g3 hE hw1 hw2 hw3 hEl hPl hD hDi e2 e3 q2 q3 gq hn hm' hlen hd hMl hDl hCl
  go_wp2_with (at_builtin; refine Lib.wpList_append_run _ rfl _ _ _ _ rfl _ _ rfl rfl _ _ (HAP.out _) ?_)
  go_region_law (refine step_copyE rfl _ _ rfl _ _ (by simp [Act.eval, Act.put]) (by simp [Act.eval, Act.put]) (HC2.out _) ?_)
  go_wp2_with fail
  go_ret
  exact ⟨_, rfl, HO.out, fun b hb => by have e : G = b := Option.some.inj hb; omega, HW.out⟩

set_option maxHeartbeats 4000000 in
set_option maxRecDepth 100000 in
/-- What is put in is not longer than what goes: the rest goes down. -/
theorem replace_down {w : World} {base bu g cap : Nat} {u : Value} {L M : List En} {C : List Value} (hbg : base ≤ g) (hg : Slab w g C) (hCl : C.length = cap * 10) (hcm : cap ≤ maxLen) (hC : C.take (L.length * 10) = L.flatMap enCells) (hlc : L.length ≤ cap) (hu : EOwn w bu u M) (hne : u.ownBlock ≠ some g) (hl : L.length ≤ 100000) (hm : M.length ≤ 100000) (i j : Nat) (hij : i < j) (hj : j < L.length) (HNO : i + M.length ≤ j) :
    Calls Tryz.prog 186 #[.slice (some ⟨g, 0, none⟩) L.length cap, .int .i64 i, .int .i64 j, u] w fun e w' => ∃ v', e = .returned v' ∧ EOwn w' base v' (L.take i ++ M ++ L.drop j) ∧ (∀ b, v'.ownBlock = some b → b = g) ∧ w.grownBy w' (some g) := by
  obtain ⟨su, cu, hv2⟩ := OwnOf.form hu
  subst hv2
  obtain ⟨n, hn⟩ : ∃ n, L.length = n := ⟨_, rfl⟩
  obtain ⟨m, hm'⟩ : ∃ m, M.length = m := ⟨_, rfl⟩
  rw [hn] at hl hj hC hlc ⊢
  try rw [hn] at HNO
  rw [hm'] at hm hu ⊢
  try rw [hm'] at HNO
  obtain ⟨d, hd⟩ : ∃ d, n - j = d := ⟨_, rfl⟩
  have hz : ¬ ((i : Int) = (j : Int)) := by omega
  have hz2 : ¬ ((j : Int) = (n : Int)) := by omega
  have hs0 := fun W => run_between W (some ⟨g, 0, none⟩) n cap i j (by omega) (by omega)
  obtain ⟨p0, e0, -, -⟩ := sl_at g i j cap
  rw [e0] at hs0
  have hs1 := fun W => run_to W (some ⟨g, 0, none⟩) n cap i (by omega)
  obtain ⟨p1, e1, -, q1⟩ := sl_at g 0 i cap
  rw [e1, q1 (by omega)] at hs1
  simp only [Nat.zero_mul, Nat.sub_zero] at hs1
  have hs4 := fun W => run_from W (some ⟨g, 0, none⟩) n cap j (by omega) hlc
  obtain ⟨p4, e4, -, q4⟩ := sl_at g j n cap
  rw [e4, q4 (by omega), hd] at hs4
  have hMl : (M.flatMap enCells).length = m * 10 := by rw [flat_size, hm']
  have hDl : ((L.drop j).flatMap enCells).length = d * 10 := by rw [flat_size, List.length_drop, hn, hd]
  have hlen : (L.take i ++ M ++ L.drop j).length = i + m + d := by simp; omega
  have b1 : decide ((i : Int) + (m : Int) + (d : Int) > (cap : Int)) = false := decide_eq_false (by omega)
  have b2 : decide ((i : Int) + (m : Int) ≤ (j : Int)) = true := decide_eq_true (by omega)
  have hT : i + m + d ≤ n := by omega
  have hs5 : ∀ W, (Instr.slice 47 (.slice (some ⟨g, 0, none⟩) n cap) none (some (.int .i64 ((i : Int) + (m : Int) + (d : Int)))) none).run Tryz.prog W = .ok (.slice (some ⟨g, 0, none⟩) (i + m + d) cap) W := fun W => by
    have := run_to W (some ⟨g, 0, none⟩) n cap (i + m + d) (by omega)
    obtain ⟨p, e, -, q⟩ := sl_at g 0 (i + m + d) cap
    rw [e, q (by omega)] at this
    simp only [Int.natCast_add, Nat.zero_mul, Nat.sub_zero] at this
    exact this
  have hw1' : IntKind.i64.wrap ((i : Int) + (m : Int)) = (i : Int) + (m : Int) := by rw [IntKind.wrap_i64]; omega
  have hw2' : IntKind.i64.wrap ((i : Int) + (m : Int) + (d : Int)) = (i : Int) + (m : Int) + (d : Int) := by rw [IntKind.wrap_i64]; omega
  have ha1 : (0 : Int) ≤ (i : Int) + (m : Int) := by omega
  have ha2 : (i : Int) + (m : Int) ≤ (i : Int) + (m : Int) + (d : Int) := by omega
  have ha3 : ((i : Int) + (m : Int)).toNat = i + m := by omega
  have ha4 : ¬ (cap = i) := by omega
  have ha5 : ¬ (cap = j) := by omega
  have ha6 : (i : Int) ≤ (n : Int) := by omega
  have ha7 : (i : Int) ≤ (cap : Int) := by omega
  have ha8 : (j : Int) ≤ (n : Int) := by omega
  have ha9 : ¬ (cap = 0) := by omega
  have hd9 : d ≤ 100000 := by omega
  have hi9 : i ≤ 100000 := by omega
  have hj9 : j ≤ 100000 := by omega
  have HNE := Lib.hid hne
  have HGq0 := Lib.hid hg
  have HCq := Lib.hid hC
  have HU := Lib.hid hu
  have HNn := Lib.hid hn
  have HNm := Lib.hid hm'
  have HLn := Lib.hid hlen
  have HD0 := Lib.hid hd
  have HMl := Lib.hid hMl
  have HDl := Lib.hid hDl
  have HCl := Lib.hid hCl
  clear hg hC hu hn hm' hlen hd hMl hDl hCl e0 e1 e4 q1 q4
  go_enter Tryz.func186, Tryz.ntmps186
  go_wp2_with fail
  go_quiet (fail)
  rename_i nq
  obtain ⟨wq, hwq⟩ : ∃ wq, w.drewN nq = wq := ⟨_, rfl⟩
  have gq : w.grownBy wq none := by rw [← hwq]; exact grown_draws w nq
  have hg : Slab wq g C := by rw [← hwq]; exact HGq0.out
  rw [hwq]
  clear hwq
  have hn := HNn.out
  have hm' := HNm.out
  have hlen := HLn.out
  have hd := HD0.out
  have hMl := HMl.out
  have hDl := HDl.out
  have hCl := HCl.out
  have hC := HCq.out
  -- the elements that are put in
  have hs2 := fun W => run_from W (some ⟨g, 0, none⟩) (i + m + d) cap i (by omega) (by omega)
  obtain ⟨p2, e2, -, q2⟩ := sl_at g i (i + m + d) cap
  rw [e2, q2 (by omega)] at hs2
  have hu1 := eown_grow0 HU.out gq
  have hcp1 := fun ty => run_copy10 wq ty (some ⟨g, i * 10, none⟩) su (i + m + d - i) (cap - i) m cu m g (i * 10) C (M.flatMap enCells) (by simp only [Nat.min_def]; split <;> omega) hMl (fun h => ⟨rfl, row_src hu1 (by rw [hm']; exact h)⟩) hg (by omega) (en_ones M)
  obtain ⟨w2, hw2⟩ : ∃ w2, wq.setRow g (putC C (i * 10) (M.flatMap enCells)).toArray = w2 := ⟨_, rfl⟩
  simp only [hw2] at hcp1
  have s2 : Slab w2 g (putC C (i * 10) (M.flatMap enCells)) := by rw [← hw2]; exact slab_put hg
  have g2 : wq.grownBy w2 (some g) := by rw [← hw2]; exact grown_put _ _ _
  have hPl : (putC C (i * 10) (M.flatMap enCells)).length = cap * 10 := by rw [putC_len (by omega), hCl]
  -- the rest behind them
  have hs3 : ∀ W, (Instr.slice 47 (.slice (some ⟨g, 0, none⟩) (i + m + d) cap) (some (.int .i64 ((i : Int) + (m : Int)))) none none).run Tryz.prog W = .ok (sliced (some ⟨g, 0, none⟩) (i + m) (i + m + d) cap 10) W := fun W => by
    have := run_from W (some ⟨g, 0, none⟩) (i + m + d) cap (i + m) (by omega) (by omega)
    rwa [Int.natCast_add] at this
  obtain ⟨p3, e3, -, q3⟩ := sl_at g (i + m) (i + m + d) cap
  rw [e3, q3 (by omega)] at hs3
  have hsrc : ∀ (q : Nat) v, ((L.drop j).flatMap enCells)[q]? = some v → (putC C (i * 10) (M.flatMap enCells))[j * 10 + q]? = some v := fun q v hq => by
    rw [putC_get (by omega), if_neg (by omega), if_neg (by omega)]
    exact slab_part hC hn j hq
  have hcp2 := fun ty => run_copy10 w2.drew ty (some ⟨g, (i + m) * 10, none⟩) (some ⟨g, j * 10, none⟩) (i + m + d - (i + m)) (cap - (i + m)) d (cap - j) d g ((i + m) * 10) _ ((L.drop j).flatMap enCells) (by simp only [Nat.min_def]; split <;> omega) hDl
    (fun h => ⟨rfl, _, rfl, fun q v hq => by rw [Addr.add_mid]; exact Slab.cell (w := w2.drew) s2 (hsrc q v hq)⟩) s2 (by omega) (en_ones _)
  obtain ⟨E, hE⟩ : ∃ E, putC (putC C (i * 10) (M.flatMap enCells)) ((i + m) * 10) ((L.drop j).flatMap enCells) = E := ⟨_, rfl⟩
  rw [hE] at hcp2
  obtain ⟨w3, hw3⟩ : ∃ w3, w2.drew.setRow g E.toArray = w3 := ⟨_, rfl⟩
  simp only [hw3] at hcp2
  have s3 : Slab w3 g E := by rw [← hw3]; exact slab_put (w := w2.drew) s2
  have g3 : w2.grownBy w3 (some g) := by rw [← hw3]; exact grown_at' (grown_drew1 w2) (grown_put _ _ _)
  have hEl : E.length = cap * 10 := by rw [← hE, putC_len (by omega), hPl]
  -- what is behind is cleared
  have hs6 : ∀ W, (Instr.slice 47 (.slice (some ⟨g, 0, none⟩) n cap) (some (.int .i64 ((i : Int) + (m : Int) + (d : Int)))) none none).run Tryz.prog W = .ok (sliced (some ⟨g, 0, none⟩) (i + m + d) n cap 10) W := fun W => by
    have := run_from W (some ⟨g, 0, none⟩) n cap (i + m + d) (by omega) (by omega)
    simp only [Int.natCast_add] at this
    exact this
  obtain ⟨p6, e6, -, q6⟩ := sl_at g (i + m + d) n cap
  rw [e6] at hs6
  have hcl := fun ty => run_clear10 w3 ty (some p6) (n - (i + m + d)) (cap - (i + m + d)) g ((i + m + d) * 10) E (fun h => by rw [q6 (by omega)]) s3 (by omega)
  obtain ⟨E2, hE2⟩ : ∃ E2, putC E ((i + m + d) * 10) (zerosC (n - (i + m + d))) = E2 := ⟨_, rfl⟩
  rw [hE2] at hcl
  obtain ⟨w4, hw4⟩ : ∃ w4, w3.setRow g E2.toArray = w4 := ⟨_, rfl⟩
  simp only [hw4] at hcl
  have s4 : Slab w4 g E2 := by rw [← hw4]; exact slab_put s3
  have g4 : w3.grownBy w4 (some g) := by rw [← hw4]; exact grown_put _ _ _
  have hzl := zerosC_len (n - (i + m + d))
  have hE2l : E2.length = cap * 10 := by rw [← hE2, putC_len (by omega), hEl]
  have hbe : ∀ q, q < (i + m + d) * 10 → E2[q]? = E[q]? := fun q hq => by rw [← hE2, putC_get (by omega), if_pos hq]
  have hown : EOwn w4 base (.slice (some ⟨g, 0, none⟩) (i + m + d) cap) (L.take i ++ M ++ L.drop j) := by
    rw [← hlen]
    refine slab_own hbg s4 (by omega) hcm hE2l (three_take (i := i) (m := m) (d := d) (by rw [List.length_take]; omega) hm' (by rw [List.length_drop, hn, hd]) (fun q hq => ?_) (fun q hq => ?_) fun q hq => ?_)
    · rw [hbe q (by omega), ← hE, putC_get (by omega), if_pos (by omega), putC_get (by omega), if_pos hq]
      exact take_get hC i q (by omega) hq
    · rw [hbe _ (by omega), ← hE, putC_get (by omega), if_pos (by omega), putC_get (by omega), if_neg (by omega), if_pos (by omega)]
      congr 1
      omega
    · rw [hbe _ (by omega), ← hE, putC_get (by omega), if_neg (by omega), if_pos (by omega)]
      congr 1
      omega
  have hb2 : ¬ (cap = i + m) := by omega
  have HW := Lib.hid (grown_trans (grown_none gq) (grown_trans (grown_trans g2 g3) g4))
  have HO := Lib.hid hown
  have HC2 := Lib.hid hcp2
  clear hcp2 hown hu1 s2 g2 s3 g3 s4 g4 hE hE2 hw2 hw3 hw4 hEl hE2l hPl hzl hbe hsrc e2 e3 e6 q2 q3 q6 gq hn hm' hlen hd hMl hDl hCl hC hg
  go_wp2_with fail
  go_region_law (refine step_copyE rfl _ _ rfl _ _ (by simp [Act.eval, Act.put]) (by simp [Act.eval, Act.put]) (HC2.out _) ?_)
  go_wp2_with fail
  go_ret
  exact ⟨_, rfl, HO.out, fun b hb => by have e : g = b := Option.some.inj hb; exact e.symm, HW.out⟩

set_option maxHeartbeats 4000000 in
set_option maxRecDepth 100000 in
/-- What is put in is longer than what goes: the rest goes up. -/
theorem replace_up {w : World} {base bu g cap : Nat} {u : Value} {L M : List En} {C : List Value} (hbg : base ≤ g) (hg : Slab w g C) (hCl : C.length = cap * 10) (hcm : cap ≤ maxLen) (hC : C.take (L.length * 10) = L.flatMap enCells) (hlc : L.length ≤ cap) (hu : EOwn w bu u M) (hne : u.ownBlock ≠ some g) (hl : L.length ≤ 100000) (hm : M.length ≤ 100000) (i j : Nat) (hij : i < j) (hj : j < L.length) (HNO : j < i + M.length ∧ i + M.length + (L.length - j) ≤ cap) :
    Calls Tryz.prog 186 #[.slice (some ⟨g, 0, none⟩) L.length cap, .int .i64 i, .int .i64 j, u] w fun e w' => ∃ v', e = .returned v' ∧ EOwn w' base v' (L.take i ++ M ++ L.drop j) ∧ (∀ b, v'.ownBlock = some b → b = g) ∧ w.grownBy w' (some g) := by
  rcases own_slab hu with ⟨-, hnil⟩ | ⟨h, cu, U, hv2, -, hh, hmu, -, hUl, -⟩
  · rw [hnil] at HNO
    simp only [List.length_nil] at HNO
    omega
  subst hv2
  have hgh : h ≠ g := fun e => hne (by rw [e]; rfl)
  obtain ⟨n, hn⟩ : ∃ n, L.length = n := ⟨_, rfl⟩
  obtain ⟨m, hm'⟩ : ∃ m, M.length = m := ⟨_, rfl⟩
  rw [hn] at hl hj hC hlc ⊢
  try rw [hn] at HNO
  rw [hm'] at hm hu ⊢
  try rw [hm'] at HNO
  obtain ⟨d, hd⟩ : ∃ d, n - j = d := ⟨_, rfl⟩
  have hz : ¬ ((i : Int) = (j : Int)) := by omega
  have hz2 : ¬ ((j : Int) = (n : Int)) := by omega
  have hs0 := fun W => run_between W (some ⟨g, 0, none⟩) n cap i j (by omega) (by omega)
  obtain ⟨p0, e0, -, -⟩ := sl_at g i j cap
  rw [e0] at hs0
  have hs1 := fun W => run_to W (some ⟨g, 0, none⟩) n cap i (by omega)
  obtain ⟨p1, e1, -, q1⟩ := sl_at g 0 i cap
  rw [e1, q1 (by omega)] at hs1
  simp only [Nat.zero_mul, Nat.sub_zero] at hs1
  have hs4 := fun W => run_from W (some ⟨g, 0, none⟩) n cap j (by omega) hlc
  obtain ⟨p4, e4, -, q4⟩ := sl_at g j n cap
  rw [e4, q4 (by omega), hd] at hs4
  have hMl : (M.flatMap enCells).length = m * 10 := by rw [flat_size, hm']
  have hDl : ((L.drop j).flatMap enCells).length = d * 10 := by rw [flat_size, List.length_drop, hn, hd]
  have hlen : (L.take i ++ M ++ L.drop j).length = i + m + d := by simp; omega
  rw [hm'] at hmu
  rw [hd] at HNO
  have b1 : decide ((i : Int) + (m : Int) + (d : Int) > (cap : Int)) = false := decide_eq_false (by omega)
  have b2 : decide ((i : Int) + (m : Int) ≤ (j : Int)) = false := decide_eq_false (by omega)
  have hs5 : ∀ W, (Instr.slice 47 (.slice (some ⟨g, 0, none⟩) n cap) none (some (.int .i64 ((i : Int) + (m : Int) + (d : Int)))) none).run Tryz.prog W = .ok (.slice (some ⟨g, 0, none⟩) (i + m + d) cap) W := fun W => by
    have := run_to W (some ⟨g, 0, none⟩) n cap (i + m + d) (by omega)
    obtain ⟨p, e, -, q⟩ := sl_at g 0 (i + m + d) cap
    rw [e, q (by omega)] at this
    simp only [Int.natCast_add, Nat.zero_mul, Nat.sub_zero] at this
    exact this
  have HHh := Lib.hid hh
  have hw1' : IntKind.i64.wrap ((i : Int) + (m : Int)) = (i : Int) + (m : Int) := by rw [IntKind.wrap_i64]; omega
  have hw2' : IntKind.i64.wrap ((i : Int) + (m : Int) + (d : Int)) = (i : Int) + (m : Int) + (d : Int) := by rw [IntKind.wrap_i64]; omega
  have ha1 : (0 : Int) ≤ (i : Int) + (m : Int) := by omega
  have ha2 : (i : Int) + (m : Int) ≤ (i : Int) + (m : Int) + (d : Int) := by omega
  have ha3 : ((i : Int) + (m : Int)).toNat = i + m := by omega
  have ha4 : ¬ (cap = i) := by omega
  have ha5 : ¬ (cap = j) := by omega
  have ha6 : (i : Int) ≤ (n : Int) := by omega
  have ha7 : (i : Int) ≤ (cap : Int) := by omega
  have ha8 : (j : Int) ≤ (n : Int) := by omega
  have ha9 : ¬ (cap = 0) := by omega
  have hd9 : d ≤ 100000 := by omega
  have hi9 : i ≤ 100000 := by omega
  have hj9 : j ≤ 100000 := by omega
  have HUl := Lib.hid hUl
  have HNE := Lib.hid hne
  clear hh hUl hne
  have HGq0 := Lib.hid hg
  have HCq := Lib.hid hC
  have HU := Lib.hid hu
  have HNn := Lib.hid hn
  have HNm := Lib.hid hm'
  have HLn := Lib.hid hlen
  have HD0 := Lib.hid hd
  have HMl := Lib.hid hMl
  have HDl := Lib.hid hDl
  have HCl := Lib.hid hCl
  clear hg hC hu hn hm' hlen hd hMl hDl hCl e0 e1 e4 q1 q4
  go_enter Tryz.func186, Tryz.ntmps186
  go_wp2_with fail
  go_quiet (fail)
  rename_i nq
  obtain ⟨wq, hwq⟩ : ∃ wq, w.drewN nq = wq := ⟨_, rfl⟩
  have gq : w.grownBy wq none := by rw [← hwq]; exact grown_draws w nq
  have hg : Slab wq g C := by rw [← hwq]; exact HGq0.out
  rw [hwq]
  clear hwq
  have hn := HNn.out
  have hm' := HNm.out
  have hlen := HLn.out
  have hd := HD0.out
  have hMl := HMl.out
  have hDl := HDl.out
  have hCl := HCl.out
  have hC := HCq.out
  have hs3 : ∀ W, (Instr.slice 47 (.slice (some ⟨g, 0, none⟩) (i + m + d) cap) (some (.int .i64 ((i : Int) + (m : Int)))) none none).run Tryz.prog W = .ok (sliced (some ⟨g, 0, none⟩) (i + m) (i + m + d) cap 10) W := fun W => by
    have := run_from W (some ⟨g, 0, none⟩) (i + m + d) cap (i + m) (by omega) (by omega)
    rwa [Int.natCast_add] at this
  obtain ⟨p3, e3, -, q3⟩ := sl_at g (i + m) (i + m + d) cap
  rw [e3, q3 (by omega), show i + m + d - (i + m) = d by omega] at hs3
  have hov := fun c x => overlaps_no (w := wq) (n := d) (m := m) (c := c) (d := x) (p := ⟨g, (i + m) * 10, none⟩) (q := ⟨h, 0, none⟩) hg (HHh.out.grow gq (by simp)) (fun e => hgh e.symm) rfl rfl (by rw [HUl.out]; omega) rfl
  have hcp2 := fun ty => run_copy10 wq.drew ty (some ⟨g, (i + m) * 10, none⟩) (some ⟨g, j * 10, none⟩) d (cap - (i + m)) d (cap - j) d g ((i + m) * 10) C ((L.drop j).flatMap enCells) (by simp only [Nat.min_def]; split <;> omega) hDl
    (fun h => ⟨rfl, _, rfl, fun q v hq => by rw [Addr.add_mid]; exact Slab.cell (C := C) (w := wq.drew) hg (slab_part hC hn j hq)⟩) hg (by omega) (en_ones _)
  obtain ⟨w2, hw2⟩ : ∃ w2, wq.drew.setRow g (putC C ((i + m) * 10) ((L.drop j).flatMap enCells)).toArray = w2 := ⟨_, rfl⟩
  simp only [hw2] at hcp2
  have s2 : Slab w2 g (putC C ((i + m) * 10) ((L.drop j).flatMap enCells)) := by rw [← hw2]; exact slab_put (w := wq.drew) hg
  have g2 : wq.grownBy w2 (some g) := by rw [← hw2]; exact grown_at' (grown_drew1 wq) (grown_put _ _ _)
  have hu2 : EOwn w2 bu (.slice (some ⟨h, 0, none⟩) m cu) M := eown_kept0 (eown_grow0 HU.out gq) g2 (fun b hb e => hgh (by cases hb; cases e; rfl))
  have hPl : (putC C ((i + m) * 10) ((L.drop j).flatMap enCells)).length = cap * 10 := by rw [putC_len (by omega), hCl]
  have hs2 := fun W => run_from W (some ⟨g, 0, none⟩) (i + m + d) cap i (by omega) (by omega)
  obtain ⟨p2, e2, -, q2⟩ := sl_at g i (i + m + d) cap
  rw [e2, q2 (by omega)] at hs2
  have hcp1 := fun ty => run_copy10 w2 ty (some ⟨g, i * 10, none⟩) (some ⟨h, 0, none⟩) (i + m + d - i) (cap - i) m cu m g (i * 10) _ (M.flatMap enCells) (by simp only [Nat.min_def]; split <;> omega) hMl (fun h => ⟨rfl, row_src hu2 (by rw [hm']; exact h)⟩) s2 (by omega) (en_ones M)
  obtain ⟨E, hE⟩ : ∃ E, putC (putC C ((i + m) * 10) ((L.drop j).flatMap enCells)) (i * 10) (M.flatMap enCells) = E := ⟨_, rfl⟩
  rw [hE] at hcp1
  obtain ⟨w3, hw3⟩ : ∃ w3, w2.setRow g E.toArray = w3 := ⟨_, rfl⟩
  simp only [hw3] at hcp1
  have s3 : Slab w3 g E := by rw [← hw3]; exact slab_put s2
  have g3 : w2.grownBy w3 (some g) := by rw [← hw3]; exact grown_put _ _ _
  have hEl : E.length = cap * 10 := by rw [← hE, putC_len (by omega), hPl]
  have hown : EOwn w3 base (.slice (some ⟨g, 0, none⟩) (i + m + d) cap) (L.take i ++ M ++ L.drop j) := by
    rw [← hlen]
    refine slab_own hbg s3 (by omega) hcm hEl (three_take (i := i) (m := m) (d := d) (by rw [List.length_take]; omega) hm' (by rw [List.length_drop, hn, hd]) (fun q hq => ?_) (fun q hq => ?_) fun q hq => ?_)
    · rw [← hE, putC_get (by omega), if_pos hq, putC_get (by omega), if_pos (by omega)]
      exact take_get hC i q (by omega) hq
    · rw [← hE, putC_get (by omega), if_neg (by omega), if_pos (by omega)]
      congr 1
      omega
    · rw [← hE, putC_get (by omega), if_neg (by omega), if_neg (by omega), putC_get (by omega), if_neg (by omega), if_pos (by omega)]
      congr 1
      omega
  have hb2 : ¬ (cap = i + m) := by omega
  have HW := Lib.hid (grown_trans (grown_none gq) (grown_trans g2 g3))
  have HO := Lib.hid hown
  have HC2 := Lib.hid hcp2
  clear hcp2 hown hu2 s2 g2 s3 g3 hE hw2 hw3 hEl hPl e2 e3 q2 q3 gq hn hm' hlen hd hMl hDl hCl hC hg
  go_wp2_with (simp only [hov])
  go_region_law (refine step_copyE rfl _ _ rfl _ _ (by simp [Act.eval, Act.put]) (by simp [Act.eval, Act.put]) (HC2.out _) ?_)
  go_wp2_with fail
  go_ret
  exact ⟨_, rfl, HO.out, fun b hb => by have e : g = b := Option.some.inj hb; exact e.symm, HW.out⟩
end Go.Proofs.YtefiiooibbkffaaGreat

namespace Go.Proofs.YtefiiooibbkffaaGreat
open Go.ChangeShapes Go.WideShapes Go.ChangeAt Go.RowKit Go.Deep
set_option linter.unusedVariables false
set_option linter.unusedSimpArgs false

theorem own_take {w : World} {base g cap : Nat} {C : List Value} {L : List En} (hbg : base ≤ g) (hg : Slab w g C) (hCl : C.length = cap * 10) (hcm : cap ≤ maxLen) (hC : C.take (L.length * 10) = L.flatMap enCells) (hlc : L.length ≤ cap) {i : Nat} (hi : i ≤ L.length) : EOwn w base (.slice (some ⟨g, 0, none⟩) i cap) (L.take i) := by
  have hl : (L.take i).length = i := by rw [List.length_take]; omega
  have := slab_own (w := w) (base := base) (L := L.take i) hbg hg (by omega) hcm hCl (by rw [hl, ens_take, ← hC, List.take_take, Nat.min_eq_left (by omega)])
  rwa [hl] at this
set_option maxRecDepth 100000 in
/-- 'append(s[:i], m...)' where there is room. -/
theorem run_append10 {w : World} {g i cap m cu bu : Nat} {su : Option Addr} {C : List Value} {M : List En} (hg : Slab w g C) (hCl : C.length = cap * 10) (hu : EOwn w bu (.slice su m cu) M) (hm : M.length = m) (hroom : i + m ≤ cap) (ty : TypeId) :
    (Builtin.append_ #[47, 47] ty #[.slice (some ⟨g, 0, none⟩) i cap, .slice su m cu]).run Tryz.prog w = .ok (.slice (some ⟨g, 0, none⟩) (i + m) cap) (w.setRow g (putC C (i * 10) (M.flatMap enCells)).toArray) := by
  obtain ⟨i0, hi, hz0, hz1, hz2⟩ := en_info
  have hMl : (M.flatMap enCells).length = m * 10 := by rw [flat_size, hm]
  rcases erow_cases (eown_row hu) with ⟨e, h0⟩ | ⟨ad, c', e, hc⟩
  · injection e with e1 e2 e3
    subst e1 e2 e3 h0
    have e4 : putC C (i * 10) [] = C := by unfold putC; simp
    rw [show (List.flatMap enCells ([] : List En)) = [] from rfl, e4, setRow_self w g _ _ _ hg]
    have hl0 : (loadCells (⟨g, 0, none⟩ : Addr) 0).run Tryz.prog w = .ok #[] w := load_nothing w _
    have hu' : Tryz.prog.underlying 47 = some (.slice 50) := Tryz.underlying47
    have hic : i ≤ cap := by omega
    simp [Builtin.append_, run_underlying hu', sizeOf, typeInfo, hi, hz1, Builtin.lenOf, Builtin.firstCells, hic, storeCells]
  · injection e with e1 e2 e3
    subst e1
    have hr := run_append_room (P := Tryz.prog) w 47 ty 50 i0 Tryz.underlying47 hi g i cap C.toArray hg ad m cu (M.flatMap enCells) (by rw [hMl, hz1]) hc (en_ones M) hroom (by rw [hz1, hMl]; simp; omega)
    rw [hr, hz1]
    unfold putC
    simp
set_option maxHeartbeats 4000000 in
set_option maxRecDepth 100000 in
/-- All from one place on goes, and as much, or more, is put in. -/
theorem replace_end_long {w : World} {base bu g cap : Nat} {u : Value} {L M : List En} {C : List Value} (hb : base ≤ w.heap.size) (hbg : base ≤ g) (hg : Slab w g C) (hCl : C.length = cap * 10) (hcm : cap ≤ maxLen) (hC : C.take (L.length * 10) = L.flatMap enCells) (hlc : L.length ≤ cap) (hu : EOwn w bu u M) (hl : L.length ≤ 100000) (hm : M.length ≤ 100000) (i : Nat) (hi : i < L.length) (HNO : L.length ≤ i + M.length) :
    Calls Tryz.prog 186 #[.slice (some ⟨g, 0, none⟩) L.length cap, .int .i64 i, .int .i64 L.length, u] w fun e w' => ∃ v', e = .returned v' ∧ EOwn w' base v' (L.take i ++ M) ∧ New w (.slice (some ⟨g, 0, none⟩) L.length cap) v' ∧ w.grownBy w' (some g) := by
  have HT := Lib.hid (own_take hbg hg hCl hcm hC hlc (Nat.le_of_lt hi))
  have HU := Lib.hid hu
  obtain ⟨su, cu, hv2⟩ := OwnOf.form hu
  subst hv2
  obtain ⟨n, hn⟩ : ∃ n, L.length = n := ⟨_, rfl⟩
  obtain ⟨m, hm'⟩ : ∃ m, M.length = m := ⟨_, rfl⟩
  have hAM : (L.take i ++ M).length = i + m := by rw [List.length_append, List.length_take]; omega
  have HTl := Lib.hid (show (L.take i).length + M.length ≤ 1000000 by rw [List.length_take]; omega)
  rw [hn] at hl hi hlc HNO ⊢
  rw [hm'] at hm HNO HU ⊢
  obtain ⟨q, hq⟩ : ∃ q, i + m = q := ⟨_, rfl⟩
  rw [hq] at hAM
  have HAM := Lib.hid hAM
  have hz : ¬ ((i : Int) = (n : Int)) := by omega
  have b1 : ¬ (q < n) := by omega
  have hs0 := fun W => run_between W (some ⟨g, 0, none⟩) n cap i n (by omega) (by omega)
  obtain ⟨p0, e0, -, -⟩ := sl_at g i n cap
  rw [e0] at hs0
  have hs1 := fun W => run_to W (some ⟨g, 0, none⟩) n cap i (by omega)
  obtain ⟨p1, e1, -, q1⟩ := sl_at g 0 i cap
  rw [e1, q1 (by omega)] at hs1
  simp only [Nat.zero_mul, Nat.sub_zero] at hs1
  clear hg hC hu hn hm' hAM e0 e1 q1 hq hCl hcm
  go_enter Tryz.func186, Tryz.ntmps186
  go_wp2_with (at_builtin; refine wpList_eappN w rfl _ _ rfl base _ (L.take i) rfl HT.out _ M rfl (eown_row HU.out) HTl.out hb ?_; intro v8 w8 hown8 hg8 hn8; obtain ⟨a8, c8, hvf⟩ := OwnOf.form hown8; rw [HAM.out] at hvf; subst hvf; have HO8 := Lib.hid hown8; have HG8 := Lib.hid hg8; have HN8 := Lib.hid hn8; clear hown8 hg8 hn8)
  go_ret
  exact ⟨_, rfl, HO8.out, HN8.out, HG8.out⟩
set_option maxHeartbeats 4000000 in
set_option maxRecDepth 100000 in
/-- All from one place on goes, and less is put in. -/
theorem replace_end_short {w : World} {base bu g cap : Nat} {u : Value} {L M : List En} {C : List Value} (hbg : base ≤ g) (hg : Slab w g C) (hCl : C.length = cap * 10) (hcm : cap ≤ maxLen) (hC : C.take (L.length * 10) = L.flatMap enCells) (hlc : L.length ≤ cap) (hu : EOwn w bu u M) (hl : L.length ≤ 100000) (hm : M.length ≤ 100000) (i : Nat) (hi : i < L.length) (HNO : i + M.length < L.length) :
    Calls Tryz.prog 186 #[.slice (some ⟨g, 0, none⟩) L.length cap, .int .i64 i, .int .i64 L.length, u] w fun e w' => ∃ v', e = .returned v' ∧ EOwn w' base v' (L.take i ++ M) ∧ (∀ b, v'.ownBlock = some b → b = g) ∧ w.grownBy w' (some g) := by
  obtain ⟨su, cu, hv2⟩ := OwnOf.form hu
  subst hv2
  obtain ⟨n, hn⟩ : ∃ n, L.length = n := ⟨_, rfl⟩
  obtain ⟨m, hm'⟩ : ∃ m, M.length = m := ⟨_, rfl⟩
  rw [hn] at hl hi hlc HNO hC ⊢
  rw [hm'] at hm HNO hu ⊢
  have hap := run_append10 (i := i) hg hCl hu hm' (by omega)
  obtain ⟨E, hE⟩ : ∃ E, putC C (i * 10) (M.flatMap enCells) = E := ⟨_, rfl⟩
  rw [hE] at hap
  obtain ⟨w1, hw1⟩ : ∃ w1, w.setRow g E.toArray = w1 := ⟨_, rfl⟩
  simp only [hw1] at hap
  have s1 : Slab w1 g E := by rw [← hw1]; exact slab_put hg
  have g1 : w.grownBy w1 (some g) := by rw [← hw1]; exact grown_put _ _ _
  have hMl : (M.flatMap enCells).length = m * 10 := by rw [flat_size, hm']
  have hEl : E.length = cap * 10 := by rw [← hE, putC_len (by omega), hCl]
  obtain ⟨q, hq⟩ : ∃ q, i + m = q := ⟨_, rfl⟩
  simp only [hq] at hap
  have hs2 := fun W => run_from W (some ⟨g, 0, none⟩) n cap q (by omega) hlc
  obtain ⟨p2, e2, -, q2⟩ := sl_at g q n cap
  rw [e2, q2 (by omega)] at hs2
  have hcl := fun ty => run_clear10 w1 ty (some ⟨g, q * 10, none⟩) (n - q) (cap - q) g (q * 10) E (fun h => rfl) s1 (by omega)
  obtain ⟨E2, hE2⟩ : ∃ E2, putC E (q * 10) (zerosC (n - q)) = E2 := ⟨_, rfl⟩
  rw [hE2] at hcl
  obtain ⟨w2, hw2⟩ : ∃ w2, w1.setRow g E2.toArray = w2 := ⟨_, rfl⟩
  simp only [hw2] at hcl
  have s2 : Slab w2 g E2 := by rw [← hw2]; exact slab_put s1
  have g2 : w1.grownBy w2 (some g) := by rw [← hw2]; exact grown_put _ _ _
  have hzl := zerosC_len (n - q)
  have hE2l : E2.length = cap * 10 := by rw [← hE2, putC_len (by omega), hEl]
  have hlen : (L.take i ++ M).length = q := by rw [List.length_append, List.length_take]; omega
  have hbe : ∀ j, j < q * 10 → E2[j]? = E[j]? := fun j hj => by rw [← hE2, putC_get (by omega), if_pos hj]
  have hown : EOwn w2 base (.slice (some ⟨g, 0, none⟩) q cap) (L.take i ++ M) := by
    rw [← hlen]
    have h3 := three_take (C := E2) (A := L.take i) (M := M) (D := []) (i := i) (m := m) (d := 0) (by rw [List.length_take]; omega) hm' rfl (fun j hj => by
      rw [hbe j (by omega), ← hE, putC_get (by omega), if_pos hj]
      exact take_get hC i j (by omega) hj) (fun j hj => by
      rw [hbe _ (by omega), ← hE, putC_get (by omega), if_neg (by omega), if_pos (by omega)]
      congr 1
      omega) (fun j hj => by omega)
    rw [List.append_nil] at h3
    exact slab_own hbg s2 (by omega) hcm hE2l h3
  have hz : ¬ ((i : Int) = (n : Int)) := by omega
  have b1 : q < n := by omega
  have hs0 := fun W => run_between W (some ⟨g, 0, none⟩) n cap i n (by omega) (by omega)
  obtain ⟨p0, e0, -, -⟩ := sl_at g i n cap
  rw [e0] at hs0
  have hs1 := fun W => run_to W (some ⟨g, 0, none⟩) n cap i (by omega)
  obtain ⟨p1, e1, -, q1⟩ := sl_at g 0 i cap
  rw [e1, q1 (by omega)] at hs1
  simp only [Nat.zero_mul, Nat.sub_zero] at hs1
  have HO := Lib.hid hown
  have HW := Lib.hid (grown_trans g1 g2)
  have HAP := Lib.hid hap
  clear hap hown s1 g1 s2 g2 hE hE2 hw1 hw2 hMl hEl hE2l hzl hlen hbe hg hC hu hn hm' e0 e1 e2 q1 q2 hq hCl hcm
  go_enter Tryz.func186, Tryz.ntmps186
  go_wp2_with (at_builtin; refine Lib.wpList_append_run _ rfl _ _ _ _ rfl _ _ rfl rfl _ _ (HAP.out _) ?_)
  go_ret
  exact ⟨_, rfl, HO.out, fun b hb => by have e : g = b := Option.some.inj hb; exact e.symm, HW.out⟩
/-- slices.Insert. -/
theorem insertS_ok {w : World} {base bu : Nat} {v u : Value} {L M : List En} (h : EOwn w base v L) (hu : EOwn w bu u M) (hne : ∀ g, v.ownBlock = some g → u.ownBlock ≠ some g) (hb : base ≤ w.heap.size) (hl : L.length ≤ 100000) (hm : M.length ≤ 100000) (i : Nat) (hi : i ≤ L.length) :
    Calls Tryz.prog 201 #[v, .int .i64 i, u] w fun e w' => ∃ v', e = .returned v' ∧ EOwn w' base v' (L.take i ++ M ++ L.drop i) ∧ New w v v' ∧ w.grownBy w' v.ownBlock := by
  by_cases h0 : M.length = 0
  · obtain rfl := List.length_eq_zero_iff.1 h0
    have hu2 : u = .slice none 0 0 ∨ ∃ a c, u = .slice (some a) 0 c := by
      rcases own_slab hu with ⟨e, -⟩ | ⟨b, cap, C, e, -⟩
      · exact .inl e
      · exact .inr ⟨_, _, e⟩
    refine (insert_none h hu2 i hi).mono ?_
    rintro e w' ⟨rfl, rfl⟩
    exact ⟨_, rfl, by rw [List.append_nil, List.take_append_drop]; exact h, New.refl _ _, grown_refl _ _⟩
  · by_cases h1 : i = L.length
    · subst h1
      refine (insert_end h hu hb hl hm h0).mono ?_
      rintro e w' ⟨v', rfl, k1, k2, k3⟩
      exact ⟨_, rfl, by rw [List.take_length, List.drop_length, List.append_nil]; exact k1, k2, k3⟩
    · rcases own_slab h with ⟨-, rfl⟩ | ⟨g, cap, C, rfl, hbg, hg, hlc, hcm, hCl, hC⟩
      · simp at hi h1
        omega
      · by_cases h2 : cap < L.length + M.length
        · refine (insert_grow hg hCl hC hlc hu hb hl hm h0 i (by omega) h2).mono ?_
          rintro e w' ⟨v', rfl, k1, k2, k3⟩
          exact ⟨_, rfl, k1, fun b hb' => .inr (k2 b hb'), grown_none k3⟩
        · refine (insert_shift hbg hg hCl hcm hC hlc hu (hne g rfl) hl hm h0 i (by omega) (by omega)).mono ?_
          rintro e w' ⟨v', rfl, k1, k2, k3⟩
          exact ⟨_, rfl, k1, fun b hb' => .inl (by rw [k2 b hb']; rfl), k3⟩
set_option maxHeartbeats 4000000 in
set_option maxRecDepth 100000 in
/-- Nothing goes: what is put in. -/
theorem replace_ins {w : World} {base bu : Nat} {v u : Value} {L M : List En} (h : EOwn w base v L) (hu : EOwn w bu u M) (hne : ∀ g, v.ownBlock = some g → u.ownBlock ≠ some g) (hb : base ≤ w.heap.size) (hl : L.length ≤ 100000) (hm : M.length ≤ 100000) (i : Nat) (hi : i ≤ L.length) :
    Calls Tryz.prog 186 #[v, .int .i64 i, .int .i64 i, u] w fun e w' => ∃ v', e = .returned v' ∧ EOwn w' base v' (L.take i ++ M ++ L.drop i) ∧ New w v v' ∧ w.grownBy w' v.ownBlock := by
  have HI := Lib.hid (insertS_ok h hu hne hb hl hm i hi)
  have hc := (EOwn.ec h).2
  obtain ⟨sv, cv, hv⟩ := OwnOf.form h
  obtain ⟨su, cu, hv2⟩ := OwnOf.form hu
  subst hv hv2
  have hle : L.length ≤ cv := hc _ _ _ rfl
  obtain ⟨n, hn⟩ : ∃ n, L.length = n := ⟨_, rfl⟩
  obtain ⟨m, hm'⟩ : ∃ m, M.length = m := ⟨_, rfl⟩
  rw [hn] at hl hi hle HI ⊢
  rw [hm'] at hm HI ⊢
  have hs0 := fun W => run_between W sv n cv i i (Nat.le_refl _) (by omega)
  obtain ⟨x0, hx0⟩ : ∃ x0, sliced sv i i cv 10 = x0 := ⟨_, rfl⟩
  rw [hx0] at hs0
  clear h hu hc hn hm' hx0 hne
  go_enter Tryz.func186, Tryz.ntmps186
  go_wp2_with fail
  refine HI.out.mono ?_
  rintro e w2 ⟨v2, rfl, k1, k2, k3⟩
  have H1 := Lib.hid k1
  have H2 := Lib.hid k2
  have H3 := Lib.hid k3
  clear k1 k2 k3
  go_wp2_with fail
  go_ret
  exact ⟨_, rfl, H1.out, H2.out, H3.out⟩
/-- slices.Replace. -/
theorem replace_ok {w : World} {base bu : Nat} {v u : Value} {L M : List En} (h : EOwn w base v L) (hu : EOwn w bu u M) (hne : ∀ g, v.ownBlock = some g → u.ownBlock ≠ some g) (hb : base ≤ w.heap.size) (hl : L.length ≤ 100000) (hm : M.length ≤ 100000) (i j : Nat) (hij : i ≤ j) (hj : j ≤ L.length) :
    Calls Tryz.prog 186 #[v, .int .i64 i, .int .i64 j, u] w fun e w' => ∃ v', e = .returned v' ∧ EOwn w' base v' (L.take i ++ M ++ L.drop j) ∧ New w v v' ∧ w.grownBy w' v.ownBlock := by
  by_cases h0 : i = j
  · subst h0
    exact replace_ins h hu hne hb hl hm i hj
  · rcases own_slab h with ⟨-, rfl⟩ | ⟨g, cap, C, rfl, hbg, hg, hlc, hcm, hCl, hC⟩
    · simp at hj
      omega
    · by_cases h1 : j = L.length
      · subst h1
        rw [List.drop_length, List.append_nil]
        by_cases h2 : L.length ≤ i + M.length
        · exact replace_end_long hb hbg hg hCl hcm hC hlc hu hl hm i (by omega) h2
        · refine (replace_end_short hbg hg hCl hcm hC hlc hu hl hm i (by omega) (by omega)).mono ?_
          rintro e w' ⟨v', rfl, k1, k2, k3⟩
          exact ⟨_, rfl, k1, fun b hb' => .inl (by rw [k2 b hb']; rfl), k3⟩
      · by_cases h2 : cap < i + M.length + (L.length - j)
        · refine (replace_grow hg hCl hC hlc hu hb hl hm i j (by omega) (by omega) h2).mono ?_
          rintro e w' ⟨v', rfl, k1, k2, k3⟩
          exact ⟨_, rfl, k1, fun b hb' => .inr (k2 b hb'), grown_none k3⟩
        · by_cases h3 : i + M.length ≤ j
          · refine (replace_down hbg hg hCl hcm hC hlc hu (hne g rfl) hl hm i j (by omega) (by omega) h3).mono ?_
            rintro e w' ⟨v', rfl, k1, k2, k3⟩
            exact ⟨_, rfl, k1, fun b hb' => .inl (by rw [k2 b hb']; rfl), k3⟩
          · refine (replace_up hbg hg hCl hcm hC hlc hu (hne g rfl) hl hm i j (by omega) (by omega) ⟨by omega, by omega⟩).mono ?_
            rintro e w' ⟨v', rfl, k1, k2, k3⟩
            exact ⟨_, rfl, k1, fun b hb' => .inl (by rw [k2 b hb']; rfl), k3⟩
end Go.Proofs.YtefiiooibbkffaaGreat
