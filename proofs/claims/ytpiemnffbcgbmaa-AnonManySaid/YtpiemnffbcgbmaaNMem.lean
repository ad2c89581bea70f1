/- Layer 12: rows of the document's anons, in whatever block. -/
import Derived.Test.YtpiemnffbcgbmaaNList
import Derived.Test.YtpiemnffbcgbmaaZRow
import Derived.Laws.ResultCell
namespace Go.Proofs.Ytpiemnffbcgbmaa
open Go.ChangeShapes Go.WideShapes Go.ChangeAt Go.RowKit Go.Deep
set_option linter.unusedVariables false

def anCells (x : AnV) : List Value := [.int .i64 x.re, .int .i64 x.fr, .int .i64 x.sl]
theorem an_len (x : AnV) : (anCells x).length = 3 := rfl
def AOwn := OwnOf anCells 3 39
theorem an_cells {w : World} {v : Value} {R : List AnV} (h : RowOf anCells 3 w v R) {j : Nat} {r : AnV} (hr : R[j]? = some r) :
    ∃ g o c, v = .slice (some ⟨g, o, none⟩) R.length c ∧ w.cell? ⟨g, o + j * 3, none⟩ = some (.int .i64 r.re) ∧ w.cell? ⟨g, o + j * 3 + 1, none⟩ = some (.int .i64 r.fr) ∧ w.cell? ⟨g, o + j * 3 + 2, none⟩ = some (.int .i64 r.sl) := by
  obtain ⟨g, o, c, hv, hc⟩ := RowOf.at an_len h hr
  exact ⟨g, o, c, hv, hc 0 _ rfl, hc 1 _ rfl, hc 2 _ rfl⟩
theorem own_an {w : World} {base g c : Nat} {R : List AnV} (h : AOwn w base (.slice (some ⟨g, 0, none⟩) R.length c) R) {j : Nat} {r : AnV} (hr : R[j]? = some r) :
    w.cell? ⟨g, j * 3, none⟩ = some (.int .i64 r.re) ∧ w.cell? ⟨g, j * 3 + 1, none⟩ = some (.int .i64 r.fr) ∧ w.cell? ⟨g, j * 3 + 2, none⟩ = some (.int .i64 r.sl) :=
  ⟨OwnOf.at an_len h hr (q := 0) rfl, OwnOf.at an_len h hr (q := 1) rfl, OwnOf.at an_len h hr (q := 2) rfl⟩
theorem flat_set3 (xs : List AnV) (i : Nat) (y : AnV) (hi : i < xs.length) : (xs.set i y).flatMap anCells = (((xs.flatMap anCells).set (i * 3) (.int .i64 y.re)).set (i * 3 + 1) (.int .i64 y.fr)).set (i * 3 + 2) (.int .i64 y.sl) := by
  induction xs generalizing i with
  | nil => simp at hi
  | cons z xs ih =>
    cases i with
    | zero => rfl
    | succ i =>
      rw [List.set_cons_succ, List.flatMap_cons, ih i (by simpa using hi), List.flatMap_cons]
      have e0 : (i + 1) * 3 = (anCells z).length + i * 3 := by rw [an_len]; omega
      rw [e0, List.set_append_right _ _ (by omega), Nat.add_sub_cancel_left]
      rw [show (anCells z).length + i * 3 + 1 = (anCells z).length + (i * 3 + 1) by omega, List.set_append_right _ _ (by omega), Nat.add_sub_cancel_left]
      rw [show (anCells z).length + i * 3 + 2 = (anCells z).length + (i * 3 + 2) by omega, List.set_append_right _ _ (by omega), Nat.add_sub_cancel_left]
/-- One anon of the row is another one. -/
theorem AOwn.set {w : World} {base g c : Nat} {xs : List AnV} (h : AOwn w base (.slice (some ⟨g, 0, none⟩) xs.length c) xs) (i : Nat) (y : AnV) (hi : i < xs.length) :
    AOwn (((w.setCell ⟨g, i * 3, none⟩ (.int .i64 y.re)).setCell ⟨g, i * 3 + 1, none⟩ (.int .i64 y.fr)).setCell ⟨g, i * 3 + 2, none⟩ (.int .i64 y.sl)) base (.slice (some ⟨g, 0, none⟩) xs.length c) (xs.set i y) := by
  unfold AOwn OwnOf at h ⊢
  rw [List.length_set, flat_set3 xs i y hi]
  rcases h.2 with ⟨h0, _⟩ | ⟨g', cap, cur, hsl, hb, hg, h1, h2, h3, ht⟩
  · cases h0
  · cases hsl
    have g0 := heap_setCell_same w g (i * 3) _ _ (.int .i64 y.re) hg
    have g1 := heap_setCell_same _ g (i * 3 + 1) _ _ (.int .i64 y.fr) g0
    have g2 := heap_setCell_same _ g (i * 3 + 2) _ _ (.int .i64 y.sl) g1
    refine ⟨by rw [List.length_set, List.length_set, List.length_set]; exact h.1, .inr ⟨g, c, _, rfl, hb, g2, h1, h2, by simp [h3], ?_⟩⟩
    simp only [Array.toList_setIfInBounds, List.take_set, ht]
theorem info_an : (Try.prog.info? 39).map (fun i => (i.zero, i.size, i.bytes)) = some (some (.agg #[.int .i64 0, .int .i64 0, .int .i64 0]), 3, 24) := by kernel_rfl
theorem an_ones (xs : List AnV) : ∀ u, u ∈ xs.flatMap anCells → u.oneCell' = true := by
  intro u hu
  obtain ⟨y, _, hy⟩ := List.mem_flatMap.1 hu
  simp [anCells] at hy
  rcases hy with rfl | rfl | rfl <;> rfl

/-- 'append([]pantryref12.Anon{}, l...)': a row of its own. -/
theorem wpList_acopy {ops : Array Oper} {rest : List Oper} {o : Oper} {a : Act} {Q : Exit → Act → World → Prop} (w : World) (hgd : o.guard = none) (s x : Operand)
    (ho : o.op = .call { callee := .builtin .append, args := #[s, x], argTypes := #[67, 67] }) (v : Value) (xs : List AnV) (H : Nat) (hH : w.heap.size = H) (hs : a.eval s = .slice (some ⟨H, 0, none⟩) 0 0) (hx : a.eval x = v)
    (h : RowOf anCells 3 (w.alloc (.cells #[] 39)) v xs) (hl : xs.length ≤ 1000000)
    (hK : ∀ g cap w', AOwn w' H (.slice (some ⟨g, 0, none⟩) xs.length cap) xs → w.grownBy w' none → wpList Try.prog ops Q rest (a.put o.dst (.slice (some ⟨g, 0, none⟩) xs.length cap)) w') :
    wpList Try.prog ops Q (o :: rest) a (w.alloc (.cells #[] 39)) := by
  obtain ⟨i0, hi, hz0, hz1, hz2⟩ := info_parts info_an
  subst hH
  have hown : (w.alloc (.cells #[] 39)).ownsRow w.heap.size 39 3 (.slice (some ⟨w.heap.size, 0, none⟩) 0 0) 0 [] :=
    ⟨by simp, .inr ⟨w.heap.size, 0, #[], rfl, Nat.le_refl _, heap_alloc_new w _, Nat.le_refl _, Nat.zero_le _, by simp, by simp⟩⟩
  have ga := World.grownBy_alloc w (.cells #[] 39) none
  rcases h.2 with ⟨rfl, h0⟩ | ⟨g, of, c, rfl, hg, hc⟩
  · refine wpList_append_own_none hgd s x 67 ho w.heap.size 39 i0 3 Try.underlying67 hi _ 0 [] hs hown hx ?_
    have hx0 := List.length_eq_zero_iff.1 h0
    subst hx0
    exact hK w.heap.size 0 _ hown ga
  · refine wpList_append_own_at _ hgd s x 67 ho w.heap.size 39 i0 (.agg #[.int .i64 0, .int .i64 0, .int .i64 0]) 3 24 Try.underlying67 hi hz0 hz1 hz2 rfl (by decide) (.slice (some ⟨w.heap.size, 0, none⟩) 0 0) 0 [] hs hown ⟨g, of, none⟩ xs.length c (xs.flatMap anCells) hx h.1 (fun j u hu => by rw [Addr.add_mid]; exact hc j u hu) (an_ones xs) (by unfold maxLen; omega) (by omega) (by simp) ?_
    intro v' w' hown' hgrow hnil hat
    rw [Nat.zero_add, List.nil_append] at hown'
    have hv : ∃ g' cap, v' = .slice (some ⟨g', 0, none⟩) xs.length cap := by
      rcases hown'.2 with ⟨h1, _⟩ | ⟨g', cap, cur, h1, _⟩
      · exact absurd (hnil.1 h1).1 (by simp)
      · exact ⟨g', cap, h1⟩
    obtain ⟨g', cap, rfl⟩ := hv
    exact hK g' cap w' hown' (grown_at ga hgrow (Nat.le_refl _))
/-- 'append(l, r)', behind the block in which r is laid. -/
theorem wpList_apush {ops : Array Oper} {rest : List Oper} {o : Oper} {a : Act} {Q : Exit → Act → World → Prop} (w : World) (hgd : o.guard = none) (s x : Operand)
    (ho : o.op = .call { callee := .builtin .append, args := #[s, x], argTypes := #[67, 67] }) (base : Nat) (v : Value) (xs : List AnV) (y : AnV) (hs : a.eval s = v) (h : AOwn w base v xs) (H c : Nat)
    (hx : a.eval x = .slice (some ⟨H, 0, none⟩) 1 c) (hH : w.heap.size = H) (hl : xs.length ≤ 1000000) (hbase : base ≤ H)
    (hK : ∀ g cap w', AOwn w' base (.slice (some ⟨g, 0, none⟩) (xs.length + 1) cap) (xs ++ [y]) → (w.alloc (.cells #[.int .i64 y.re, .int .i64 y.fr, .int .i64 y.sl] 39)).grownBy w' v.ownBlock → wpList Try.prog ops Q rest (a.put o.dst (.slice (some ⟨g, 0, none⟩) (xs.length + 1) cap)) w') :
    wpList Try.prog ops Q (o :: rest) a (w.alloc (.cells #[.int .i64 y.re, .int .i64 y.fr, .int .i64 y.sl] 39)) := by
  obtain ⟨i0, hi, hz0, hz1, hz2⟩ := info_parts info_an
  subst hH
  refine wpList_append_lies _ hgd s x 67 ho base 39 i0 (.agg #[.int .i64 0, .int .i64 0, .int .i64 0]) 3 24 Try.underlying67 hi hz0 hz1 hz2 rfl (by decide) v xs.length (xs.flatMap anCells) hs (World.ownsRow.alloc h _) ⟨w.heap.size, 0, none⟩ 1 c (anCells y) hx rfl ?_ ?_ (by omega) (by unfold maxLen; omega) (by omega) (by simp; omega) (w.heap.size + 1) (by simp) ?_
  · exact World.news_of_block (heap_alloc_new w _)
  · intro u hu; simp [anCells] at hu; rcases hu with rfl | rfl | rfl <;> rfl
  · intro g cap w' hown hgrow hat hlt
    refine hK g cap w' ?_ hgrow
    unfold AOwn OwnOf
    simp only [List.length_append, List.length_cons, List.length_nil, List.flatMap_append, List.flatMap_cons, List.flatMap_nil, List.append_nil]
    exact hown

/-! ### a box of one -/
def anAgg (x : AnV) : Value := .agg #[.int .i64 x.re, .int .i64 x.fr, .int .i64 x.sl]
def getVN (o : Option AnV) : Value :=
  match o with
  | some x => .tuple #[anAgg x, .bool true]
  | none => .tuple #[anAgg zeroN, .bool false]
def AB (w : World) (y : Nat) (t : TypeId) (x : AnV) : Prop := w.heap[y]? = some (.cells #[.int .i64 x.re, .int .i64 x.fr, .int .i64 x.sl] t (0, 0))
section
variable {w w' : World} {y : Nat} {t : TypeId} {x : AnV}
theorem AB.at (h : AB w y t x) : w.cell? ⟨y, 0, none⟩ = some (.int .i64 x.re) ∧ w.cell? ⟨y, 1, none⟩ = some (.int .i64 x.fr) ∧ w.cell? ⟨y, 2, none⟩ = some (.int .i64 x.sl) :=
  ⟨by rw [cell_of_row _ _ _ _ _ _ h]; rfl, by rw [cell_of_row _ _ _ _ _ _ h]; rfl, by rw [cell_of_row _ _ _ _ _ _ h]; rfl⟩
theorem AB.frozen (h : AB w y t x) (o : Nat) : w.frozen? ⟨y, o, none⟩ = false := frozen_of_row _ _ _ _ _ h
theorem AB.lt (h : AB w y t x) : y < w.heap.size := (Array.getElem?_eq_some_iff.1 h).1
theorem AB.kept (h : AB w y t x) (hb : w'.heap[y]? = w.heap[y]?) : AB w' y t x := hb.trans h
theorem AB.grow (h : AB w y t x) (g : w.grownBy w' none) : AB w' y t x := (g.block _ h.lt (by simp)).trans h
theorem AB.new (w : World) (t : TypeId) (x : AnV) : AB (w.alloc (.cells #[.int .i64 x.re, .int .i64 x.fr, .int .i64 x.sl] t (0, 0))) w.heap.size t x := heap_alloc_new w _
end
/-- Two results, the first one a struct in memory. -/
theorem results_pair_tmp {P : Program} {fn : Func} {p u : Tmp} {ty : TypeId} (h : fn.results = #[.cell p ty, .tmp u]) (tmps : Array Value) (w : World) (g : Nat) (t : TypeId) (cs : Array Value) (fr : Nat × Nat) (d : TypeDesc)
    (hp : tmps.getD p undef = .pointer (some ⟨g, 0, none⟩)) (hg : w.heap[g]? = some (.cells cs t fr))
    (hu : P.underlying ty = some d) (hd : (match d with | .struct _ | .array _ _ => true | _ => false) = true) (hi : (P.info? ty).map (·.size) = some cs.size) :
    (results fn tmps).run P w = .ok (.tuple #[.agg cs, tmps.getD u undef]) w := by
  rw [results_cell_tmp h, hp]
  simp [asAddr, Result.andThen, run_loadVar_row w g t ty cs fr d hg hu hd hi]
/-- Three cells, stored into. -/
theorem heap_three (w : World) (g : Nat) {a b c : Value} (a' b' c' : Int) (t : TypeId) (hg : w.heap[g]? = some (.cells #[a, b, c] t (0, 0))) :
    (((w.setCell ⟨g, 0, none⟩ (.int .i64 a')).setCell ⟨g, 1, none⟩ (.int .i64 b')).setCell ⟨g, 2, none⟩ (.int .i64 c')).heap[g]? = some (.cells #[.int .i64 a', .int .i64 b', .int .i64 c'] t (0, 0)) := by
  have h : w.heap[g]? = some (.cells [a, b, c].toArray t (0, 0)) := hg
  exact heap_setCells h [.int .i64 a', .int .i64 b', .int .i64 c'] (by simp) (by intro v hv; simp at hv; rcases hv with rfl | rfl | rfl <;> rfl)
theorem grown_three (w : World) (g o : Nat) (a b c : Value) : w.grownBy (((w.setCell ⟨g, o, none⟩ a).setCell ⟨g, o + 1, none⟩ b).setCell ⟨g, o + 2, none⟩ c) (some g) :=
  grown_trans (grown_trans (grown_set _ g o a) (grown_set _ g (o + 1) b)) (grown_set _ g (o + 2) c)
end Go.Proofs.Ytpiemnffbcgbmaa
