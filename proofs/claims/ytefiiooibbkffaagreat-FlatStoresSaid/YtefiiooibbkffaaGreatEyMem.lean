/- Layer 15: rows of entries in whatever block; such rows in the making; boxes of entries. -/
import Derived.Test.YtefiiooibbkffaaGreatEyRow
import Derived.Test.YtefiiooibbkffaaGreatEyList
import Derived.Laws.StructEq
namespace Go.Proofs.YtefiiooibbkffaaGreat
open Go.ChangeShapes Go.WideShapes Go.ChangeAt Go.RowKit Go.Deep
set_option linter.unusedVariables false

def enCells (x : En) : List Value := [.int .i64 x.s, .int .i64 x.e, .int .i64 x.f, .int .i64 x.o, .bool x.sh, .int .i64 x.p, .int .i64 x.m, .int .i64 x.i, .int .i64 x.a, .bool x.wi]
theorem en_len (x : En) : (enCells x).length = 10 := rfl
def EOwn := OwnOf enCells 10 50
def EMk := MkOf enCells 10 50
/-- A list of entries, wherever it lies; one of none may stand at whatever address. -/
def ERow (w : World) (v : Value) (L : List En) : Prop := RowOf enCells 10 w v L ∨ (L = [] ∧ ∃ a c, v = .slice (some a) 0 c)
theorem erow_grow {w w' : World} {v : Value} {L : List En} (h : ERow w v L) (g : w.grownBy w' none) : ERow w' v L := h.imp (fun h => rowOf_grow h g) id
theorem eown_row {w : World} {base : Nat} {v : Value} {L : List En} (h : EOwn w base v L) : ERow w v L := .inl (OwnOf.row h)
/-- The ten cells of an entry from a place on. -/
structure EAt (w : World) (g k : Nat) (x : En) : Prop where
  c0 : w.cell? ⟨g, k, none⟩ = some (.int .i64 x.s)
  c1 : w.cell? ⟨g, k + 1, none⟩ = some (.int .i64 x.e)
  c2 : w.cell? ⟨g, k + 2, none⟩ = some (.int .i64 x.f)
  c3 : w.cell? ⟨g, k + 3, none⟩ = some (.int .i64 x.o)
  c4 : w.cell? ⟨g, k + 4, none⟩ = some (.bool x.sh)
  c5 : w.cell? ⟨g, k + 5, none⟩ = some (.int .i64 x.p)
  c6 : w.cell? ⟨g, k + 6, none⟩ = some (.int .i64 x.m)
  c7 : w.cell? ⟨g, k + 7, none⟩ = some (.int .i64 x.i)
  c8 : w.cell? ⟨g, k + 8, none⟩ = some (.int .i64 x.a)
  c9 : w.cell? ⟨g, k + 9, none⟩ = some (.bool x.wi)
theorem en_cells {w : World} {v : Value} {L : List En} (h : ERow w v L) {j : Nat} {x : En} (hx : L[j]? = some x) : ∃ g o c, v = .slice (some ⟨g, o, none⟩) L.length c ∧ EAt w g (o + j * 10) x := by
  have h : RowOf enCells 10 w v L := by
    rcases h with h | ⟨rfl, _⟩
    · exact h
    · simp at hx
  obtain ⟨g, o, c, hv, hc⟩ := RowOf.at en_len h hx
  exact ⟨g, o, c, hv, hc 0 _ rfl, hc 1 _ rfl, hc 2 _ rfl, hc 3 _ rfl, hc 4 _ rfl, hc 5 _ rfl, hc 6 _ rfl, hc 7 _ rfl, hc 8 _ rfl, hc 9 _ rfl⟩
theorem own_en {w : World} {base g c : Nat} {L : List En} (h : EOwn w base (.slice (some ⟨g, 0, none⟩) L.length c) L) {j : Nat} {x : En} (hx : L[j]? = some x) : EAt w g (j * 10) x :=
  ⟨OwnOf.at en_len h hx (q := 0) rfl, OwnOf.at en_len h hx (q := 1) rfl, OwnOf.at en_len h hx (q := 2) rfl, OwnOf.at en_len h hx (q := 3) rfl, OwnOf.at en_len h hx (q := 4) rfl, OwnOf.at en_len h hx (q := 5) rfl, OwnOf.at en_len h hx (q := 6) rfl, OwnOf.at en_len h hx (q := 7) rfl, OwnOf.at en_len h hx (q := 8) rfl, OwnOf.at en_len h hx (q := 9) rfl⟩
/-- A boxed entry. -/
def EnB (w : World) (y : Nat) (x : En) : Prop := w.heap[y]? = some (.cells #[.int .i64 x.s, .int .i64 x.e, .int .i64 x.f, .int .i64 x.o, .bool x.sh, .int .i64 x.p, .int .i64 x.m, .int .i64 x.i, .int .i64 x.a, .bool x.wi] 50 (0, 0))
section
variable {w w' : World} {y : Nat} {x : En}
theorem EnB.at (h : EnB w y x) : EAt w y 0 x := by
  constructor <;> (rw [cell_of_row _ _ _ _ _ _ h]; rfl)
theorem EnB.frozen (h : EnB w y x) (o : Nat) : w.frozen? ⟨y, o, none⟩ = false := frozen_of_row _ _ _ _ _ h
theorem EnB.lt (h : EnB w y x) : y < w.heap.size := (Array.getElem?_eq_some_iff.1 h).1
theorem EnB.grow (h : EnB w y x) (g : w.grownBy w' none) : EnB w' y x := (g.block _ h.lt (by simp)).trans h
theorem EnB.turn {O : List Nat} (h : EnB w y x) (g : Turn O w w') (ho : y ∉ O) : EnB w' y x := (g.block _ h.lt ho).trans h
theorem EnB.new (w : World) (x : En) : EnB (w.alloc (.cells #[.int .i64 x.s, .int .i64 x.e, .int .i64 x.f, .int .i64 x.o, .bool x.sh, .int .i64 x.p, .int .i64 x.m, .int .i64 x.i, .int .i64 x.a, .bool x.wi] 50 (0, 0))) w.heap.size x := heap_alloc_new w _
end
theorem EAt.grow {w w' : World} {g k : Nat} {x : En} (h : EAt w g k x) (hg : w.grownBy w' none) : EAt w' g k x :=
  ⟨hg.cell h.c0 (by simp), hg.cell h.c1 (by simp), hg.cell h.c2 (by simp), hg.cell h.c3 (by simp), hg.cell h.c4 (by simp), hg.cell h.c5 (by simp), hg.cell h.c6 (by simp), hg.cell h.c7 (by simp), hg.cell h.c8 (by simp), hg.cell h.c9 (by simp)⟩

theorem info_en : (Tryz.prog.info? 50).map (fun i => (i.zero, i.size, i.bytes)) = some (some (.agg #[.int .i64 0, .int .i64 0, .int .i64 0, .int .i64 0, .bool false, .int .i64 0, .int .i64 0, .int .i64 0, .int .i64 0, .bool false]), 10, 80) := by kernel_rfl
theorem en_one (x : En) : ∀ u, u ∈ enCells x → u.oneCell' = true := by
  intro u hu
  simp [enCells] at hu
  rcases hu with rfl | rfl | rfl | rfl | rfl | rfl | rfl | rfl | rfl | rfl <;> rfl
theorem en_ones (xs : List En) : ∀ u, u ∈ xs.flatMap enCells → u.oneCell' = true := by
  intro u hu
  obtain ⟨y, _, hy⟩ := List.mem_flatMap.1 hu
  exact en_one y u hy
theorem erow_cases {w : World} {v : Value} {L : List En} (h : ERow w v L) : (v = .slice none 0 0 ∧ L = []) ∨ ∃ (a : Addr) (c : Nat), v = .slice (some a) L.length c ∧ ∀ (j : Nat) u, (L.flatMap enCells)[j]? = some u → w.cell? (a.add j) = some u := by
  rcases h with h | ⟨rfl, a, c, rfl⟩
  · rcases h.2 with ⟨rfl, h0⟩ | ⟨g, o, c, rfl, hg, hc⟩
    · exact .inl ⟨rfl, List.length_eq_zero_iff.1 h0⟩
    · exact .inr ⟨⟨g, o, none⟩, c, rfl, fun j u hu => by rw [Addr.add_mid]; exact hc j u hu⟩
  · exact .inr ⟨a, c, rfl, fun j u hu => by simp at hu⟩
/-- 'append([]api.Entry{}, l...)': a row of its own. -/
theorem wpList_ecopy {ops : Array Oper} {rest : List Oper} {o : Oper} {a : Act} {Q : Exit → Act → World → Prop} (w : World) (hgd : o.guard = none) (s x : Operand)
    (ho : o.op = .call { callee := .builtin .append, args := #[s, x], argTypes := #[47, 47] }) (v : Value) (xs : List En) (H : Nat) (hH : w.heap.size = H) (hs : a.eval s = .slice (some ⟨H, 0, none⟩) 0 0) (hx : a.eval x = v)
    (h : ERow (w.alloc (.cells #[] 50)) v xs) (hl : xs.length ≤ 1000000)
    (hK : ∀ g cap w', EOwn w' H (.slice (some ⟨g, 0, none⟩) xs.length cap) xs → w.grownBy w' none → wpList Tryz.prog ops Q rest (a.put o.dst (.slice (some ⟨g, 0, none⟩) xs.length cap)) w') :
    wpList Tryz.prog ops Q (o :: rest) a (w.alloc (.cells #[] 50)) := by
  obtain ⟨i0, hi, hz0, hz1, hz2⟩ := info_parts info_en
  subst hH
  have hown : (w.alloc (.cells #[] 50)).ownsRow w.heap.size 50 10 (.slice (some ⟨w.heap.size, 0, none⟩) 0 0) 0 [] :=
    ⟨by simp, .inr ⟨w.heap.size, 0, #[], rfl, Nat.le_refl _, heap_alloc_new w _, Nat.le_refl _, Nat.zero_le _, by simp, by simp⟩⟩
  have ga := World.grownBy_alloc w (.cells #[] 50) none
  rcases erow_cases h with ⟨rfl, h0⟩ | ⟨ad, c, rfl, hc⟩
  · refine wpList_append_own_none hgd s x 47 ho w.heap.size 50 i0 10 Tryz.underlying47 hi _ 0 [] hs hown hx ?_
    subst h0
    exact hK w.heap.size 0 _ hown ga
  · refine wpList_append_own_at _ hgd s x 47 ho w.heap.size 50 i0 (.agg #[.int .i64 0, .int .i64 0, .int .i64 0, .int .i64 0, .bool false, .int .i64 0, .int .i64 0, .int .i64 0, .int .i64 0, .bool false]) 10 80 Tryz.underlying47 hi hz0 hz1 hz2 rfl (by decide) (.slice (some ⟨w.heap.size, 0, none⟩) 0 0) 0 [] hs hown ad xs.length c (xs.flatMap enCells) hx (flat_len enCells 10 en_len xs) hc (en_ones xs) (by unfold maxLen; omega) (by omega) (by simp) ?_
    intro v' w' hown' hgrow hnil hat
    rw [Nat.zero_add, List.nil_append] at hown'
    have hv : ∃ g' cap, v' = .slice (some ⟨g', 0, none⟩) xs.length cap := by
      rcases hown'.2 with ⟨h1, _⟩ | ⟨g', cap, cur, h1, _⟩
      · exact absurd (hnil.1 h1).1 (by simp)
      · exact ⟨g', cap, h1⟩
    obtain ⟨g', cap, rfl⟩ := hv
    exact hK g' cap w' hown' (grown_at ga hgrow (Nat.le_refl _))
/-- 'append(l, x)', behind the block in which x is laid. -/
theorem wpList_epush {ops : Array Oper} {rest : List Oper} {o : Oper} {a : Act} {Q : Exit → Act → World → Prop} (w : World) (hgd : o.guard = none) (s x : Operand)
    (ho : o.op = .call { callee := .builtin .append, args := #[s, x], argTypes := #[47, 47] }) (base : Nat) (v : Value) (xs : List En) (y : En) (hs : a.eval s = v) (h : EOwn w base v xs) (H c : Nat)
    (hx : a.eval x = .slice (some ⟨H, 0, none⟩) 1 c) (hH : w.heap.size = H) (hl : xs.length ≤ 1000000) (hbase : base ≤ H)
    (hK : ∀ g cap w', EOwn w' base (.slice (some ⟨g, 0, none⟩) (xs.length + 1) cap) (xs ++ [y]) → (w.alloc (.cells #[.int .i64 y.s, .int .i64 y.e, .int .i64 y.f, .int .i64 y.o, .bool y.sh, .int .i64 y.p, .int .i64 y.m, .int .i64 y.i, .int .i64 y.a, .bool y.wi] 50)).grownBy w' v.ownBlock → wpList Tryz.prog ops Q rest (a.put o.dst (.slice (some ⟨g, 0, none⟩) (xs.length + 1) cap)) w') :
    wpList Tryz.prog ops Q (o :: rest) a (w.alloc (.cells #[.int .i64 y.s, .int .i64 y.e, .int .i64 y.f, .int .i64 y.o, .bool y.sh, .int .i64 y.p, .int .i64 y.m, .int .i64 y.i, .int .i64 y.a, .bool y.wi] 50)) := by
  obtain ⟨i0, hi, hz0, hz1, hz2⟩ := info_parts info_en
  subst hH
  refine wpList_append_lies _ hgd s x 47 ho base 50 i0 (.agg #[.int .i64 0, .int .i64 0, .int .i64 0, .int .i64 0, .bool false, .int .i64 0, .int .i64 0, .int .i64 0, .int .i64 0, .bool false]) 10 80 Tryz.underlying47 hi hz0 hz1 hz2 rfl (by decide) v xs.length (xs.flatMap enCells) hs (World.ownsRow.alloc h _) ⟨w.heap.size, 0, none⟩ 1 c (enCells y) hx rfl ?_ (en_one y) (by omega) (by unfold maxLen; omega) (by omega) (by simp; omega) (w.heap.size + 1) (by simp) ?_
  · exact World.news_of_block (heap_alloc_new w _)
  · intro g cap w' hown hgrow hat hlt
    refine hK g cap w' ?_ hgrow
    unfold EOwn OwnOf
    simp only [List.length_append, List.length_cons, List.length_nil, List.flatMap_append, List.flatMap_cons, List.flatMap_nil, List.append_nil]
    exact hown
theorem if_bool (p : Prop) [Decidable p] (b : Bool) (w : World) : (if p then Result.ok (Value.bool b) w else Result.ok (Value.bool false) w) = Result.ok (Value.bool (decide p && b)) w := by
  by_cases h : p <;> simp [h]
theorem if_boolN (p : Prop) [Decidable p] (b : Bool) (w : World) : (if p then Result.ok (Value.bool b) w else Result.ok (Value.bool true) w) = Result.ok (Value.bool (!decide p || b)) w := by
  by_cases h : p <;> simp [h]
/-- Two entries, held against each other. -/
theorem eql_en (w : World) (x y : En) (d : Bool) (hd : decide (x = y) = d) : (binOp .eql 50 (.agg #[.int .i64 x.s, .int .i64 x.e, .int .i64 x.f, .int .i64 x.o, .bool x.sh, .int .i64 x.p, .int .i64 x.m, .int .i64 x.i, .int .i64 x.a, .bool x.wi]) (.agg #[.int .i64 y.s, .int .i64 y.e, .int .i64 y.f, .int .i64 y.o, .bool y.sh, .int .i64 y.p, .int .i64 y.m, .int .i64 y.i, .int .i64 y.a, .bool y.wi])).run Tryz.prog w = .ok (.bool d) w := by
  obtain ⟨a0, a1, a2, a3, a4, a5, a6, a7, a8, a9⟩ := x
  obtain ⟨b0, b1, b2, b3, b4, b5, b6, b7, b8, b9⟩ := y
  subst hd
  go_simp
  simp only [if_bool, Bool.and_true]
theorem neq_en (w : World) (x y : En) (d : Bool) (hd : decide (x = y) = d) : (binOp .neq 50 (.agg #[.int .i64 x.s, .int .i64 x.e, .int .i64 x.f, .int .i64 x.o, .bool x.sh, .int .i64 x.p, .int .i64 x.m, .int .i64 x.i, .int .i64 x.a, .bool x.wi]) (.agg #[.int .i64 y.s, .int .i64 y.e, .int .i64 y.f, .int .i64 y.o, .bool y.sh, .int .i64 y.p, .int .i64 y.m, .int .i64 y.i, .int .i64 y.a, .bool y.wi])).run Tryz.prog w = .ok (.bool (!d)) w := by
  obtain ⟨a0, a1, a2, a3, a4, a5, a6, a7, a8, a9⟩ := x
  obtain ⟨b0, b1, b2, b3, b4, b5, b6, b7, b8, b9⟩ := y
  subst hd
  go_simp
  simp only [if_boolN, Bool.or_false]
end Go.Proofs.YtefiiooibbkffaaGreat
