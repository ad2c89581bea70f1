/- Layer 13: pools of amaps in memory, over counts of any kind (D): the document's and the landed ones alike. -/
import Derived.Test.YtfmihbiongnpnaaAListC
import Derived.Test.YtfmihbiongnpnaaJOk
namespace Go.Proofs.Ytfmihbiongnpnaa
open Go.ChangeShapes Go.WideShapes Go.ChangeAt Go.RowKit Go.Deep
set_option linter.unusedVariables false

theorem grown_then {a b e : World} {r : Option Nat} (h : a.grownBy b r) (g : b.grownBy e none) : a.grownBy e r :=
  ⟨g.os.trans h.os, g.tape.trans h.tape, g.output.trans h.output, Nat.le_trans h.size g.size, fun k hk hr => (g.block k (Nat.lt_of_lt_of_le hk h.size) (by simp)).trans (h.block k hk hr)⟩
theorem rowOf_form {α : Type} {cells : α → List Value} {size : Nat} {w : World} {u : Value} {xs : List α} (h : RowOf cells size w u xs) : ∃ s c, u = .slice s xs.length c := RowAt.form h
theorem rowOf_grow {α : Type} {cells : α → List Value} {size : Nat} {w w' : World} {u : Value} {xs : List α} (h : RowOf cells size w u xs) (g : w.grownBy w' none) : RowOf cells size w' u xs := RowAt.grow h g
/-- A row that a call made stays where others' blocks turn. -/
theorem row_turn {α : Type} {cells : α → List Value} {size : Nat} {w w' : World} {u : Value} {xs : List α} {P : List Nat} (h : RowOf cells size w u xs) (t : Turn P w w') (hP : ∀ b, u.ownBlock = some b → b ∉ P) : RowOf cells size w' u xs := by
  refine RowAt.kept h t.size fun a l c e => ?_
  refine t.block a.block ?_ (hP a.block (by rw [e]; rfl))
  rcases h.2 with ⟨h0, _⟩ | ⟨g, o, c', hv, hg, _⟩
  · rw [h0] at e; cases e
  · rw [hv] at e; cases e; exact hg
theorem own_turn {α : Type} {cells : α → List Value} {size : Nat} {t : TypeId} {w w' : World} {base : Nat} {v : Value} {xs : List α} {P : List Nat} (h : OwnOf cells size t w base v xs) (k : Turn P w w') (hP : ∀ b, v.ownBlock = some b → b ∉ P) : OwnOf cells size t w' base v xs :=
  OwnOf.kept h fun b hb => k.block b (OwnOf.lt h hb).2 (hP b hb)

def pCells (x : Option Nat) : List Value := [.pointer (x.map fun a => ⟨a, 0, none⟩)]
theorem p_len (x : Option Nat) : (pCells x).length = 1 := rfl
theorem p_flat (xs : List (Option Nat)) : xs.flatMap pCells = xs.map fun x => Value.pointer (x.map fun a => ⟨a, 0, none⟩) := by
  induction xs with
  | nil => rfl
  | cons x xs ih => rw [List.flatMap_cons, ih]; rfl
theorem p_ones (xs : List (Option Nat)) : ∀ u, u ∈ xs.flatMap pCells → u.oneCell' = true := by
  intro u hu
  obtain ⟨y, _, hy⟩ := List.mem_flatMap.1 hu
  simp [pCells] at hy
  rw [hy]; rfl
abbrev CD := World → Nat → List Int → List Nat → Prop
/-- Where an amap lies: itself, its counts, its anons, the counts' blocks. -/
structure AmP where
  a : Nat
  p : Nat
  g : Nat
  O : List Nat
def AmP.blk (P : AmP) : List Nat := P.a :: P.g :: P.O
structure AmB (D : CD) (t : TypeId) (w : World) (x : AmV) (P : AmP) : Prop where
  head : w.heap[P.a]? = some (.cells #[.pointer (some ⟨P.p, 0, none⟩), .slice (some ⟨P.g, 0, none⟩) x.as.length x.as.length] t (0, 0))
  d : D w P.p x.cs P.O
  row : ZOwn w 0 (.slice (some ⟨P.g, 0, none⟩) x.as.length x.as.length) x.as
  ag : P.a ≠ P.g
  aO : P.a ∉ P.O
  gO : P.g ∉ P.O
section
variable {D : CD} {t : TypeId} {w w' : World} {x : AmV} {P : AmP} {v : Int} {j : Nat}
theorem AmP.mem {b : Nat} : b ∈ P.blk ↔ b = P.a ∨ b = P.g ∨ b ∈ P.O := by unfold AmP.blk; simp
theorem AmB.alt (h : AmB D t w x P) : P.a < w.heap.size := (Array.getElem?_eq_some_iff.1 h.head).1
theorem AmB.glt (h : AmB D t w x P) : P.g < w.heap.size := (OwnOf.lt h.row (g := P.g) rfl).2
theorem AmB.lt (H : StOk D) (h : AmB D t w x P) : ∀ b, b ∈ P.blk → b < w.heap.size := fun b hb => by
  rcases AmP.mem.1 hb with rfl | rfl | hb
  · exact h.alt
  · exact h.glt
  · exact H.lt h.d b hb
theorem AmB.kept (H : StOk D) (h : AmB D t w x P) (hs : w.heap.size ≤ w'.heap.size) (hb : ∀ b, b ∈ P.blk → w'.heap[b]? = w.heap[b]?) : AmB D t w' x P :=
  ⟨(hb _ (AmP.mem.2 (.inl rfl))).trans h.head, H.kept h.d hs fun b k => hb b (AmP.mem.2 (.inr (.inr k))), OwnOf.kept h.row fun b e => hb b (AmP.mem.2 (.inr (.inl (by simp [Value.ownBlock] at e; exact e.symm)))), h.ag, h.aO, h.gO⟩
theorem AmB.grow (H : StOk D) (h : AmB D t w x P) (g : w.grownBy w' none) : AmB D t w' x P := h.kept H g.size fun b hb => g.block b (h.lt H b hb) (by simp)
theorem AmB.turn (H : StOk D) {O2 : List Nat} (h : AmB D t w x P) (g : Turn O2 w w') (ho : ∀ b, b ∈ P.blk → b ∉ O2) : AmB D t w' x P := h.kept H g.size fun b hb => g.block b (h.lt H b hb) (ho b hb)
theorem AmB.at (h : AmB D t w x P) : w.cell? ⟨P.a, 0, none⟩ = some (.pointer (some ⟨P.p, 0, none⟩)) ∧ w.cell? ⟨P.a, 1, none⟩ = some (.slice (some ⟨P.g, 0, none⟩) x.as.length x.as.length) := ⟨by rw [cell_of_row _ _ _ _ _ _ h.head]; rfl, by rw [cell_of_row _ _ _ _ _ _ h.head]; rfl⟩
theorem AmB.get (h : AmB D t w x P) (hx : x.as[j]? = some v) : w.cell? ⟨P.g, j, none⟩ = some (.int .i64 v) := own_z h.row hx
theorem AmB.frozen (h : AmB D t w x P) (o : Nat) : w.frozen? ⟨P.g, o, none⟩ = false := OwnOf.frozen h.row o
/-- One slot turns. -/
theorem AmB.set (H : StOk D) (h : AmB D t w x P) (j : Nat) (v : Int) : AmB D t (w.setCell ⟨P.g, j, none⟩ (.int .i64 v)) ⟨x.cs, x.as.set j v⟩ P := by
  have ho : ∀ b, b ≠ P.g → (w.setCell ⟨P.g, j, none⟩ (.int .i64 v)).heap[b]? = w.heap[b]? := fun b hb => heap_setCell_other w ⟨P.g, j, none⟩ b _ (by first | exact hb | exact hb.symm)
  have hl : (x.as.set j v).length = x.as.length := List.length_set
  refine ⟨?_, H.kept h.d (by simp) fun b hb => ho b fun e => h.gO (by rw [← e]; exact hb), ?_, h.ag, h.aO, h.gO⟩
  · show _ = some (Obj.cells #[_, .slice _ (x.as.set j v).length (x.as.set j v).length] _ _)
    rw [hl]
    exact (ho _ h.ag).trans h.head
  · show ZOwn _ _ (.slice _ (x.as.set j v).length (x.as.set j v).length) (x.as.set j v)
    rw [hl]
    exact ZOwn.set h.row j v
theorem AmB.set_turn (w : World) (P : AmP) (j : Nat) (v : Value) : Turn P.blk w (w.setCell ⟨P.g, j, none⟩ v) := Turn.setCell P.blk w P.g j v (AmP.mem.2 (.inr (.inl rfl)))
/-- Its counts turn. -/
theorem AmB.counts (H : StOk D) (h : AmB D t w x P) {cs : List Int} (k : SL D w w' P.p P.O cs) : ∃ P', P'.a = P.a ∧ P'.p = P.p ∧ P'.g = P.g ∧ AmB D t w' ⟨cs, x.as⟩ P' ∧ Turn P.blk w w' ∧ ∀ b, b ∈ P'.blk → b ∈ P.blk ∨ w.heap.size ≤ b := by
  obtain ⟨O', hd, ht, ho⟩ := k
  have ha := h.alt
  have hg := h.glt
  refine ⟨⟨P.a, P.p, P.g, O'⟩, rfl, rfl, rfl, ⟨(ht.block _ ha h.aO).trans h.head, hd, OwnOf.kept h.row fun b e => ?_, h.ag, fun hm => ?_, fun hm => ?_⟩, ht.mono fun b hb => AmP.mem.2 (.inr (.inr hb)), fun b hb => ?_⟩
  · have e : P.g = b := by simpa [Value.ownBlock] using e
    rw [← e]
    exact ht.block _ hg h.gO
  · have hm : P.a ∈ O' := hm
    rcases ho _ hm with h1 | h1
    · exact h.aO h1
    · omega
  · have hm : P.g ∈ O' := hm
    rcases ho _ hm with h1 | h1
    · exact h.gO h1
    · omega
  · rcases AmP.mem.1 hb with e | e | e
    · exact .inl (AmP.mem.2 (.inl e))
    · exact .inl (AmP.mem.2 (.inr (.inl e)))
    · rcases ho b e with h1 | h1
      · exact .inl (AmP.mem.2 (.inr (.inr h1)))
      · exact .inr h1
end

/-! ### all amaps of a pool -/
structure AmS (D : CD) (t : TypeId) (w : World) (L : AmL) (S : Nat → AmP) : Prop where
  each : ∀ i x, L[i]? = some (some x) → AmB D t w x (S i)
  apart : ∀ i j, liveA L i = true → liveA L j = true → i ≠ j → ∀ b, b ∈ (S i).blk → b ∉ (S j).blk
def blks (L : AmL) (S : Nat → AmP) : List Nat := ((List.range L.length).filter (liveA L)).flatMap fun i => (S i).blk
def ptrs (L : AmL) (S : Nat → AmP) (n : Nat) : List (Option Nat) := (List.range n).map fun i => if liveA L i = true then some (S i).a else none
def updA (S : Nat → AmP) (i : Nat) (P : AmP) : Nat → AmP := fun j => if j = i then P else S j
section
variable {D : CD} {t : TypeId} {w w' : World} {L L' : AmL} {S S' : Nat → AmP} {i j n b : Nat} {x y : AmV} {P : AmP}
theorem mem_blks : b ∈ blks L S ↔ ∃ i, liveA L i = true ∧ b ∈ (S i).blk := by
  unfold blks
  rw [List.mem_flatMap]
  constructor
  · rintro ⟨i, hi, hb⟩
    exact ⟨i, (List.mem_filter.1 hi).2, hb⟩
  · rintro ⟨i, hi, hb⟩
    exact ⟨i, List.mem_filter.2 ⟨List.mem_range.2 (liveA_lt hi), hi⟩, hb⟩
theorem live_get (h : liveA L i = true) : ∃ x, L[i]? = some (some x) := by
  unfold liveA at h
  split at h
  · rename_i x hx
    exact ⟨x, hx⟩
  · cases h
theorem ptrs_len : (ptrs L S n).length = n := by unfold ptrs; rw [List.length_map, List.length_range]
theorem ptrs_at (hj : j < n) : (ptrs L S n)[j]? = some (if liveA L j = true then some (S j).a else none) := by
  unfold ptrs
  rw [List.getElem?_map, List.getElem?_range hj]
  rfl
theorem ptrs_out (hj : ¬ j < n) : (ptrs L S n)[j]? = none := List.getElem?_eq_none (by rw [ptrs_len]; omega)
theorem updA_same : updA S i P i = P := if_pos rfl
theorem updA_other (h : j ≠ i) : updA S i P j = S j := if_neg h
theorem AmS.lt (H : StOk D) (h : AmS D t w L S) : ∀ b, b ∈ blks L S → b < w.heap.size := fun b hb => by
  obtain ⟨i, hi, hb⟩ := mem_blks.1 hb
  obtain ⟨x, hx⟩ := live_get hi
  exact (h.each i x hx).lt H b hb
theorem AmS.kept (H : StOk D) (h : AmS D t w L S) (hs : w.heap.size ≤ w'.heap.size) (hb : ∀ b, b ∈ blks L S → w'.heap[b]? = w.heap[b]?) : AmS D t w' L S :=
  ⟨fun i x hx => (h.each i x hx).kept H hs fun b k => hb b (mem_blks.2 ⟨i, liveA_some hx, k⟩), h.apart⟩
theorem live_set_some (h : liveA L i = true) (y : AmV) : liveA (L.set i (some y)) j = liveA L j := by
  unfold liveA
  rw [List.getElem?_set]
  by_cases e : i = j
  · subst e
    rw [if_pos rfl, if_pos (liveA_lt h)]
    exact h.symm
  · rw [if_neg e]
theorem live_set_none : liveA (L.set i none) j = if j = i then false else liveA L j := by
  unfold liveA
  rw [List.getElem?_set]
  by_cases e : i = j
  · subst e
    rw [if_pos rfl, if_pos rfl]
    by_cases h : i < L.length
    · rw [if_pos h]
    · rw [if_neg h]
  · rw [if_neg e, if_neg (fun k => e k.symm)]
theorem live_put (hi : i ≤ L.length) : liveA (putA L i (some y)) j = if j = i then true else liveA L j := by
  unfold liveA
  rw [put_at hi]
  by_cases e : j = i
  · rw [if_pos e, if_pos e]
  · rw [if_neg e, if_neg e]
theorem AmS.turned (H : StOk D) (h : AmS D t w L S) (hx : L[i]? = some (some x)) (hb : AmB D t w' y P) (k : Turn (S i).blk w w') (o : ∀ b, b ∈ P.blk → b ∈ (S i).blk ∨ w.heap.size ≤ b) : AmS D t w' (L.set i (some y)) (updA S i P) := by
  have hl := liveA_some hx
  refine ⟨fun j z hz => ?_, fun j m hj hm hne b hb => ?_⟩
  · rw [List.getElem?_set] at hz
    by_cases e : i = j
    · subst e
      rw [if_pos rfl, if_pos (liveA_lt hl)] at hz
      cases hz
      rw [updA_same]; exact hb
    · rw [if_neg e] at hz
      rw [updA_other (fun k => e k.symm)]
      exact (h.each j z hz).turn H k fun b hb hm => h.apart j i (liveA_some hz) hl (fun k => e k.symm) b hb hm
  · rw [live_set_some hl] at hj hm
    have hlt : ∀ m, liveA L m = true → ∀ b, b ∈ (S m).blk → b < w.heap.size := fun m hm b hb => h.lt H b (mem_blks.2 ⟨m, hm, hb⟩)
    by_cases e1 : j = i
    · subst e1
      rw [updA_same] at hb
      rw [updA_other (fun k => hne k.symm)]
      intro hm2
      rcases o b hb with h1 | h1
      · exact h.apart j m hj hm hne b h1 hm2
      · have := hlt m hm b hm2; omega
    · rw [updA_other e1] at hb
      by_cases e2 : m = i
      · subst e2
        rw [updA_same]
        intro hm2
        rcases o b hm2 with h1 | h1
        · exact h.apart j m hj hm hne b hb h1
        · have := hlt j hj b hb; omega
      · rw [updA_other e2]
        exact h.apart j m hj hm hne b hb
theorem AmS.gone (h : AmS D t w L S) : AmS D t w (L.set i none) S := by
  refine ⟨fun j z hz => ?_, fun j m hj hm hne b hb => ?_⟩
  · rw [List.getElem?_set] at hz
    by_cases e : i = j
    · rw [if_pos e] at hz
      split at hz <;> cases hz
    · rw [if_neg e] at hz
      exact h.each j z hz
  · rw [live_set_none] at hj hm
    split at hj
    · cases hj
    · split at hm
      · cases hm
      · exact h.apart j m hj hm hne b hb
theorem AmS.put (h : AmS D t w L S) (hi : i ≤ L.length) (hb : AmB D t w y P) (o : ∀ b, b ∈ P.blk → b ∉ blks L S) : AmS D t w (putA L i (some y)) (updA S i P) := by
  refine ⟨fun j z hz => ?_, fun j m hj hm hne b hb => ?_⟩
  · rw [put_at hi] at hz
    by_cases e : j = i
    · rw [if_pos e] at hz
      cases hz
      rw [e, updA_same]; exact hb
    · rw [if_neg e] at hz
      rw [updA_other e]
      exact h.each j z hz
  · rw [live_put hi] at hj hm
    by_cases e1 : j = i
    · subst e1
      rw [updA_same] at hb
      rw [updA_other (fun k => hne k.symm)]
      rw [if_neg (fun k => hne k.symm)] at hm
      exact fun hm2 => o b hb (mem_blks.2 ⟨m, hm, hm2⟩)
    · rw [updA_other e1] at hb
      rw [if_neg e1] at hj
      by_cases e2 : m = i
      · subst e2
        rw [updA_same]
        exact fun hm2 => o b hm2 (mem_blks.2 ⟨j, hj, hb⟩)
      · rw [updA_other e2]
        rw [if_neg e2] at hm
        exact h.apart j m hj hm hne b hb
theorem blks_turned (hl : liveA L i = true) (hb : b ∈ blks (L.set i (some y)) (updA S i P)) : b ∈ blks L S ∨ b ∈ P.blk := by
  obtain ⟨j, hj, hb⟩ := mem_blks.1 hb
  rw [live_set_some hl] at hj
  by_cases e : j = i
  · subst e; rw [updA_same] at hb; exact .inr hb
  · rw [updA_other e] at hb; exact .inl (mem_blks.2 ⟨j, hj, hb⟩)
theorem blks_gone (hb : b ∈ blks (L.set i none) S) : b ∈ blks L S := by
  obtain ⟨j, hj, hb⟩ := mem_blks.1 hb
  rw [live_set_none] at hj
  split at hj
  · cases hj
  · exact mem_blks.2 ⟨j, hj, hb⟩
theorem blks_put (hi : i ≤ L.length) (hb : b ∈ blks (putA L i (some y)) (updA S i P)) : b ∈ blks L S ∨ b ∈ P.blk := by
  obtain ⟨j, hj, hb⟩ := mem_blks.1 hb
  rw [live_put hi] at hj
  by_cases e : j = i
  · subst e; rw [updA_same] at hb; exact .inr hb
  · rw [updA_other e] at hb; rw [if_neg e] at hj; exact .inl (mem_blks.2 ⟨j, hj, hb⟩)
theorem ptrs_turned (hl : liveA L i = true) (ha : P.a = (S i).a) : ptrs (L.set i (some y)) (updA S i P) n = ptrs L S n := by
  unfold ptrs
  refine List.map_congr_left fun j _ => ?_
  rw [live_set_some hl]
  by_cases e : j = i
  · rw [e, updA_same, ha]
  · rw [updA_other e]
theorem ptrs_gone (hi : i < n) : ptrs (L.set i none) S n = (ptrs L S n).set i none := by
  refine List.ext_getElem? fun j => ?_
  rw [List.getElem?_set]
  by_cases hj : j < n
  · by_cases e : i = j
    · subst e
      rw [if_pos rfl, ptrs_len, if_pos hi, ptrs_at hj, show liveA (L.set i none) i = false by rw [live_set_none, if_pos rfl]]
      rfl
    · rw [if_neg e, ptrs_at hj, ptrs_at hj, show liveA (L.set i none) j = liveA L j by rw [live_set_none, if_neg (fun k => e k.symm)]]
  · rw [ptrs_out hj, if_neg (by omega), ptrs_out hj]
theorem ptrs_put (hl : i ≤ L.length) (hi : i < n) : ptrs (putA L i (some y)) (updA S i P) n = (ptrs L S n).set i (some P.a) := by
  refine List.ext_getElem? fun j => ?_
  rw [List.getElem?_set]
  by_cases hj : j < n
  · by_cases e : i = j
    · subst e
      rw [if_pos rfl, ptrs_len, if_pos hi, ptrs_at hj, show liveA (putA L i (some y)) i = true by rw [live_put hl, if_pos rfl], updA_same]
      rfl
    · rw [if_neg e, ptrs_at hj, ptrs_at hj, show liveA (putA L i (some y)) j = liveA L j by rw [live_put hl, if_neg (fun k => e k.symm)], updA_other (fun k => e k.symm)]
  · rw [ptrs_out hj, if_neg (by omega), ptrs_out hj]
theorem ptrs_more (hl : n = L.length) : ptrs (putA L n (some y)) (updA S n P) (n + 1) = ptrs L S n ++ [some P.a] := by
  unfold ptrs
  rw [List.range_succ, List.map_append]
  congr 1
  · refine List.map_congr_left fun j hj => ?_
    have hj := List.mem_range.1 hj
    rw [show liveA (putA L n (some y)) j = liveA L j by rw [live_put (by omega), if_neg (by omega)], updA_other (by omega)]
  · rw [List.map_cons, List.map_nil, show liveA (putA L n (some y)) n = true by rw [live_put (by omega), if_pos rfl], updA_same]
    rfl
theorem p_set (xs : List (Option Nat)) (i : Nat) (u : Option Nat) : (xs.set i u).flatMap pCells = (xs.flatMap pCells).set i (.pointer (u.map fun a => ⟨a, 0, none⟩)) := by
  rw [p_flat, p_flat, List.map_set]
end

/-! ### a pool: two cells, the second one the row of the amaps' pointers -/
structure PoolA (D : CD) (tp ta te : TypeId) (hd : Value) (w : World) (p : Nat) (v : Value) (n : Nat) (L : AmL) (S : Nat → AmP) : Prop where
  head : w.heap[p]? = some (.cells #[hd, v] tp (0, 0))
  row : OwnOf pCells 1 te w 0 v (ptrs L S n)
  am : AmS D ta w L S
  ne : v.ownBlock ≠ some p
  pb : p ∉ blks L S
  vb : ∀ b, v.ownBlock = some b → b ∉ blks L S
def blkA (p : Nat) (v : Value) (L : AmL) (S : Nat → AmP) : List Nat := p :: (v.ownBlock.toList ++ blks L S)
section
variable {D : CD} {tp ta te : TypeId} {hd : Value} {w w' : World} {p n i j b g c : Nat} {v v' : Value} {L L' : AmL} {S S' : Nat → AmP} {x y : AmV} {P : AmP}
theorem mem_blkA : b ∈ blkA p v L S ↔ b = p ∨ v.ownBlock = some b ∨ b ∈ blks L S := by unfold blkA; simp
theorem PoolA.plt (h : PoolA D tp ta te hd w p v n L S) : p < w.heap.size := (Array.getElem?_eq_some_iff.1 h.head).1
theorem PoolA.vlt (h : PoolA D tp ta te hd w p v n L S) (e : v.ownBlock = some b) : b < w.heap.size := (OwnOf.lt h.row e).2
theorem PoolA.lt (H : StOk D) (h : PoolA D tp ta te hd w p v n L S) : ∀ b, b ∈ blkA p v L S → b < w.heap.size := fun b hb => by
  rcases mem_blkA.1 hb with rfl | hb | hb
  · exact h.plt
  · exact h.vlt hb
  · exact h.am.lt H b hb
theorem PoolA.kept (H : StOk D) (h : PoolA D tp ta te hd w p v n L S) (hs : w.heap.size ≤ w'.heap.size) (hb : ∀ b, b ∈ blkA p v L S → w'.heap[b]? = w.heap[b]?) : PoolA D tp ta te hd w' p v n L S :=
  ⟨(hb _ (mem_blkA.2 (.inl rfl))).trans h.head, OwnOf.kept h.row fun b e => hb b (mem_blkA.2 (.inr (.inl e))), h.am.kept H hs fun b k => hb b (mem_blkA.2 (.inr (.inr k))), h.ne, h.pb, h.vb⟩
theorem PoolA.grow (H : StOk D) (h : PoolA D tp ta te hd w p v n L S) (k : w.grownBy w' none) : PoolA D tp ta te hd w' p v n L S := h.kept H k.size fun b hb => k.block b (h.lt H b hb) (by simp)
theorem PoolA.at (h : PoolA D tp ta te hd w p v n L S) : w.cell? ⟨p, 0, none⟩ = some hd ∧ w.cell? ⟨p, 1, none⟩ = some v := ⟨by rw [cell_of_row _ _ _ _ _ _ h.head]; rfl, by rw [cell_of_row _ _ _ _ _ _ h.head]; rfl⟩
theorem PoolA.frozen (h : PoolA D tp ta te hd w p v n L S) (o : Nat) : w.frozen? ⟨p, o, none⟩ = false := frozen_of_row _ _ _ _ _ h.head
theorem PoolA.form (h : PoolA D tp ta te hd w p v n L S) : ∃ a c, v = .slice a n c := by
  obtain ⟨a, c, e⟩ := OwnOf.form h.row
  rw [ptrs_len] at e
  exact ⟨a, c, e⟩
theorem PoolA.there (h : PoolA D tp ta te hd w p v n L S) (hn : 0 < n) : ∃ g c, v = .slice (some ⟨g, 0, none⟩) n c := by
  obtain ⟨g, c, e⟩ := OwnOf.there h.row (by rw [ptrs_len]; exact hn)
  rw [ptrs_len] at e
  exact ⟨g, c, e⟩
theorem PoolA.cell (h : PoolA D tp ta te hd w p (.slice (some ⟨g, 0, none⟩) n c) n L S) (hj : j < n) : w.cell? ⟨g, j, none⟩ = some (.pointer ((if liveA L j = true then some (S j).a else none).map fun a => ⟨a, 0, none⟩)) := by
  have h1 := h.row
  rw [show n = (ptrs L S n).length from ptrs_len.symm] at h1
  have h2 := ptrs_at (L := L) (S := S) hj
  rw [ptrs_len (L := L) (S := S) (n := n)] at h1
  have h3 := OwnOf.at (g := g) (c := c) p_len (by rw [ptrs_len]; exact h1) h2 (q := 0) rfl
  rwa [Nat.mul_one, Nat.add_zero] at h3
theorem PoolA.live (h : PoolA D tp ta te hd w p (.slice (some ⟨g, 0, none⟩) n c) n L S) (hj : j < n) (hx : L[j]? = some (some x)) : w.cell? ⟨g, j, none⟩ = some (.pointer (some ⟨(S j).a, 0, none⟩)) := by
  rw [h.cell hj, if_pos (liveA_some hx)]; rfl
theorem PoolA.dead (h : PoolA D tp ta te hd w p (.slice (some ⟨g, 0, none⟩) n c) n L S) (hj : j < n) (hx : liveA L j = false) : w.cell? ⟨g, j, none⟩ = some (.pointer none) := by
  rw [h.cell hj, hx, if_neg (by decide)]; rfl
theorem PoolA.vfrozen (h : PoolA D tp ta te hd w p (.slice (some ⟨g, 0, none⟩) n c) n L S) (o : Nat) : w.frozen? ⟨g, o, none⟩ = false := by
  have h1 := h.row
  rw [show (.slice (some ⟨g, 0, none⟩) n c : Value) = .slice (some ⟨g, 0, none⟩) (ptrs L S n).length c by rw [ptrs_len]] at h1
  exact OwnOf.frozen h1 o
/-- One amap turns. -/
theorem PoolA.turned (H : StOk D) (h : PoolA D tp ta te hd w p v n L S) (hx : L[i]? = some (some x)) (hb : AmB D ta w' y P) (ha : P.a = (S i).a) (k : Turn (S i).blk w w') (o : ∀ b, b ∈ P.blk → b ∈ (S i).blk ∨ w.heap.size ≤ b) :
    PoolA D tp ta te hd w' p v n (L.set i (some y)) (updA S i P) ∧ Turn (blkA p v L S) w w' ∧ ∀ b, b ∈ blkA p v (L.set i (some y)) (updA S i P) → b ∈ blkA p v L S ∨ w.heap.size ≤ b := by
  have hl := liveA_some hx
  have hin : ∀ b, b ∈ (S i).blk → b ∈ blks L S := fun b hb => mem_blks.2 ⟨i, hl, hb⟩
  have ho : ∀ b, b ∈ blks (L.set i (some y)) (updA S i P) → b ∈ blks L S ∨ w.heap.size ≤ b := fun b hb => by
    rcases blks_turned hl hb with h1 | h1
    · exact .inl h1
    · rcases o b h1 with h2 | h2
      · exact .inl (hin b h2)
      · exact .inr h2
  refine ⟨⟨(k.block _ h.plt fun hm => h.pb (hin _ hm)).trans h.head, by rw [ptrs_turned hl ha]; exact own_turn h.row k fun b e hm => h.vb b e (hin _ hm), h.am.turned H hx hb k o, h.ne, fun hm => ?_, fun b e hm => ?_⟩, k.mono fun b hb => mem_blkA.2 (.inr (.inr (hin b hb))), fun b hb => ?_⟩
  · rcases ho _ hm with h1 | h1
    · exact h.pb h1
    · have := h.plt; omega
  · rcases ho _ hm with h1 | h1
    · exact h.vb b e h1
    · have := h.vlt e; omega
  · rcases mem_blkA.1 hb with e | e | e
    · exact .inl (mem_blkA.2 (.inl e))
    · exact .inl (mem_blkA.2 (.inr (.inl e)))
    · rcases ho b e with h1 | h1
      · exact .inl (mem_blkA.2 (.inr (.inr h1)))
      · exact .inr h1
theorem PoolA.rowset (h : PoolA D tp ta te hd w p (.slice (some ⟨g, 0, none⟩) n c) n L S) (u : Option Nat) : OwnOf pCells 1 te (w.setCell ⟨g, i, none⟩ (.pointer (u.map fun a => ⟨a, 0, none⟩))) 0 (.slice (some ⟨g, 0, none⟩) n c) ((ptrs L S n).set i u) := by
  have h1 := h.row
  have e : (.slice (some ⟨g, 0, none⟩) n c : Value) = .slice (some ⟨g, 0, none⟩) (ptrs L S n).length c := by rw [ptrs_len]
  rw [e] at h1 ⊢
  exact OwnOf.turn h1 (by simp) (p_set _ _ _)
/-- An amap goes. -/
theorem PoolA.gone (H : StOk D) (h : PoolA D tp ta te hd w p (.slice (some ⟨g, 0, none⟩) n c) n L S) (hi : i < n) :
    PoolA D tp ta te hd (w.setCell ⟨g, i, none⟩ (.pointer none)) p (.slice (some ⟨g, 0, none⟩) n c) n (L.set i none) S ∧ Turn (blkA p (.slice (some ⟨g, 0, none⟩) n c) L S) w (w.setCell ⟨g, i, none⟩ (.pointer none)) ∧ ∀ b, b ∈ blkA p (.slice (some ⟨g, 0, none⟩) n c) (L.set i none) S → b ∈ blkA p (.slice (some ⟨g, 0, none⟩) n c) L S := by
  have ho : ∀ b, b ≠ g → (w.setCell ⟨g, i, none⟩ (.pointer none)).heap[b]? = w.heap[b]? := fun b hb => heap_setCell_other w ⟨g, i, none⟩ b _ (by first | exact hb | exact hb.symm)
  have hgb := h.vb g rfl
  refine ⟨⟨(ho _ fun e => h.ne (by rw [e]; rfl)).trans h.head, by rw [ptrs_gone hi]; exact h.rowset none, (h.am.kept H (by simp) fun b hb => ho b fun e => hgb (by rw [← e]; exact hb)).gone, h.ne, fun hm => h.pb (blks_gone hm), fun b e hm => h.vb b e (blks_gone hm)⟩, Turn.setCell _ w g i _ (mem_blkA.2 (.inr (.inl rfl))), fun b hb => ?_⟩
  rcases mem_blkA.1 hb with e | e | e
  · exact mem_blkA.2 (.inl e)
  · exact mem_blkA.2 (.inr (.inl e))
  · exact mem_blkA.2 (.inr (.inr (blks_gone e)))
/-- A new amap, in a place that is there. -/
theorem PoolA.put (H : StOk D) (h : PoolA D tp ta te hd w p (.slice (some ⟨g, 0, none⟩) n c) n L S) (hl : i ≤ L.length) (hi : i < n) (hb : AmB D ta w y P) (o : ∀ b, b ∈ P.blk → b ∉ blkA p (.slice (some ⟨g, 0, none⟩) n c) L S) :
    PoolA D tp ta te hd (w.setCell ⟨g, i, none⟩ (.pointer (some ⟨P.a, 0, none⟩))) p (.slice (some ⟨g, 0, none⟩) n c) n (putA L i (some y)) (updA S i P) ∧ Turn (blkA p (.slice (some ⟨g, 0, none⟩) n c) L S) w (w.setCell ⟨g, i, none⟩ (.pointer (some ⟨P.a, 0, none⟩))) ∧ ∀ b, b ∈ blkA p (.slice (some ⟨g, 0, none⟩) n c) (putA L i (some y)) (updA S i P) → b ∈ blkA p (.slice (some ⟨g, 0, none⟩) n c) L S ∨ b ∈ P.blk := by
  have ho : ∀ b, b ≠ g → (w.setCell ⟨g, i, none⟩ (.pointer (some ⟨P.a, 0, none⟩))).heap[b]? = w.heap[b]? := fun b hb => heap_setCell_other w ⟨g, i, none⟩ b _ (by first | exact hb | exact hb.symm)
  have hgb := h.vb g rfl
  have og : g ∉ P.blk := fun hm => o g hm (mem_blkA.2 (.inr (.inl rfl)))
  have op : p ∉ P.blk := fun hm => o p hm (mem_blkA.2 (.inl rfl))
  refine ⟨⟨(ho _ fun e => h.ne (by rw [e]; rfl)).trans h.head, by rw [ptrs_put hl hi]; exact h.rowset (some P.a), (h.am.kept H (by simp) fun b hb => ho b fun e => hgb (by rw [← e]; exact hb)).put hl (hb.kept H (by simp) fun b hb => ho b fun e => og (by rw [← e]; exact hb)) (fun b hb hm => o b hb (mem_blkA.2 (.inr (.inr hm)))), h.ne, fun hm => ?_, fun b e hm => ?_⟩, Turn.setCell _ w g i _ (mem_blkA.2 (.inr (.inl rfl))), fun b hb => ?_⟩
  · rcases blks_put hl hm with h1 | h1
    · exact h.pb h1
    · exact op h1
  · rcases blks_put hl hm with h1 | h1
    · exact h.vb b e h1
    · have e : g = b := by simpa [Value.ownBlock] using e
      rw [← e] at h1
      exact og h1
  · rcases mem_blkA.1 hb with e | e | e
    · exact .inl (mem_blkA.2 (.inl e))
    · exact .inl (mem_blkA.2 (.inr (.inl e)))
    · rcases blks_put hl e with h1 | h1
      · exact .inl (mem_blkA.2 (.inr (.inr h1)))
      · exact .inr h1
/-- A new amap, behind the last place: the row is another one. -/
theorem PoolA.more (H : StOk D) (h : PoolA D tp ta te hd w p v n L S) (hl : n = L.length) (k : w.grownBy w' v.ownBlock) (hr : OwnOf pCells 1 te w' 0 v' (ptrs L S n ++ [some P.a])) (hv : ∀ b, v'.ownBlock = some b → v.ownBlock = some b ∨ w.heap.size ≤ b) (hb : AmB D ta w y P) (o : ∀ b, b ∈ P.blk → b ∉ blkA p v L S) (hbp : ∀ b, v'.ownBlock = some b → b ∉ P.blk) :
    PoolA D tp ta te hd (w'.setCell ⟨p, 1, none⟩ v') p v' (n + 1) (putA L n (some y)) (updA S n P) ∧ Turn (blkA p v L S) w (w'.setCell ⟨p, 1, none⟩ v') ∧ ∀ b, b ∈ blkA p v' (putA L n (some y)) (updA S n P) → b ∈ blkA p v L S ∨ w.heap.size ≤ b ∨ b ∈ P.blk := by
  have ho : ∀ b, b ≠ p → (w'.setCell ⟨p, 1, none⟩ v').heap[b]? = w'.heap[b]? := fun b hb => heap_setCell_other w' ⟨p, 1, none⟩ b _ (by first | exact hb | exact hb.symm)
  have op : p ∉ P.blk := fun hm => o p hm (mem_blkA.2 (.inl rfl))
  have hs : w.heap.size ≤ (w'.setCell ⟨p, 1, none⟩ v').heap.size := by simpa using k.size
  have hp := h.plt
  have hnp : v'.ownBlock ≠ some p := fun e => by
    rcases hv p e with h1 | h1
    · exact h.ne h1
    · omega
  have hh : w'.heap[p]? = some (.cells #[hd, v] tp (0, 0)) := (k.block p hp fun e => h.ne e.symm).trans h.head
  have hin : ∀ b, v.ownBlock = some b → b ∈ blkA p v L S := fun b e => mem_blkA.2 (.inr (.inl e))
  have hold : ∀ b, b ∈ blks L S → (w'.setCell ⟨p, 1, none⟩ v').heap[b]? = w.heap[b]? := fun b hb => (ho b fun e => h.pb (by rw [← e]; exact hb)).trans (k.block b (h.am.lt H b hb) fun e => h.vb b e.symm hb)
  have hnew : ∀ b, b ∈ P.blk → (w'.setCell ⟨p, 1, none⟩ v').heap[b]? = w.heap[b]? := fun b hb' => (ho b fun e => op (by rw [← e]; exact hb')).trans (k.block b (hb.lt H b hb') fun e => o b hb' (hin b e.symm))
  have hk : Turn (blkA p v L S) w w' := by
    refine ⟨k.os, k.tape, k.output, k.size, fun b hb hO => k.block b hb fun e => hO (hin b e.symm)⟩
  refine ⟨⟨heap_setCell_same w' p 1 _ _ _ hh, by rw [ptrs_more hl]; exact OwnOf.kept hr fun b e => ho b fun e2 => hnp (by rw [← e2]; exact e), (h.am.kept H hs hold).put (by omega) (hb.kept H hs hnew) (fun b hb hm => o b hb (mem_blkA.2 (.inr (.inr hm)))), hnp, fun hm => ?_, fun b e hm => ?_⟩, hk.trans' (Turn.setCell _ w' p 1 _ (mem_blkA.2 (.inl rfl))), fun b hb => ?_⟩
  · rcases blks_put (by omega) hm with h1 | h1
    · exact h.pb h1
    · exact op h1
  · rcases blks_put (by omega) hm with h1 | h1
    · rcases hv b e with h2 | h2
      · exact h.vb b h2 h1
      · have := h.am.lt H b h1; omega
    · exact hbp b e h1
  · rcases mem_blkA.1 hb with e | e | e
    · exact .inl (mem_blkA.2 (.inl e))
    · rcases hv b e with h2 | h2
      · exact .inl (hin b h2)
      · exact .inr (.inl h2)
    · rcases blks_put (by omega) e with h1 | h1
      · exact .inl (mem_blkA.2 (.inr (.inr h1)))
      · exact .inr (.inr h1)
end
/-- A pool behind a call: its blocks are elder ones or new. -/
def ALa (D : World → Nat → Nat → AmL → List Nat → Prop) (w w' : World) (p most : Nat) (O : List Nat) (L' : AmL) : Prop := ∃ O', D w' p most L' O' ∧ Turn O w w' ∧ ∀ b, b ∈ O' → b ∈ O ∨ w.heap.size ≤ b
/-- Which amap a number names, and what that says of the list. -/
theorem of_cases (L : AmL) (id : Int) : (ofA L id = none ∧ (¬ (1 ≤ id ∧ id ≤ L.length) ∨ ∃ i : Nat, id = (i : Int) + 1 ∧ i < L.length ∧ liveA L i = false)) ∨ ∃ (i : Nat) (x : AmV), id = (i : Int) + 1 ∧ i < L.length ∧ L[i]? = some (some x) ∧ ofA L id = some x := by
  by_cases h : 1 ≤ id ∧ id ≤ L.length
  · obtain ⟨i, rfl⟩ : ∃ i : Nat, id = (i : Int) + 1 := ⟨(id - 1).toNat, by omega⟩
    obtain ⟨z, hz⟩ : ∃ z, L[i]? = some z := ⟨_, List.getElem?_eq_getElem (by omega)⟩
    cases z with
    | some x => exact .inr ⟨i, x, rfl, by omega, hz, ofA_at hz⟩
    | none =>
      refine .inl ⟨?_, .inr ⟨i, rfl, by omega, liveA_none hz⟩⟩
      unfold ofA
      rw [if_pos h, show ((i : Int) + 1 - 1).toNat = i by omega, hz]
  · exact .inl ⟨if_neg h, .inl h⟩
end Go.Proofs.Ytfmihbiongnpnaa
