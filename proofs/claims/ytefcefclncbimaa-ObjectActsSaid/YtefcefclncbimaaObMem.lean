/- Layer 14: objects in memory, over pages of any kind (D): the document's rows and the landed maps alike; the document's pool. -/
import Derived.Test.YtefcefclncbimaaObList
import Derived.Test.YtefcefclncbimaaZRow
namespace Go.Proofs.Ytefcefclncbimaa
open Go.ChangeShapes Go.WideShapes Go.ChangeAt Go.RowKit Go.Deep
set_option linter.unusedVariables false

theorem own_turn {α : Type} {cells : α → List Value} {size : Nat} {t : TypeId} {w w' : World} {base : Nat} {v : Value} {xs : List α} {P : List Nat} (h : OwnOf cells size t w base v xs) (k : Turn P w w') (hP : ∀ b, v.ownBlock = some b → b ∉ P) : OwnOf cells size t w' base v xs :=
  OwnOf.kept h fun b hb => k.block b (OwnOf.lt h hb).2 (hP b hb)

def pCells (x : Option Nat) : List Value := [.pointer (x.map fun a => ⟨a, 0, none⟩)]
theorem p_len (x : Option Nat) : (pCells x).length = 1 := rfl
theorem p_flat (xs : List (Option Nat)) : xs.flatMap pCells = xs.map fun x => Value.pointer (x.map fun a => ⟨a, 0, none⟩) := by
  induction xs with
  | nil => rfl
  | cons x xs ih => rw [List.flatMap_cons, ih]; rfl
theorem p_ones (xs : List (Option Nat)) : ∀ u, u ∈ xs.flatMap pCells → u.oneCell' = true := by
  intro u hu
  obtain ⟨y, _, hy⟩ := List.mem_flatMap.1 hu
  simp [pCells] at hy
  rw [hy]; rfl
/-- Pages lie in blocks, and hang on these alone. -/
abbrev PD := World → Value → PgL → List Nat → Prop
structure PdOk (D : PD) : Prop where
  lt : ∀ {w v l O}, D w v l O → ∀ b, b ∈ O → b < w.heap.size
  kept : ∀ {w w' v l O}, D w v l O → w.heap.size ≤ w'.heap.size → (∀ b, b ∈ O → w'.heap[b]? = w.heap[b]?) → D w' v l O
/-- Where an object lies: itself, what leads to its pages, their blocks. -/
structure ObP where
  a : Nat
  v : Value
  O : List Nat
def ObP.blk (P : ObP) : List Nat := P.a :: P.O
structure ObB (D : PD) (t : TypeId) (w : World) (x : ObV) (P : ObP) : Prop where
  head : w.heap[P.a]? = some (.cells #[.int .i64 x.file, .int .i64 x.re, P.v] t (0, 0))
  d : D w P.v x.L P.O
  aO : P.a ∉ P.O
section
variable {D : PD} {t : TypeId} {w w' : World} {x : ObV} {P : ObP}
theorem ObP.mem {b : Nat} : b ∈ P.blk ↔ b = P.a ∨ b ∈ P.O := by unfold ObP.blk; simp
theorem ObB.alt (h : ObB D t w x P) : P.a < w.heap.size := (Array.getElem?_eq_some_iff.1 h.head).1
theorem ObB.lt (H : PdOk D) (h : ObB D t w x P) : ∀ b, b ∈ P.blk → b < w.heap.size := fun b hb => by
  rcases ObP.mem.1 hb with rfl | hb
  · exact h.alt
  · exact H.lt h.d b hb
theorem ObB.kept (H : PdOk D) (h : ObB D t w x P) (hs : w.heap.size ≤ w'.heap.size) (hb : ∀ b, b ∈ P.blk → w'.heap[b]? = w.heap[b]?) : ObB D t w' x P :=
  ⟨(hb _ (ObP.mem.2 (.inl rfl))).trans h.head, H.kept h.d hs fun b k => hb b (ObP.mem.2 (.inr k)), h.aO⟩
theorem ObB.grow (H : PdOk D) (h : ObB D t w x P) (g : w.grownBy w' none) : ObB D t w' x P := h.kept H g.size fun b hb => g.block b (h.lt H b hb) (by simp)
theorem ObB.turn (H : PdOk D) {O2 : List Nat} (h : ObB D t w x P) (g : Turn O2 w w') (ho : ∀ b, b ∈ P.blk → b ∉ O2) : ObB D t w' x P := h.kept H g.size fun b hb => g.block b (h.lt H b hb) (ho b hb)
theorem ObB.at (h : ObB D t w x P) : w.cell? ⟨P.a, 0, none⟩ = some (.int .i64 x.file) ∧ w.cell? ⟨P.a, 1, none⟩ = some (.int .i64 x.re) ∧ w.cell? ⟨P.a, 2, none⟩ = some P.v := ⟨by rw [cell_of_row _ _ _ _ _ _ h.head]; rfl, by rw [cell_of_row _ _ _ _ _ _ h.head]; rfl, by rw [cell_of_row _ _ _ _ _ _ h.head]; rfl⟩
theorem ObB.frozen (h : ObB D t w x P) (o : Nat) : w.frozen? ⟨P.a, o, none⟩ = false := frozen_of_row _ _ _ _ _ h.head
/-- Its references turn. -/
theorem ObB.setRe (H : PdOk D) (h : ObB D t w x P) (r : Int) : ObB D t (w.setCell ⟨P.a, 1, none⟩ (.int .i64 r)) ⟨x.file, r, x.L⟩ P :=
  ⟨heap_setCell_same w P.a 1 _ _ _ h.head, H.kept h.d (by simp) fun b hb => heap_setCell_other w ⟨P.a, 1, none⟩ b _ (by first | exact fun e => h.aO (by (have e : P.a = b := e); rw [e]; exact hb) | exact fun e => h.aO (by (have e : b = P.a := e); rw [← e]; exact hb)), h.aO⟩
/-- It gets other pages, of new blocks. -/
theorem ObB.setL (H : PdOk D) (h : ObB D t w x P) {v : Value} {l : PgL} {O : List Nat} (hd : D w v l O) (ho : P.a ∉ O) : ObB D t (w.setCell ⟨P.a, 2, none⟩ v) ⟨x.file, x.re, l⟩ ⟨P.a, v, O⟩ :=
  ⟨heap_setCell_same w P.a 2 _ _ _ h.head, H.kept hd (by simp) fun b hb => heap_setCell_other w ⟨P.a, 2, none⟩ b _ (by first | exact fun e => ho (by (have e : P.a = b := e); rw [e]; exact hb) | exact fun e => ho (by (have e : b = P.a := e); rw [← e]; exact hb)), ho⟩
end

/-! ### all objects of a pool -/
structure ObS (D : PD) (t : TypeId) (w : World) (L : ObL) (S : Nat → ObP) : Prop where
  each : ∀ i x, L[i]? = some (some x) → ObB D t w x (S i)
  apart : ∀ i j, liveO L i = true → liveO L j = true → i ≠ j → ∀ b, b ∈ (S i).blk → b ∉ (S j).blk
def blks (L : ObL) (S : Nat → ObP) : List Nat := ((List.range L.length).filter (liveO L)).flatMap fun i => (S i).blk
def ptrs (L : ObL) (S : Nat → ObP) (n : Nat) : List (Option Nat) := (List.range n).map fun i => if liveO L i = true then some (S i).a else none
def updO (S : Nat → ObP) (i : Nat) (P : ObP) : Nat → ObP := fun j => if j = i then P else S j
section
variable {D : PD} {t : TypeId} {w w' : World} {L L' : ObL} {S S' : Nat → ObP} {i j n b : Nat} {x y : ObV} {P : ObP}
theorem mem_blks : b ∈ blks L S ↔ ∃ i, liveO L i = true ∧ b ∈ (S i).blk := by
  unfold blks
  rw [List.mem_flatMap]
  constructor
  · rintro ⟨i, hi, hb⟩
    exact ⟨i, (List.mem_filter.1 hi).2, hb⟩
  · rintro ⟨i, hi, hb⟩
    exact ⟨i, List.mem_filter.2 ⟨List.mem_range.2 (liveO_lt hi), hi⟩, hb⟩
theorem ptrs_len : (ptrs L S n).length = n := by unfold ptrs; rw [List.length_map, List.length_range]
theorem ptrs_at (hj : j < n) : (ptrs L S n)[j]? = some (if liveO L j = true then some (S j).a else none) := by
  unfold ptrs
  rw [List.getElem?_map, List.getElem?_range hj]
  rfl
theorem ptrs_out (hj : ¬ j < n) : (ptrs L S n)[j]? = none := List.getElem?_eq_none (by rw [ptrs_len]; omega)
theorem updO_same : updO S i P i = P := if_pos rfl
theorem updO_other (h : j ≠ i) : updO S i P j = S j := if_neg h
theorem ObS.lt (H : PdOk D) (h : ObS D t w L S) : ∀ b, b ∈ blks L S → b < w.heap.size := fun b hb => by
  obtain ⟨i, hi, hb⟩ := mem_blks.1 hb
  obtain ⟨x, hx⟩ := live_get hi
  exact (h.each i x hx).lt H b hb
theorem ObS.kept (H : PdOk D) (h : ObS D t w L S) (hs : w.heap.size ≤ w'.heap.size) (hb : ∀ b, b ∈ blks L S → w'.heap[b]? = w.heap[b]?) : ObS D t w' L S :=
  ⟨fun i x hx => (h.each i x hx).kept H hs fun b k => hb b (mem_blks.2 ⟨i, liveO_some hx, k⟩), h.apart⟩
theorem ObS.turned (H : PdOk D) (h : ObS D t w L S) (hx : L[i]? = some (some x)) (hb : ObB D t w' y P) (k : Turn (S i).blk w w') (o : ∀ b, b ∈ P.blk → b ∈ (S i).blk ∨ w.heap.size ≤ b) : ObS D t w' (L.set i (some y)) (updO S i P) := by
  have hl := liveO_some hx
  refine ⟨fun j z hz => ?_, fun j m hj hm hne b hb => ?_⟩
  · rw [List.getElem?_set] at hz
    by_cases e : i = j
    · subst e
      rw [if_pos rfl, if_pos (liveO_lt hl)] at hz
      cases hz
      rw [updO_same]; exact hb
    · rw [if_neg e] at hz
      rw [updO_other (fun k => e k.symm)]
      exact (h.each j z hz).turn H k fun b hb hm => h.apart j i (liveO_some hz) hl (fun k => e k.symm) b hb hm
  · rw [live_set_some hl] at hj hm
    have hlt : ∀ m, liveO L m = true → ∀ b, b ∈ (S m).blk → b < w.heap.size := fun m hm b hb => h.lt H b (mem_blks.2 ⟨m, hm, hb⟩)
    by_cases e1 : j = i
    · subst e1
      rw [updO_same] at hb
      rw [updO_other (fun k => hne k.symm)]
      intro hm2
      rcases o b hb with h1 | h1
      · exact h.apart j m hj hm hne b h1 hm2
      · have := hlt m hm b hm2; omega
    · rw [updO_other e1] at hb
      by_cases e2 : m = i
      · subst e2
        rw [updO_same]
        intro hm2
        rcases o b hm2 with h1 | h1
        · exact h.apart j m hj hm hne b hb h1
        · have := hlt j hj b hb; omega
      · rw [updO_other e2]
        exact h.apart j m hj hm hne b hb
theorem ObS.gone (h : ObS D t w L S) : ObS D t w (L.set i none) S := by
  refine ⟨fun j z hz => ?_, fun j m hj hm hne b hb => ?_⟩
  · rw [List.getElem?_set] at hz
    by_cases e : i = j
    · rw [if_pos e] at hz
      split at hz <;> cases hz
    · rw [if_neg e] at hz
      exact h.each j z hz
  · rw [live_set_none] at hj hm
    split at hj
    · cases hj
    · split at hm
      · cases hm
      · exact h.apart j m hj hm hne b hb
theorem ObS.put (h : ObS D t w L S) (hi : i ≤ L.length) (hb : ObB D t w y P) (o : ∀ b, b ∈ P.blk → b ∉ blks L S) : ObS D t w (putO L i (some y)) (updO S i P) := by
  refine ⟨fun j z hz => ?_, fun j m hj hm hne b hb => ?_⟩
  · rw [put_at hi] at hz
    by_cases e : j = i
    · rw [if_pos e] at hz
      cases hz
      rw [e, updO_same]; exact hb
    · rw [if_neg e] at hz
      rw [updO_other e]
      exact h.each j z hz
  · rw [live_put hi] at hj hm
    by_cases e1 : j = i
    · subst e1
      rw [updO_same] at hb
      rw [updO_other (fun k => hne k.symm)]
      rw [if_neg (fun k => hne k.symm)] at hm
      exact fun hm2 => o b hb (mem_blks.2 ⟨m, hm, hm2⟩)
    · rw [updO_other e1] at hb
      rw [if_neg e1] at hj
      by_cases e2 : m = i
      · subst e2
        rw [updO_same]
        exact fun hm2 => o b hm2 (mem_blks.2 ⟨j, hj, hb⟩)
      · rw [updO_other e2]
        rw [if_neg e2] at hm
        exact h.apart j m hj hm hne b hb
theorem blks_turned (hl : liveO L i = true) (hb : b ∈ blks (L.set i (some y)) (updO S i P)) : b ∈ blks L S ∨ b ∈ P.blk := by
  obtain ⟨j, hj, hb⟩ := mem_blks.1 hb
  rw [live_set_some hl] at hj
  by_cases e : j = i
  · subst e; rw [updO_same] at hb; exact .inr hb
  · rw [updO_other e] at hb; exact .inl (mem_blks.2 ⟨j, hj, hb⟩)
theorem blks_gone (hb : b ∈ blks (L.set i none) S) : b ∈ blks L S := by
  obtain ⟨j, hj, hb⟩ := mem_blks.1 hb
  rw [live_set_none] at hj
  split at hj
  · cases hj
  · exact mem_blks.2 ⟨j, hj, hb⟩
theorem blks_put (hi : i ≤ L.length) (hb : b ∈ blks (putO L i (some y)) (updO S i P)) : b ∈ blks L S ∨ b ∈ P.blk := by
  obtain ⟨j, hj, hb⟩ := mem_blks.1 hb
  rw [live_put hi] at hj
  by_cases e : j = i
  · subst e; rw [updO_same] at hb; exact .inr hb
  · rw [updO_other e] at hb; rw [if_neg e] at hj; exact .inl (mem_blks.2 ⟨j, hj, hb⟩)
theorem ptrs_turned (hl : liveO L i = true) (ha : P.a = (S i).a) : ptrs (L.set i (some y)) (updO S i P) n = ptrs L S n := by
  unfold ptrs
  refine List.map_congr_left fun j _ => ?_
  rw [live_set_some hl]
  by_cases e : j = i
  · rw [e, updO_same, ha]
  · rw [updO_other e]
theorem ptrs_gone (hi : i < n) : ptrs (L.set i none) S n = (ptrs L S n).set i none := by
  refine List.ext_getElem? fun j => ?_
  rw [List.getElem?_set]
  by_cases hj : j < n
  · by_cases e : i = j
    · subst e
      rw [if_pos rfl, ptrs_len, if_pos hi, ptrs_at hj, show liveO (L.set i none) i = false by rw [live_set_none, if_pos rfl]]
      rfl
    · rw [if_neg e, ptrs_at hj, ptrs_at hj, show liveO (L.set i none) j = liveO L j by rw [live_set_none, if_neg (fun k => e k.symm)]]
  · rw [ptrs_out hj, if_neg (by omega), ptrs_out hj]
theorem ptrs_put (hl : i ≤ L.length) (hi : i < n) : ptrs (putO L i (some y)) (updO S i P) n = (ptrs L S n).set i (some P.a) := by
  refine List.ext_getElem? fun j => ?_
  rw [List.getElem?_set]
  by_cases hj : j < n
  · by_cases e : i = j
    · subst e
      rw [if_pos rfl, ptrs_len, if_pos hi, ptrs_at hj, show liveO (putO L i (some y)) i = true by rw [live_put hl, if_pos rfl], updO_same]
      rfl
    · rw [if_neg e, ptrs_at hj, ptrs_at hj, show liveO (putO L i (some y)) j = liveO L j by rw [live_put hl, if_neg (fun k => e k.symm)], updO_other (fun k => e k.symm)]
  · rw [ptrs_out hj, if_neg (by omega), ptrs_out hj]
theorem ptrs_more (hl : n = L.length) : ptrs (putO L n (some y)) (updO S n P) (n + 1) = ptrs L S n ++ [some P.a] := by
  unfold ptrs
  rw [List.range_succ, List.map_append]
  congr 1
  · refine List.map_congr_left fun j hj => ?_
    have hj := List.mem_range.1 hj
    rw [show liveO (putO L n (some y)) j = liveO L j by rw [live_put (by omega), if_neg (by omega)], updO_other (by omega)]
  · rw [List.map_cons, List.map_nil, show liveO (putO L n (some y)) n = true by rw [live_put (by omega), if_pos rfl], updO_same]
    rfl
theorem p_set (xs : List (Option Nat)) (i : Nat) (u : Option Nat) : (xs.set i u).flatMap pCells = (xs.flatMap pCells).set i (.pointer (u.map fun a => ⟨a, 0, none⟩)) := by
  rw [p_flat, p_flat, List.map_set]
end

/-! ### a pool: two cells, the second one the row of the objects' pointers -/
structure PoolO (D : PD) (tp ta te : TypeId) (hd : Value) (w : World) (p : Nat) (v : Value) (n : Nat) (L : ObL) (S : Nat → ObP) : Prop where
  head : w.heap[p]? = some (.cells #[hd, v] tp (0, 0))
  row : OwnOf pCells 1 te w 0 v (ptrs L S n)
  am : ObS D ta w L S
  ne : v.ownBlock ≠ some p
  pb : p ∉ blks L S
  vb : ∀ b, v.ownBlock = some b → b ∉ blks L S
def blkO (p : Nat) (v : Value) (L : ObL) (S : Nat → ObP) : List Nat := p :: (v.ownBlock.toList ++ blks L S)
section
variable {D : PD} {tp ta te : TypeId} {hd : Value} {w w' : World} {p n i j b g c : Nat} {v v' : Value} {L L' : ObL} {S S' : Nat → ObP} {x y : ObV} {P : ObP}
theorem mem_blkO : b ∈ blkO p v L S ↔ b = p ∨ v.ownBlock = some b ∨ b ∈ blks L S := by unfold blkO; simp
theorem PoolO.plt (h : PoolO D tp ta te hd w p v n L S) : p < w.heap.size := (Array.getElem?_eq_some_iff.1 h.head).1
theorem PoolO.vlt (h : PoolO D tp ta te hd w p v n L S) (e : v.ownBlock = some b) : b < w.heap.size := (OwnOf.lt h.row e).2
theorem PoolO.lt (H : PdOk D) (h : PoolO D tp ta te hd w p v n L S) : ∀ b, b ∈ blkO p v L S → b < w.heap.size := fun b hb => by
  rcases mem_blkO.1 hb with rfl | hb | hb
  · exact h.plt
  · exact h.vlt hb
  · exact h.am.lt H b hb
theorem PoolO.kept (H : PdOk D) (h : PoolO D tp ta te hd w p v n L S) (hs : w.heap.size ≤ w'.heap.size) (hb : ∀ b, b ∈ blkO p v L S → w'.heap[b]? = w.heap[b]?) : PoolO D tp ta te hd w' p v n L S :=
  ⟨(hb _ (mem_blkO.2 (.inl rfl))).trans h.head, OwnOf.kept h.row fun b e => hb b (mem_blkO.2 (.inr (.inl e))), h.am.kept H hs fun b k => hb b (mem_blkO.2 (.inr (.inr k))), h.ne, h.pb, h.vb⟩
theorem PoolO.grow (H : PdOk D) (h : PoolO D tp ta te hd w p v n L S) (k : w.grownBy w' none) : PoolO D tp ta te hd w' p v n L S := h.kept H k.size fun b hb => k.block b (h.lt H b hb) (by simp)
theorem PoolO.at (h : PoolO D tp ta te hd w p v n L S) : w.cell? ⟨p, 0, none⟩ = some hd ∧ w.cell? ⟨p, 1, none⟩ = some v := ⟨by rw [cell_of_row _ _ _ _ _ _ h.head]; rfl, by rw [cell_of_row _ _ _ _ _ _ h.head]; rfl⟩
theorem PoolO.frozen (h : PoolO D tp ta te hd w p v n L S) (o : Nat) : w.frozen? ⟨p, o, none⟩ = false := frozen_of_row _ _ _ _ _ h.head
theorem PoolO.form (h : PoolO D tp ta te hd w p v n L S) : ∃ a c, v = .slice a n c := by
  obtain ⟨a, c, e⟩ := OwnOf.form h.row
  rw [ptrs_len] at e
  exact ⟨a, c, e⟩
theorem PoolO.there (h : PoolO D tp ta te hd w p v n L S) (hn : 0 < n) : ∃ g c, v = .slice (some ⟨g, 0, none⟩) n c := by
  obtain ⟨g, c, e⟩ := OwnOf.there h.row (by rw [ptrs_len]; exact hn)
  rw [ptrs_len] at e
  exact ⟨g, c, e⟩
theorem PoolO.cell (h : PoolO D tp ta te hd w p (.slice (some ⟨g, 0, none⟩) n c) n L S) (hj : j < n) : w.cell? ⟨g, j, none⟩ = some (.pointer ((if liveO L j = true then some (S j).a else none).map fun a => ⟨a, 0, none⟩)) := by
  have h1 := h.row
  rw [show n = (ptrs L S n).length from ptrs_len.symm] at h1
  have h2 := ptrs_at (L := L) (S := S) hj
  rw [ptrs_len (L := L) (S := S) (n := n)] at h1
  have h3 := OwnOf.at (g := g) (c := c) p_len (by rw [ptrs_len]; exact h1) h2 (q := 0) rfl
  rwa [Nat.mul_one, Nat.add_zero] at h3
theorem PoolO.live (h : PoolO D tp ta te hd w p (.slice (some ⟨g, 0, none⟩) n c) n L S) (hj : j < n) (hx : L[j]? = some (some x)) : w.cell? ⟨g, j, none⟩ = some (.pointer (some ⟨(S j).a, 0, none⟩)) := by
  rw [h.cell hj, if_pos (liveO_some hx)]; rfl
theorem PoolO.dead (h : PoolO D tp ta te hd w p (.slice (some ⟨g, 0, none⟩) n c) n L S) (hj : j < n) (hx : liveO L j = false) : w.cell? ⟨g, j, none⟩ = some (.pointer none) := by
  rw [h.cell hj, hx, if_neg (by decide)]; rfl
theorem PoolO.vfrozen (h : PoolO D tp ta te hd w p (.slice (some ⟨g, 0, none⟩) n c) n L S) (o : Nat) : w.frozen? ⟨g, o, none⟩ = false := by
  have h1 := h.row
  rw [show (.slice (some ⟨g, 0, none⟩) n c : Value) = .slice (some ⟨g, 0, none⟩) (ptrs L S n).length c by rw [ptrs_len]] at h1
  exact OwnOf.frozen h1 o
/-- One object turns. -/
theorem PoolO.turned (H : PdOk D) (h : PoolO D tp ta te hd w p v n L S) (hx : L[i]? = some (some x)) (hb : ObB D ta w' y P) (ha : P.a = (S i).a) (k : Turn (S i).blk w w') (o : ∀ b, b ∈ P.blk → b ∈ (S i).blk ∨ w.heap.size ≤ b) :
    PoolO D tp ta te hd w' p v n (L.set i (some y)) (updO S i P) ∧ Turn (blkO p v L S) w w' ∧ ∀ b, b ∈ blkO p v (L.set i (some y)) (updO S i P) → b ∈ blkO p v L S ∨ w.heap.size ≤ b := by
  have hl := liveO_some hx
  have hin : ∀ b, b ∈ (S i).blk → b ∈ blks L S := fun b hb => mem_blks.2 ⟨i, hl, hb⟩
  have ho : ∀ b, b ∈ blks (L.set i (some y)) (updO S i P) → b ∈ blks L S ∨ w.heap.size ≤ b := fun b hb => by
    rcases blks_turned hl hb with h1 | h1
    · exact .inl h1
    · rcases o b h1 with h2 | h2
      · exact .inl (hin b h2)
      · exact .inr h2
  refine ⟨⟨(k.block _ h.plt fun hm => h.pb (hin _ hm)).trans h.head, by rw [ptrs_turned hl ha]; exact own_turn h.row k fun b e hm => h.vb b e (hin _ hm), h.am.turned H hx hb k o, h.ne, fun hm => ?_, fun b e hm => ?_⟩, k.mono fun b hb => mem_blkO.2 (.inr (.inr (hin b hb))), fun b hb => ?_⟩
  · rcases ho _ hm with h1 | h1
    · exact h.pb h1
    · have := h.plt; omega
  · rcases ho _ hm with h1 | h1
    · exact h.vb b e h1
    · have := h.vlt e; omega
  · rcases mem_blkO.1 hb with e | e | e
    · exact .inl (mem_blkO.2 (.inl e))
    · exact .inl (mem_blkO.2 (.inr (.inl e)))
    · rcases ho b e with h1 | h1
      · exact .inl (mem_blkO.2 (.inr (.inr h1)))
      · exact .inr h1
theorem PoolO.rowset (h : PoolO D tp ta te hd w p (.slice (some ⟨g, 0, none⟩) n c) n L S) (u : Option Nat) : OwnOf pCells 1 te (w.setCell ⟨g, i, none⟩ (.pointer (u.map fun a => ⟨a, 0, none⟩))) 0 (.slice (some ⟨g, 0, none⟩) n c) ((ptrs L S n).set i u) := by
  have h1 := h.row
  have e : (.slice (some ⟨g, 0, none⟩) n c : Value) = .slice (some ⟨g, 0, none⟩) (ptrs L S n).length c := by rw [ptrs_len]
  rw [e] at h1 ⊢
  exact OwnOf.turn h1 (by simp) (p_set _ _ _)
/-- An object goes. -/
theorem PoolO.gone (H : PdOk D) (h : PoolO D tp ta te hd w p (.slice (some ⟨g, 0, none⟩) n c) n L S) (hi : i < n) :
    PoolO D tp ta te hd (w.setCell ⟨g, i, none⟩ (.pointer none)) p (.slice (some ⟨g, 0, none⟩) n c) n (L.set i none) S ∧ Turn (blkO p (.slice (some ⟨g, 0, none⟩) n c) L S) w (w.setCell ⟨g, i, none⟩ (.pointer none)) ∧ ∀ b, b ∈ blkO p (.slice (some ⟨g, 0, none⟩) n c) (L.set i none) S → b ∈ blkO p (.slice (some ⟨g, 0, none⟩) n c) L S := by
  have ho : ∀ b, b ≠ g → (w.setCell ⟨g, i, none⟩ (.pointer none)).heap[b]? = w.heap[b]? := fun b hb => heap_setCell_other w ⟨g, i, none⟩ b _ (by first | exact hb | exact hb.symm)
  have hgb := h.vb g rfl
  refine ⟨⟨(ho _ fun e => h.ne (by rw [e]; rfl)).trans h.head, by rw [ptrs_gone hi]; exact h.rowset none, (h.am.kept H (by simp) fun b hb => ho b fun e => hgb (by rw [← e]; exact hb)).gone, h.ne, fun hm => h.pb (blks_gone hm), fun b e hm => h.vb b e (blks_gone hm)⟩, Turn.setCell _ w g i _ (mem_blkO.2 (.inr (.inl rfl))), fun b hb => ?_⟩
  rcases mem_blkO.1 hb with e | e | e
  · exact mem_blkO.2 (.inl e)
  · exact mem_blkO.2 (.inr (.inl e))
  · exact mem_blkO.2 (.inr (.inr (blks_gone e)))
/-- A new object, in a place that is there. -/
theorem PoolO.put (H : PdOk D) (h : PoolO D tp ta te hd w p (.slice (some ⟨g, 0, none⟩) n c) n L S) (hl : i ≤ L.length) (hi : i < n) (hb : ObB D ta w y P) (o : ∀ b, b ∈ P.blk → b ∉ blkO p (.slice (some ⟨g, 0, none⟩) n c) L S) :
    PoolO D tp ta te hd (w.setCell ⟨g, i, none⟩ (.pointer (some ⟨P.a, 0, none⟩))) p (.slice (some ⟨g, 0, none⟩) n c) n (putO L i (some y)) (updO S i P) ∧ Turn (blkO p (.slice (some ⟨g, 0, none⟩) n c) L S) w (w.setCell ⟨g, i, none⟩ (.pointer (some ⟨P.a, 0, none⟩))) ∧ ∀ b, b ∈ blkO p (.slice (some ⟨g, 0, none⟩) n c) (putO L i (some y)) (updO S i P) → b ∈ blkO p (.slice (some ⟨g, 0, none⟩) n c) L S ∨ b ∈ P.blk := by
  have ho : ∀ b, b ≠ g → (w.setCell ⟨g, i, none⟩ (.pointer (some ⟨P.a, 0, none⟩))).heap[b]? = w.heap[b]? := fun b hb => heap_setCell_other w ⟨g, i, none⟩ b _ (by first | exact hb | exact hb.symm)
  have hgb := h.vb g rfl
  have og : g ∉ P.blk := fun hm => o g hm (mem_blkO.2 (.inr (.inl rfl)))
  have op : p ∉ P.blk := fun hm => o p hm (mem_blkO.2 (.inl rfl))
  refine ⟨⟨(ho _ fun e => h.ne (by rw [e]; rfl)).trans h.head, by rw [ptrs_put hl hi]; exact h.rowset (some P.a), (h.am.kept H (by simp) fun b hb => ho b fun e => hgb (by rw [← e]; exact hb)).put hl (hb.kept H (by simp) fun b hb => ho b fun e => og (by rw [← e]; exact hb)) (fun b hb hm => o b hb (mem_blkO.2 (.inr (.inr hm)))), h.ne, fun hm => ?_, fun b e hm => ?_⟩, Turn.setCell _ w g i _ (mem_blkO.2 (.inr (.inl rfl))), fun b hb => ?_⟩
  · rcases blks_put hl hm with h1 | h1
    · exact h.pb h1
    · exact op h1
  · rcases blks_put hl hm with h1 | h1
    · exact h.vb b e h1
    · have e : g = b := by simpa [Value.ownBlock] using e
      rw [← e] at h1
      exact og h1
  · rcases mem_blkO.1 hb with e | e | e
    · exact .inl (mem_blkO.2 (.inl e))
    · exact .inl (mem_blkO.2 (.inr (.inl e)))
    · rcases blks_put hl e with h1 | h1
      · exact .inl (mem_blkO.2 (.inr (.inr h1)))
      · exact .inr h1
/-- A new object, behind the last place: the row is another one. -/
theorem PoolO.more (H : PdOk D) (h : PoolO D tp ta te hd w p v n L S) (hl : n = L.length) (k : w.grownBy w' v.ownBlock) (hr : OwnOf pCells 1 te w' 0 v' (ptrs L S n ++ [some P.a])) (hv : ∀ b, v'.ownBlock = some b → v.ownBlock = some b ∨ w.heap.size ≤ b) (hb : ObB D ta w y P) (o : ∀ b, b ∈ P.blk → b ∉ blkO p v L S) (hbp : ∀ b, v'.ownBlock = some b → b ∉ P.blk) :
    PoolO D tp ta te hd (w'.setCell ⟨p, 1, none⟩ v') p v' (n + 1) (putO L n (some y)) (updO S n P) ∧ Turn (blkO p v L S) w (w'.setCell ⟨p, 1, none⟩ v') ∧ ∀ b, b ∈ blkO p v' (putO L n (some y)) (updO S n P) → b ∈ blkO p v L S ∨ w.heap.size ≤ b ∨ b ∈ P.blk := by
  have ho : ∀ b, b ≠ p → (w'.setCell ⟨p, 1, none⟩ v').heap[b]? = w'.heap[b]? := fun b hb => heap_setCell_other w' ⟨p, 1, none⟩ b _ (by first | exact hb | exact hb.symm)
  have op : p ∉ P.blk := fun hm => o p hm (mem_blkO.2 (.inl rfl))
  have hs : w.heap.size ≤ (w'.setCell ⟨p, 1, none⟩ v').heap.size := by simpa using k.size
  have hp := h.plt
  have hnp : v'.ownBlock ≠ some p := fun e => by
    rcases hv p e with h1 | h1
    · exact h.ne h1
    · omega
  have hh : w'.heap[p]? = some (.cells #[hd, v] tp (0, 0)) := (k.block p hp fun e => h.ne e.symm).trans h.head
  have hin : ∀ b, v.ownBlock = some b → b ∈ blkO p v L S := fun b e => mem_blkO.2 (.inr (.inl e))
  have hold : ∀ b, b ∈ blks L S → (w'.setCell ⟨p, 1, none⟩ v').heap[b]? = w.heap[b]? := fun b hb => (ho b fun e => h.pb (by rw [← e]; exact hb)).trans (k.block b (h.am.lt H b hb) fun e => h.vb b e.symm hb)
  have hnew : ∀ b, b ∈ P.blk → (w'.setCell ⟨p, 1, none⟩ v').heap[b]? = w.heap[b]? := fun b hb' => (ho b fun e => op (by rw [← e]; exact hb')).trans (k.block b (hb.lt H b hb') fun e => o b hb' (hin b e.symm))
  have hk : Turn (blkO p v L S) w w' := by
    refine ⟨k.os, k.tape, k.output, k.size, fun b hb hO => k.block b hb fun e => hO (hin b e.symm)⟩
  refine ⟨⟨heap_setCell_same w' p 1 _ _ _ hh, by rw [ptrs_more hl]; exact OwnOf.kept hr fun b e => ho b fun e2 => hnp (by rw [← e2]; exact e), (h.am.kept H hs hold).put (by omega) (hb.kept H hs hnew) (fun b hb hm => o b hb (mem_blkO.2 (.inr (.inr hm)))), hnp, fun hm => ?_, fun b e hm => ?_⟩, hk.trans' (Turn.setCell _ w' p 1 _ (mem_blkO.2 (.inl rfl))), fun b hb => ?_⟩
  · rcases blks_put (by omega) hm with h1 | h1
    · exact h.pb h1
    · exact op h1
  · rcases blks_put (by omega) hm with h1 | h1
    · rcases hv b e with h2 | h2
      · exact h.vb b h2 h1
      · have := h.am.lt H b h1; omega
    · exact hbp b e h1
  · rcases mem_blkO.1 hb with e | e | e
    · exact .inl (mem_blkO.2 (.inl e))
    · rcases hv b e with h2 | h2
      · exact .inl (hin b h2)
      · exact .inr (.inl h2)
    · rcases blks_put (by omega) e with h1 | h1
      · exact .inl (mem_blkO.2 (.inr (.inr h1)))
      · exact .inr (.inr h1)
end
/-- A pool behind a call: its blocks are elder ones or new. -/
def ALo (D : World → Nat → Nat → ObL → List Nat → Prop) (w w' : World) (p most : Nat) (O : List Nat) (L' : ObL) : Prop := ∃ O', D w' p most L' O' ∧ Turn O w w' ∧ ∀ b, b ∈ O' → b ∈ O ∨ w.heap.size ≤ b
end Go.Proofs.Ytefcefclncbimaa
