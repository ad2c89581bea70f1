/- What package object must be shown to say of its pools (D: a pool by its list and its blocks); the example. -/
import Derived.Test.YtefcefclncbimaaObDg
import Derived.Laws.StructEq
import Derived.Laws.Unary
namespace Go.Proofs.Ytefcefclncbimaa
open Go.ChangeShapes Go.WideShapes Go.ChangeAt Go.RowKit Go.Deep
set_option linter.unusedVariables false

/-- Pools lie in blocks, and hang on these alone. -/
structure StOkO (D : World → Nat → Nat → ObL → List Nat → Prop) : Prop where
  lt : ∀ {w p m L O}, D w p m L O → ∀ b, b ∈ O → b < w.heap.size
  kept : ∀ {w w' p m L O}, D w p m L O → w.heap.size ≤ w'.heap.size → (∀ b, b ∈ O → w'.heap[b]? = w.heap[b]?) → D w' p m L O
  good : ∀ {w p m L O}, D w p m L O → GoodOs m L
structure ObOk (D : World → Nat → Nat → ObL → List Nat → Prop) : Prop extends StOkO D where
  new : ∀ (n : Nat) (w : World), n ≤ 4096 → Calls Try.prog 8 #[.int .i64 n] w fun e w' => ∃ p O, e = .returned (.pointer (some ⟨p, 0, none⟩)) ∧ D w' p n [] O ∧ w.grownBy w' none ∧ ∀ b, b ∈ O → w.heap.size ≤ b
  newNo : ∀ (n : Int) (w : World), ¬ (0 ≤ n ∧ n ≤ 4096) → Calls Try.prog 8 #[.int .i64 n] w fun e w' => e = .returned (.pointer none) ∧ w.grownBy w' none
  make : ∀ {w p m L O}, D w p m L O → ∀ f, okI f → Calls Try.prog 11 #[.pointer (some ⟨p, 0, none⟩), .int .i64 f] w fun e w' => e = .returned (.tuple #[.int .i64 (makeO m L f).n, .int .i64 (makeO m L f).e]) ∧ ALo D w w' p m O (makeO m L f).L
  ref : ∀ {w p m L O}, D w p m L O → ∀ id b, okI id → okI b → Calls Try.prog 13 #[.pointer (some ⟨p, 0, none⟩), .int .i64 id, .int .i64 b] w fun e w' => e = .returned (.tuple #[.int .i64 (refO L id b).n, .int .i64 (refO L id b).e]) ∧ ALo D w w' p m O (refO L id b).L
  put : ∀ {w p m L O}, D w p m L O → ∀ id ix pf ps pd, okI id → okI ix → Calls Try.prog 15 #[.pointer (some ⟨p, 0, none⟩), .int .i64 id, .int .i64 ix, .agg #[.int .i64 pf, .int .i64 ps, .bool pd]] w fun e w' => e = .returned (.int .i64 (putPO L id ix ⟨pf, ps, pd⟩).e) ∧ ALo D w w' p m O (putPO L id ix ⟨pf, ps, pd⟩).L
  drop : ∀ {w p m L O}, D w p m L O → ∀ id ix, okI id → okI ix → Calls Try.prog 17 #[.pointer (some ⟨p, 0, none⟩), .int .i64 id, .int .i64 ix] w fun e w' => e = .returned (.bool (getO L id ix).isSome) ∧ ALo D w w' p m O (dropL L id ix)
  get : ∀ {w p m L O}, D w p m L O → ∀ id ix, okI id → okI ix → Calls Try.prog 19 #[.pointer (some ⟨p, 0, none⟩), .int .i64 id, .int .i64 ix] w fun e w' => e = .returned (getVO (getO L id ix)) ∧ w.grownBy w' none
  of : ∀ {w p m L O}, D w p m L O → ∀ f, okI f → Calls Try.prog 21 #[.pointer (some ⟨p, 0, none⟩), .int .i64 f] w fun e w' => e = .returned (.int .i64 (findO L f)) ∧ w' = w
  file : ∀ {w p m L O}, D w p m L O → ∀ id, okI id → Calls Try.prog 23 #[.pointer (some ⟨p, 0, none⟩), .int .i64 id] w fun e w' => e = .returned (.int .i64 (fileO L id)) ∧ w' = w
  ids : ∀ {w p m L O}, D w p m L O → Calls Try.prog 26 #[.pointer (some ⟨p, 0, none⟩)] w fun e w' => ∃ u, e = .returned u ∧ RowOf zCells 1 w' u (idsO L) ∧ (∀ b, u.ownBlock = some b → w.heap.size ≤ b) ∧ w.grownBy w' none
  pages : ∀ {w p m L O}, D w p m L O → ∀ id lo hi, okI id → Calls Try.prog 29 #[.pointer (some ⟨p, 0, none⟩), .int .i64 id, .int .i64 lo, .int .i64 hi] w (PagesR w (pagesO L id lo hi))
structure NoneOk14 (N : World → Value → Prop) : Prop where
  form : ∀ {w v}, N w v → ∃ a, v = .pointer a
  nil : ∀ w, N w (.pointer none)
  kept : ∀ {w w' v}, N w v → w.grownBy w' none → N w' v
  make : ∀ {w v}, N w v → ∀ f, Calls Try.prog 11 #[v, .int .i64 f] w fun e w' => e = .returned (.tuple #[.int .i64 0, .int .i64 1]) ∧ w.grownBy w' none
  ref : ∀ {w v}, N w v → ∀ id b, Calls Try.prog 13 #[v, .int .i64 id, .int .i64 b] w fun e w' => e = .returned (.tuple #[.int .i64 0, .int .i64 1]) ∧ w.grownBy w' none
  put : ∀ {w v}, N w v → ∀ id ix pf ps pd, Calls Try.prog 15 #[v, .int .i64 id, .int .i64 ix, .agg #[.int .i64 pf, .int .i64 ps, .bool pd]] w fun e w' => e = .returned (.int .i64 1) ∧ w.grownBy w' none
  drop : ∀ {w v}, N w v → ∀ id ix, Calls Try.prog 17 #[v, .int .i64 id, .int .i64 ix] w fun e w' => e = .returned (.bool false) ∧ w.grownBy w' none
  get : ∀ {w v}, N w v → ∀ id ix, Calls Try.prog 19 #[v, .int .i64 id, .int .i64 ix] w fun e w' => e = .returned (getVO none) ∧ w.grownBy w' none
  of : ∀ {w v}, N w v → ∀ f, Calls Try.prog 21 #[v, .int .i64 f] w fun e w' => e = .returned (.int .i64 0) ∧ w.grownBy w' none
  file : ∀ {w v}, N w v → ∀ id, Calls Try.prog 23 #[v, .int .i64 id] w fun e w' => e = .returned (.int .i64 0) ∧ w.grownBy w' none
  ids : ∀ {w v}, N w v → Calls Try.prog 26 #[v] w fun e w' => ∃ a c, e = .returned (.slice a 0 c) ∧ w.grownBy w' none
  pages : ∀ {w v}, N w v → ∀ id lo hi, Calls Try.prog 29 #[v, .int .i64 id, .int .i64 lo, .int .i64 hi] w (PagesR w [])
/-- The document's pools, and the landed ones. -/
theorem droOk : StOkO DRO where
  lt := fun h b hb => by obtain ⟨v, S, h1, -, rfl⟩ := h; exact h1.lt rpdOk b hb
  kept := fun h hs hb => by obtain ⟨v, S, h1, h2, rfl⟩ := h; exact ⟨v, S, h1.kept rpdOk hs hb, h2, rfl⟩
  good := fun h => by obtain ⟨v, S, h1, h2, rfl⟩ := h; exact h2
theorem dloOk : StOkO DLO where
  lt := fun h b hb => by obtain ⟨M1, M2, S, h1, -, rfl⟩ := h; exact h1.lt b hb
  kept := fun h hs hb => by obtain ⟨M1, M2, S, h1, h2, rfl⟩ := h; exact ⟨M1, M2, S, h1.kept hs hb, h2, rfl⟩
  good := fun h => by obtain ⟨M1, M2, S, h1, h2, rfl⟩ := h; exact h2
theorem obOk : ObOk DLO where
  toStOkO := dloOk
  new := fun n w hn => po_new n w hn
  newNo := po_new_no
  make := fun h f hf => by obtain ⟨M1, M2, S, h1, h2, rfl⟩ := h; exact po_make h1 h2 f hf
  ref := fun h id b hid hb => by obtain ⟨M1, M2, S, h1, h2, rfl⟩ := h; exact po_ref h1 h2 id b hid hb
  put := fun h id ix pf ps pd hid hix => by obtain ⟨M1, M2, S, h1, h2, rfl⟩ := h; exact po_put h1 h2 id ix pf ps pd hid hix
  drop := fun h id ix hid hix => by obtain ⟨M1, M2, S, h1, h2, rfl⟩ := h; exact po_drop h1 h2 id ix hid hix
  get := fun h id ix hid hix => by obtain ⟨M1, M2, S, h1, h2, rfl⟩ := h; exact po_get h1 h2 id ix hid hix
  of := fun h f hf => by obtain ⟨M1, M2, S, h1, h2, rfl⟩ := h; exact po_of h1 f hf
  file := fun h id hid => by obtain ⟨M1, M2, S, h1, h2, rfl⟩ := h; exact po_file h1 id hid
  ids := fun h => by obtain ⟨M1, M2, S, h1, h2, rfl⟩ := h; exact po_ids h1
  pages := fun h id lo hi hid => by obtain ⟨M1, M2, S, h1, h2, rfl⟩ := h; exact po_pages h1 h2 id lo hi hid
section
variable {D : World → Nat → Nat → ObL → List Nat → Prop} {w : World} {p m : Nat} {L : ObL} {O : List Nat}
theorem ObOk.ofG (H : ObOk D) (h : D w p m L O) (f : Int) (hf : okI f) : Calls Try.prog 21 #[.pointer (some ⟨p, 0, none⟩), .int .i64 f] w fun e w' => e = .returned (.int .i64 (findO L f)) ∧ w.grownBy w' none := (H.of h f hf).mono fun e w' ⟨he, hw⟩ => ⟨he, by rw [hw]; exact grown_refl _ _⟩
theorem ObOk.fileG (H : ObOk D) (h : D w p m L O) (id : Int) (hid : okI id) : Calls Try.prog 23 #[.pointer (some ⟨p, 0, none⟩), .int .i64 id] w fun e w' => e = .returned (.int .i64 (fileO L id)) ∧ w.grownBy w' none := (H.file h id hid).mono fun e w' ⟨he, hw⟩ => ⟨he, by rw [hw]; exact grown_refl _ _⟩
end
section
variable {w : World} {q m : Nat} {L : ObL} {O : List Nat}
theorem rd_new (n : Nat) (w : World) (hn : n ≤ 4096) : Calls Try.prog 9 #[.int .i64 n] w fun e w' => ∃ p O, e = .returned (.pointer (some ⟨p, 0, none⟩)) ∧ DRO w' p n [] O ∧ w.grownBy w' none ∧ ∀ b, b ∈ O → w.heap.size ≤ b :=
  (ro_new n w hn).mono fun e w' ⟨he, h, g⟩ => ⟨_, _, he, ⟨_, _, h, GoodOs.new hn, rfl⟩, g, fun b hb => by
    rcases mem_blkO.1 hb with e | e | e
    · omega
    · cases e
    · cases e⟩
theorem rd_make (h : DRO w q m L O) (f : Int) (hf : okI f) : Calls Try.prog 12 #[.pointer (some ⟨q, 0, none⟩), .int .i64 f] w fun e w' => e = .returned (.tuple #[.int .i64 (makeO m L f).n, .int .i64 (makeO m L f).e]) ∧ ALo DRO w w' q m O (makeO m L f).L := by
  obtain ⟨v, S, h1, h2, rfl⟩ := h; exact ro_make h1 h2 f hf
theorem rd_ref (h : DRO w q m L O) (id b : Int) (hid : okI id) (hb : okI b) : Calls Try.prog 14 #[.pointer (some ⟨q, 0, none⟩), .int .i64 id, .int .i64 b] w fun e w' => e = .returned (.tuple #[.int .i64 (refO L id b).n, .int .i64 (refO L id b).e]) ∧ ALo DRO w w' q m O (refO L id b).L := by
  obtain ⟨v, S, h1, h2, rfl⟩ := h; exact ro_ref h1 h2 id b hid hb
theorem rd_put (h : DRO w q m L O) (id ix pf ps : Int) (pd : Bool) (hid : okI id) (hix : okI ix) : Calls Try.prog 16 #[.pointer (some ⟨q, 0, none⟩), .int .i64 id, .int .i64 ix, .agg #[.int .i64 pf, .int .i64 ps, .bool pd]] w fun e w' => e = .returned (.int .i64 (putPO L id ix ⟨pf, ps, pd⟩).e) ∧ ALo DRO w w' q m O (putPO L id ix ⟨pf, ps, pd⟩).L := by
  obtain ⟨v, S, h1, h2, rfl⟩ := h; exact ro_put h1 h2 id ix pf ps pd hid hix
theorem rd_drop (h : DRO w q m L O) (id ix : Int) (hid : okI id) : Calls Try.prog 18 #[.pointer (some ⟨q, 0, none⟩), .int .i64 id, .int .i64 ix] w fun e w' => e = .returned (.bool (getO L id ix).isSome) ∧ ALo DRO w w' q m O (dropL L id ix) := by
  obtain ⟨v, S, h1, h2, rfl⟩ := h; exact ro_drop h1 h2 id ix hid
theorem rd_get (h : DRO w q m L O) (id ix : Int) (hid : okI id) : Calls Try.prog 20 #[.pointer (some ⟨q, 0, none⟩), .int .i64 id, .int .i64 ix] w fun e w' => e = .returned (getVO (getO L id ix)) ∧ w.grownBy w' none := by
  obtain ⟨v, S, h1, h2, rfl⟩ := h; exact ro_get h1 h2 id ix hid
theorem rd_of (h : DRO w q m L O) (f : Int) : Calls Try.prog 22 #[.pointer (some ⟨q, 0, none⟩), .int .i64 f] w fun e w' => e = .returned (.int .i64 (findO L f)) ∧ w.grownBy w' none := by
  obtain ⟨v, S, h1, h2, rfl⟩ := h; exact ro_of h1 h2 f
theorem rd_file (h : DRO w q m L O) (id : Int) (hid : okI id) : Calls Try.prog 24 #[.pointer (some ⟨q, 0, none⟩), .int .i64 id] w fun e w' => e = .returned (.int .i64 (fileO L id)) ∧ w' = w := by
  obtain ⟨v, S, h1, h2, rfl⟩ := h; exact ro_file h1 (Nat.le_trans h2.len h2.most) id hid
theorem rd_ids (h : DRO w q m L O) : Calls Try.prog 27 #[.pointer (some ⟨q, 0, none⟩)] w fun e w' => ∃ u, e = .returned u ∧ RowOf zCells 1 w' u (idsO L) ∧ (∀ b, u.ownBlock = some b → w.heap.size ≤ b) ∧ w.grownBy w' none := by
  obtain ⟨v, S, h1, h2, rfl⟩ := h; exact ro_ids h1 (Nat.le_trans h2.len h2.most)
theorem rd_pages (h : DRO w q m L O) (id lo hi : Int) (hid : okI id) : Calls Try.prog 28 #[.pointer (some ⟨q, 0, none⟩), .int .i64 id, .int .i64 lo, .int .i64 hi] w fun e w' => ∃ u, e = .returned u ∧ RowOf atCells 4 w' u (pagesO L id lo hi) ∧ (∀ b, u.ownBlock = some b → w.heap.size ≤ b) ∧ w.grownBy w' none := by
  obtain ⟨v, S, h1, h2, rfl⟩ := h; exact ro_pages h1 h2 id lo hi hid
end
section
variable {D : World → Nat → Nat → ObL → List Nat → Prop} {w w' w2 wx : World} {p m : Nat} {L L' : ObL} {O O2 : List Nat}
theorem StOkO.grow (H : StOkO D) (h : D w p m L O) (g : w.grownBy w' none) : D w' p m L O := H.kept h g.size fun b hb => g.block b (H.lt h b hb) (by simp)
theorem StOkO.turn (H : StOkO D) (h : D w p m L O) (g : Turn O2 w w') (ho : ∀ b, b ∈ O → b ∉ O2) : D w' p m L O := H.kept h g.size fun b hb => g.block b (H.lt h b hb) (ho b hb)

/-- A pool of the law's own. -/
structure LO (D : World → Nat → Nat → ObL → List Nat → Prop) (w wx : World) (p m : Nat) (L : ObL) (O : List Nat) : Prop where
  d : D wx p m L O
  own : ∀ b, b ∈ O → w.heap.size ≤ b
  grown : w.grownBy wx none
theorem LO.new (h : D wx p m L O) (g : w.grownBy w' none) (g2 : w'.grownBy wx none) (o : ∀ b, b ∈ O → w'.heap.size ≤ b) : LO D w wx p m L O := ⟨h, fun b hb => Nat.le_trans g.size (o b hb), grown_trans g g2⟩
theorem LO.grow (H : StOkO D) (h : LO D w wx p m L O) (g : wx.grownBy w2 none) : LO D w w2 p m L O := ⟨H.grow h.d g, h.own, grown_trans h.grown g⟩
theorem LO.turn (H : StOkO D) (h : LO D w wx p m L O) (t : Turn O2 wx w2) (ho : ∀ b, b ∈ O → b ∉ O2) (hw : ∀ b, b ∈ O2 → w.heap.size ≤ b) : LO D w w2 p m L O := ⟨H.turn h.d t ho, h.own, ((Turn.grown h.grown).trans' t).noGrown hw⟩
theorem LO.left (h : LO D w wx p m L O) (t : ALo D wx w2 p m O L') : ∃ O', LO D w w2 p m L' O' ∧ Turn O wx w2 ∧ ∀ b, b ∈ O' → b ∈ O ∨ wx.heap.size ≤ b := by
  obtain ⟨O', h2, t2, o2⟩ := t
  refine ⟨O', ⟨h2, fun b hb => ?_, ((Turn.grown h.grown).trans' t2).noGrown h.own⟩, t2, o2⟩
  rcases o2 b hb with h3 | h3
  · exact h.own b h3
  · have := h.grown.size; omega

/-- Two pools, apart. -/
structure TwoO (D E : World → Nat → Nat → ObL → List Nat → Prop) (w wx : World) (p m : Nat) (L : ObL) (O : List Nat) (q k : Nat) (M : ObL) (P : List Nat) : Prop where
  one : LO D w wx p m L O
  two : LO E w wx q k M P
  ap : ∀ b, b ∈ O → b ∉ P
variable {E : World → Nat → Nat → ObL → List Nat → Prop} {q k : Nat} {M M' : ObL} {P : List Nat}
theorem TwoO.grow (H : StOkO D) (K : StOkO E) (h : TwoO D E w wx p m L O q k M P) (g : wx.grownBy w2 none) : TwoO D E w w2 p m L O q k M P := ⟨h.one.grow H g, h.two.grow K g, h.ap⟩
theorem TwoO.make (H : StOkO D) (K : StOkO E) (h : LO D w wx p m L O) (g : wx.grownBy w2 none) (h2 : E w2 q k M P) (o : ∀ b, b ∈ P → wx.heap.size ≤ b) : TwoO D E w w2 p m L O q k M P :=
  ⟨h.grow H g, ⟨h2, fun b hb => Nat.le_trans h.grown.size (o b hb), grown_trans h.grown g⟩, fun b hb hp => by have := o b hp; have := H.lt h.d b hb; omega⟩
theorem TwoO.first (K : StOkO E) (h : TwoO D E w wx p m L O q k M P) (t : ALo D wx w2 p m O L') : ∃ O', TwoO D E w w2 p m L' O' q k M P ∧ Turn O wx w2 ∧ ∀ b, b ∈ O' → b ∈ O ∨ wx.heap.size ≤ b := by
  obtain ⟨O', h2, t2, o2⟩ := h.one.left t
  refine ⟨O', ⟨h2, h.two.turn K t2 (fun b hb hm => h.ap b hm hb) h.one.own, fun b hb hm => ?_⟩, t2, o2⟩
  rcases o2 b hb with h3 | h3
  · exact h.ap b h3 hm
  · have := K.lt h.two.d b hm; omega
theorem TwoO.second (H : StOkO D) (h : TwoO D E w wx p m L O q k M P) (t : ALo E wx w2 q k P M') : ∃ P', TwoO D E w w2 p m L O q k M' P' ∧ Turn P wx w2 ∧ ∀ b, b ∈ P' → b ∈ P ∨ wx.heap.size ≤ b := by
  obtain ⟨P', h2, t2, o2⟩ := h.two.left t
  refine ⟨P', ⟨h.one.turn H t2 h.ap h.two.own, h2, fun b hb hm => ?_⟩, t2, o2⟩
  rcases o2 b hm with h3 | h3
  · exact h.ap b hb h3
  · have := H.lt h.one.d b hb; omega
end


theorem vo1 : makeO 4 [] 3 = ⟨1, 0, [some ⟨3, 1, []⟩]⟩ := by rfl
theorem vo2 : putPO [some ⟨3, 1, []⟩] 1 0 ⟨5, 0, false⟩ = ⟨0, 0, [some ⟨3, 1, [(0, ⟨5, 0, false⟩)]⟩]⟩ := by rfl
theorem vo3 : refO [some ⟨3, 1, [(0, ⟨5, 0, false⟩)]⟩] 1 (-1) = ⟨0, 0, [some ⟨3, 0, [(0, ⟨5, 0, false⟩)]⟩]⟩ := by rfl
theorem vo4 : findO [some ⟨3, 0, [(0, ⟨5, 0, false⟩)]⟩] 3 = 1 := by rfl
theorem vo5 : getO [some ⟨3, 0, [(0, ⟨5, 0, false⟩)]⟩] 1 0 = some ⟨5, 0, false⟩ := by rfl
theorem vo6 : dropL [some ⟨3, 0, [(0, ⟨5, 0, false⟩)]⟩] 1 0 = [none] := by rfl
theorem vo7 : findO [none] 3 = 0 := by rfl

set_option maxRecDepth 100000 in
set_option maxHeartbeats 2000000 in
theorem lives14 {D : World → Nat → Nat → ObL → List Nat → Prop} (H : ObOk D) (w : World) :
    Calls Try.prog 10 #[] w fun e w' => e = .returned (.bool true) ∧ w.grownBy w' none := by
  have HN := Lib.hid (H.new 4 w (by decide))
  have HT := Lib.hid H
  clear H
  go_enter Try.func10, Try.ntmps10
  go_wp2_with fail
  refine HN.out.mono ?_
  rintro e w1 ⟨p, O, rfl, h1, g1, o1⟩
  have H1 := Lib.hid (show LO D w w1 p 4 [] O from ⟨h1, o1, g1⟩)
  have hk := HT.out.make H1.out.d 3 (okS (by decide) (by decide))
  rw [vo1] at hk
  have HK := Lib.hid hk
  clear hk h1 g1 o1 HN
  go_wp2_with fail
  refine HK.out.mono ?_
  rintro e w2 ⟨rfl, h2⟩
  obtain ⟨O2, h2, -, -⟩ := H1.out.left h2
  have H2 := Lib.hid h2
  have hk := HT.out.put H2.out.d 1 0 5 0 false (okS (by decide) (by decide)) (okS (by decide) (by decide))
  simp only [vo2] at hk
  have HK2 := Lib.hid hk
  clear hk h2 HK H1
  go_wp2_with fail
  refine HK2.out.mono ?_
  rintro e w3 ⟨rfl, h3⟩
  obtain ⟨O3, h3, -, -⟩ := H2.out.left h3
  have H3 := Lib.hid h3
  have hk := HT.out.ref H3.out.d 1 (-1) (okS (by decide) (by decide)) (okS (by decide) (by decide))
  simp only [vo3] at hk
  have HK3 := Lib.hid hk
  clear hk h3 HK2 H2
  go_wp2_with fail
  refine HK3.out.mono ?_
  rintro e w4 ⟨rfl, h4⟩
  obtain ⟨O4, h4, -, -⟩ := H3.out.left h4
  have H4 := Lib.hid h4
  have hk := HT.out.ofG H4.out.d 3 (okS (by decide) (by decide))
  rw [vo4] at hk
  have HK4 := Lib.hid hk
  clear hk h4 HK3 H3
  go_wp2_with fail
  refine HK4.out.mono ?_
  rintro e w5 ⟨rfl, g5⟩
  have H5 := Lib.hid (H4.out.grow HT.out.toStOkO g5)
  have hk := HT.out.drop H5.out.d 1 0 (okS (by decide) (by decide)) (okS (by decide) (by decide))
  rw [vo5, vo6] at hk
  have HK5 := Lib.hid hk
  clear hk g5 HK4 H4
  go_wp2_with fail
  refine HK5.out.mono ?_
  rintro e w6 ⟨rfl, h6⟩
  obtain ⟨O6, h6, -, -⟩ := H5.out.left h6
  have H6 := Lib.hid h6
  have hk := HT.out.ofG H6.out.d 3 (okS (by decide) (by decide))
  rw [vo7] at hk
  have HK6 := Lib.hid hk
  clear hk h6 HK5 H5
  go_wp2_with fail
  refine HK6.out.mono ?_
  rintro e w7 ⟨rfl, g7⟩
  have HG := Lib.hid (grown_trans H6.out.grown g7)
  clear g7 H6 HK6
  go_wp2_with fail
  go_ret
  exact ⟨rfl, HG.out⟩
end Go.Proofs.Ytefcefclncbimaa
