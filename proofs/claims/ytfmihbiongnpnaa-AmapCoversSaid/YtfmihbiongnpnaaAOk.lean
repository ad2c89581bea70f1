/- What package amap must be shown to say of its pools (D: a pool by its list and its blocks); the example. -/
import Derived.Test.YtfmihbiongnpnaaACopyS
import Derived.Laws.StructEq
import Derived.Laws.Unary
namespace Go.Proofs.Ytfmihbiongnpnaa
open Go.ChangeShapes Go.WideShapes Go.ChangeAt Go.RowKit Go.Deep
set_option linter.unusedVariables false

def anonsA (L : AmL) (id : Int) : List Int := match ofA L id with | some a => a.as | none => []
/-- What Used hands back. -/
def UsedR (w : World) (zs : List Int) (e : Ending) (w' : World) : Prop :=
  ∃ Bs u, e = .returned (.func (.func 53) #[] #[.pointer (some ⟨Bs, 0, none⟩)]) ∧ w'.cell? ⟨Bs, 0, none⟩ = some u ∧ RowOf zCells 1 w' u zs ∧ (∀ b, u.ownBlock = some b → w.heap.size ≤ b) ∧ w.heap.size ≤ Bs ∧ w.grownBy w' none
/-- Pools lie in blocks, and hang on these alone. -/
structure StOkA (D : World → Nat → Nat → AmL → List Nat → Prop) : Prop where
  lt : ∀ {w p m L O}, D w p m L O → ∀ b, b ∈ O → b < w.heap.size
  kept : ∀ {w w' p m L O}, D w p m L O → w.heap.size ≤ w'.heap.size → (∀ b, b ∈ O → w'.heap[b]? = w.heap[b]?) → D w' p m L O
  good : ∀ {w p m L O}, D w p m L O → GoodL m L
structure AmOk (D : World → Nat → Nat → AmL → List Nat → Prop) : Prop extends StOkA D where
  new : ∀ (n : Nat) (w : World), n ≤ 4096 → Calls Try.prog 9 #[.int .i64 n] w fun e w' => ∃ p O, e = .returned (.pointer (some ⟨p, 0, none⟩)) ∧ D w' p n [] O ∧ w.grownBy w' none ∧ ∀ b, b ∈ O → w.heap.size ≤ b
  newNo : ∀ (n : Int) (w : World), ¬ (0 ≤ n ∧ n ≤ 4096) → Calls Try.prog 9 #[.int .i64 n] w fun e w' => e = .returned (.pointer none) ∧ w.grownBy w' none
  make : ∀ {w p m L O}, D w p m L O → ∀ n, okI n → Calls Try.prog 11 #[.pointer (some ⟨p, 0, none⟩), .int .i64 n] w fun e w' => e = .returned (.tuple #[.int .i64 (makeA m L n).n, .int .i64 (makeA m L n).e]) ∧ ALa D w w' p m O (makeA m L n).L
  set : ∀ {w p m L O}, D w p m L O → ∀ id s x, okI id → okI s → okI x → Calls Try.prog 13 #[.pointer (some ⟨p, 0, none⟩), .int .i64 id, .int .i64 s, .int .i64 x] w fun e w' => e = .returned (.tuple #[.int .i64 (setA L id s x).n, .int .i64 (setA L id s x).e]) ∧ ALa D w w' p m O (setA L id s x).L
  hold : ∀ {w p m L O}, D w p m L O → ∀ id lo hi, okI id → okI lo → okI hi → Calls Try.prog 15 #[.pointer (some ⟨p, 0, none⟩), .int .i64 id, .int .i64 lo, .int .i64 hi] w fun e w' => e = .returned (.int .i64 (holdA L id lo hi).e) ∧ ALa D w w' p m O (holdA L id lo hi).L
  drop : ∀ {w p m L O}, D w p m L O → ∀ id lo hi, okI id → okI lo → okI hi → Calls Try.prog 17 #[.pointer (some ⟨p, 0, none⟩), .int .i64 id, .int .i64 lo, .int .i64 hi] w (DropR D w p m O (dropA L id lo hi))
  copy : ∀ {w p m L O}, D w p m L O → ∀ id lo hi, okI id → okI lo → okI hi → Calls Try.prog 20 #[.pointer (some ⟨p, 0, none⟩), .int .i64 id, .int .i64 lo, .int .i64 hi] w (CopyS D w p m O (copyA m L id lo hi))
  slots : ∀ {w p m L O}, D w p m L O → ∀ id, okI id → Calls Try.prog 23 #[.pointer (some ⟨p, 0, none⟩), .int .i64 id] w fun e w' => e = .returned (.int .i64 (slotsA L id)) ∧ w.grownBy w' none
  get : ∀ {w p m L O}, D w p m L O → ∀ id s, okI id → okI s → Calls Try.prog 27 #[.pointer (some ⟨p, 0, none⟩), .int .i64 id, .int .i64 s] w fun e w' => e = .returned (.int .i64 (getA L id s)) ∧ w.grownBy w' none
  cover : ∀ {w p m L O}, D w p m L O → ∀ id s, okI id → okI s → Calls Try.prog 25 #[.pointer (some ⟨p, 0, none⟩), .int .i64 id, .int .i64 s] w fun e w' => e = .returned (.int .i64 (coverA L id s)) ∧ w.grownBy w' none
  ids : ∀ {w p m L O}, D w p m L O → Calls Try.prog 29 #[.pointer (some ⟨p, 0, none⟩)] w fun e w' => ∃ u, e = .returned u ∧ RowOf zCells 1 w' u (idsA L) ∧ (∀ b, u.ownBlock = some b → w.heap.size ≤ b) ∧ w.grownBy w' none
  used : ∀ {w p m L O}, D w p m L O → ∀ id, okI id → Calls Try.prog 45 #[.pointer (some ⟨p, 0, none⟩), .int .i64 id] w (UsedR w (anonsA L id))
structure NoneOk13 (N : World → Value → Prop) : Prop where
  form : ∀ {w v}, N w v → ∃ a, v = .pointer a
  nil : ∀ w, N w (.pointer none)
  kept : ∀ {w w' v}, N w v → w.grownBy w' none → N w' v
  make : ∀ {w v}, N w v → ∀ n, Calls Try.prog 11 #[v, .int .i64 n] w fun e w' => e = .returned (.tuple #[.int .i64 0, .int .i64 1]) ∧ w.grownBy w' none
  set : ∀ {w v}, N w v → ∀ id s x, Calls Try.prog 13 #[v, .int .i64 id, .int .i64 s, .int .i64 x] w fun e w' => e = .returned (.tuple #[.int .i64 0, .int .i64 1]) ∧ w.grownBy w' none
  hold : ∀ {w v}, N w v → ∀ id lo hi, Calls Try.prog 15 #[v, .int .i64 id, .int .i64 lo, .int .i64 hi] w fun e w' => e = .returned (.int .i64 1) ∧ w.grownBy w' none
  drop : ∀ {w v}, N w v → ∀ id lo hi, Calls Try.prog 17 #[v, .int .i64 id, .int .i64 lo, .int .i64 hi] w fun e w' => e = .returned (.tuple #[.slice none 0 0, .int .i64 1]) ∧ w.grownBy w' none
  copy : ∀ {w v}, N w v → ∀ id lo hi, Calls Try.prog 20 #[v, .int .i64 id, .int .i64 lo, .int .i64 hi] w fun e w' => e = .returned (.tuple #[.int .i64 0, .slice none 0 0, .int .i64 1]) ∧ w.grownBy w' none
  slots : ∀ {w v}, N w v → ∀ id, Calls Try.prog 23 #[v, .int .i64 id] w fun e w' => e = .returned (.int .i64 0) ∧ w.grownBy w' none
  get : ∀ {w v}, N w v → ∀ id s, Calls Try.prog 27 #[v, .int .i64 id, .int .i64 s] w fun e w' => e = .returned (.int .i64 0) ∧ w.grownBy w' none
  cover : ∀ {w v}, N w v → ∀ id s, Calls Try.prog 25 #[v, .int .i64 id, .int .i64 s] w fun e w' => e = .returned (.int .i64 0) ∧ w.grownBy w' none
  ids : ∀ {w v}, N w v → Calls Try.prog 29 #[v] w fun e w' => ∃ a c, e = .returned (.slice a 0 c) ∧ w.grownBy w' none
  used : ∀ {w v}, N w v → ∀ id, Calls Try.prog 45 #[v, .int .i64 id] w (UsedR w [])
section
variable {D : World → Nat → Nat → AmL → List Nat → Prop} {w w' w2 wx : World} {p m : Nat} {L L' : AmL} {O O2 : List Nat}
theorem StOkA.grow (H : StOkA D) (h : D w p m L O) (g : w.grownBy w' none) : D w' p m L O := H.kept h g.size fun b hb => g.block b (H.lt h b hb) (by simp)
theorem StOkA.turn (H : StOkA D) (h : D w p m L O) (g : Turn O2 w w') (ho : ∀ b, b ∈ O → b ∉ O2) : D w' p m L O := H.kept h g.size fun b hb => g.block b (H.lt h b hb) (ho b hb)

/-- A pool of the law's own. -/
structure LA (D : World → Nat → Nat → AmL → List Nat → Prop) (w wx : World) (p m : Nat) (L : AmL) (O : List Nat) : Prop where
  d : D wx p m L O
  own : ∀ b, b ∈ O → w.heap.size ≤ b
  grown : w.grownBy wx none
theorem LA.new (h : D wx p m L O) (g : w.grownBy w' none) (g2 : w'.grownBy wx none) (o : ∀ b, b ∈ O → w'.heap.size ≤ b) : LA D w wx p m L O := ⟨h, fun b hb => Nat.le_trans g.size (o b hb), grown_trans g g2⟩
theorem LA.grow (H : StOkA D) (h : LA D w wx p m L O) (g : wx.grownBy w2 none) : LA D w w2 p m L O := ⟨H.grow h.d g, h.own, grown_trans h.grown g⟩
theorem LA.turn (H : StOkA D) (h : LA D w wx p m L O) (t : Turn O2 wx w2) (ho : ∀ b, b ∈ O → b ∉ O2) (hw : ∀ b, b ∈ O2 → w.heap.size ≤ b) : LA D w w2 p m L O := ⟨H.turn h.d t ho, h.own, ((Turn.grown h.grown).trans' t).noGrown hw⟩
theorem LA.left (h : LA D w wx p m L O) (t : ALa D wx w2 p m O L') : ∃ O', LA D w w2 p m L' O' ∧ Turn O wx w2 ∧ ∀ b, b ∈ O' → b ∈ O ∨ wx.heap.size ≤ b := by
  obtain ⟨O', h2, t2, o2⟩ := t
  refine ⟨O', ⟨h2, fun b hb => ?_, ((Turn.grown h.grown).trans' t2).noGrown h.own⟩, t2, o2⟩
  rcases o2 b hb with h3 | h3
  · exact h.own b h3
  · have := h.grown.size; omega

theorem LA.leftS {r : AR} {e : Ending} (h : LA D w wx p m L O) (t : CopyS D wx p m O r e w2) : ∃ u O', e = .returned (.tuple #[.int .i64 r.n, u, .int .i64 r.e]) ∧ RowOf zCells 1 w2 u r.l ∧ (∀ b, u.ownBlock = some b → wx.heap.size ≤ b) ∧ LA D w w2 p m r.L O' ∧ ∀ b, u.ownBlock = some b → b ∉ O' := by
  obtain ⟨u, O', he, hr, hf, ⟨h2, t2, o2⟩, ha⟩ := t
  refine ⟨u, O', he, hr, hf, ⟨h2, fun b hb => ?_, ((Turn.grown h.grown).trans' t2).noGrown h.own⟩, ha⟩
  rcases o2 b hb with h3 | h3
  · exact h.own b h3
  · have := h.grown.size; omega

/-- Two pools, apart. -/
structure TwoA (D E : World → Nat → Nat → AmL → List Nat → Prop) (w wx : World) (p m : Nat) (L : AmL) (O : List Nat) (q k : Nat) (M : AmL) (P : List Nat) : Prop where
  one : LA D w wx p m L O
  two : LA E w wx q k M P
  ap : ∀ b, b ∈ O → b ∉ P
variable {E : World → Nat → Nat → AmL → List Nat → Prop} {q k : Nat} {M M' : AmL} {P : List Nat}
theorem TwoA.grow (H : StOkA D) (K : StOkA E) (h : TwoA D E w wx p m L O q k M P) (g : wx.grownBy w2 none) : TwoA D E w w2 p m L O q k M P := ⟨h.one.grow H g, h.two.grow K g, h.ap⟩
theorem TwoA.make (H : StOkA D) (K : StOkA E) (h : LA D w wx p m L O) (g : wx.grownBy w2 none) (h2 : E w2 q k M P) (o : ∀ b, b ∈ P → wx.heap.size ≤ b) : TwoA D E w w2 p m L O q k M P :=
  ⟨h.grow H g, ⟨h2, fun b hb => Nat.le_trans h.grown.size (o b hb), grown_trans h.grown g⟩, fun b hb hp => by have := o b hp; have := H.lt h.d b hb; omega⟩
theorem TwoA.first (K : StOkA E) (h : TwoA D E w wx p m L O q k M P) (t : ALa D wx w2 p m O L') : ∃ O', TwoA D E w w2 p m L' O' q k M P ∧ Turn O wx w2 ∧ ∀ b, b ∈ O' → b ∈ O ∨ wx.heap.size ≤ b := by
  obtain ⟨O', h2, t2, o2⟩ := h.one.left t
  refine ⟨O', ⟨h2, h.two.turn K t2 (fun b hb hm => h.ap b hm hb) h.one.own, fun b hb hm => ?_⟩, t2, o2⟩
  rcases o2 b hb with h3 | h3
  · exact h.ap b h3 hm
  · have := K.lt h.two.d b hm; omega
theorem TwoA.second (H : StOkA D) (h : TwoA D E w wx p m L O q k M P) (t : ALa E wx w2 q k P M') : ∃ P', TwoA D E w w2 p m L O q k M' P' ∧ Turn P wx w2 ∧ ∀ b, b ∈ P' → b ∈ P ∨ wx.heap.size ≤ b := by
  obtain ⟨P', h2, t2, o2⟩ := h.two.left t
  refine ⟨P', ⟨h.one.turn H t2 h.ap h.two.own, h2, fun b hb hm => ?_⟩, t2, o2⟩
  rcases o2 b hm with h3 | h3
  · exact h.ap b hb h3
  · have := H.lt h.one.d b hb; omega
end

theorem va1 : makeA 9 [] 4 = ⟨1, [], 0, [some ⟨[1, 1, 1, 1], [0, 0, 0, 0]⟩]⟩ := by rfl
theorem va2 : setA [some ⟨[1, 1, 1, 1], [0, 0, 0, 0]⟩] 1 2 9 = ⟨0, [], 0, [some ⟨[1, 1, 1, 1], [0, 0, 9, 0]⟩]⟩ := by rfl
theorem va3 : holdA [some ⟨[1, 1, 1, 1], [0, 0, 9, 0]⟩] 1 0 2 = ⟨0, [], 0, [some ⟨[2, 2, 1, 1], [0, 0, 9, 0]⟩]⟩ := by rfl
theorem va4 : dropA [some ⟨[2, 2, 1, 1], [0, 0, 9, 0]⟩] 1 0 4 = ⟨0, [9], 0, [some ⟨[1, 1, 0, 0], [0, 0, 0, 0]⟩]⟩ := by rfl
theorem va5 : coverA [some ⟨[1, 1, 0, 0], [0, 0, 0, 0]⟩] 1 0 = 1 := by rfl
theorem va6 : coverA [some ⟨[1, 1, 0, 0], [0, 0, 0, 0]⟩] 1 2 = 0 := by rfl

set_option maxRecDepth 100000 in
set_option maxHeartbeats 2000000 in
theorem lives13 {D : World → Nat → Nat → AmL → List Nat → Prop} (H : AmOk D) (w : World) :
    Calls Try.prog 8 #[] w fun e w' => e = .returned (.bool true) ∧ w.grownBy w' none := by
  have HN := Lib.hid (H.new 9 w (by decide))
  have HT := Lib.hid H
  clear H
  go_enter Try.func8, Try.ntmps8
  go_wp2_with fail
  refine HN.out.mono ?_
  rintro e w1 ⟨p, O, rfl, h1, g1, o1⟩
  have H1 := Lib.hid (show LA D w w1 p 9 [] O from ⟨h1, o1, g1⟩)
  have hk := HT.out.make H1.out.d 4 (okS (by decide) (by decide))
  rw [va1] at hk
  have HK := Lib.hid hk
  clear hk h1 g1 o1 HN
  go_wp2_with fail
  refine HK.out.mono ?_
  rintro e w2 ⟨rfl, h2⟩
  obtain ⟨O2, h2, -, -⟩ := H1.out.left h2
  have H2 := Lib.hid h2
  have hk := HT.out.set H2.out.d 1 2 9 (okS (by decide) (by decide)) (okS (by decide) (by decide)) (okS (by decide) (by decide))
  simp only [va2] at hk
  have HK2 := Lib.hid hk
  clear hk h2 HK H1
  go_wp2_with fail
  refine HK2.out.mono ?_
  rintro e w3 ⟨rfl, h3⟩
  obtain ⟨O3, h3, -, -⟩ := H2.out.left h3
  have H3 := Lib.hid h3
  have hk := HT.out.hold H3.out.d 1 0 2 (okS (by decide) (by decide)) (okS (by decide) (by decide)) (okS (by decide) (by decide))
  simp only [va3] at hk
  have HK3 := Lib.hid hk
  clear hk h3 HK2 H2
  go_wp2_with fail
  refine HK3.out.mono ?_
  rintro e w4 ⟨rfl, h4⟩
  obtain ⟨O4, h4, -, -⟩ := H3.out.left h4
  have H4 := Lib.hid h4
  have hk := HT.out.drop H4.out.d 1 0 4 (okS (by decide) (by decide)) (okS (by decide) (by decide)) (okS (by decide) (by decide))
  simp only [va4] at hk
  have HK4 := Lib.hid hk
  clear hk h4 HK3 H3
  go_wp2_with fail
  refine HK4.out.mono ?_
  rintro e w5 ⟨u, rfl, r5, -, h5⟩
  obtain ⟨O5, h5, -, -⟩ := H4.out.left h5
  obtain ⟨su, cu, rfl⟩ := rowOf_form r5
  simp only at r5
  have ga := World.grownBy_alloc w5 (.cells #[.int .i64 9] 3 (0, 0)) none
  have h5a := h5.grow HT.out.toStOkA ga
  have hown : ZOwn (w5.alloc (.cells #[.int .i64 9] 3 (0, 0))) w5.heap.size (.slice (some ⟨w5.heap.size, 0, none⟩) 1 1) [9] :=
    ⟨rfl, .inr ⟨w5.heap.size, 1, #[.int .i64 9], rfl, Nat.le_refl _, heap_alloc_new w5 _, by decide, by decide, rfl, rfl⟩⟩
  have hi := ints_ok cu 1 (rowOf_grow r5 ga) (OwnOf.row hown) (by decide) true (by decide)
  have HI := Lib.hid hi
  have H5 := Lib.hid h5a
  clear h5 h5a r5 ga hown hi HK4 H4
  go_wp2_with fail
  refine HI.out.mono ?_
  rintro e w6 ⟨rfl, g6⟩
  have H6 := Lib.hid (H5.out.grow HT.out.toStOkA g6)
  have hk := HT.out.cover H6.out.d 1 0 (okS (by decide) (by decide)) (okS (by decide) (by decide))
  rw [va5] at hk
  have HK6 := Lib.hid hk
  clear hk g6 H5 HI
  go_wp2_with fail
  refine HK6.out.mono ?_
  rintro e w7 ⟨rfl, g7⟩
  have H7 := Lib.hid (H6.out.grow HT.out.toStOkA g7)
  have hk := HT.out.cover H7.out.d 1 2 (okS (by decide) (by decide)) (okS (by decide) (by decide))
  rw [va6] at hk
  have HK7 := Lib.hid hk
  clear hk g7 H6 HK6
  go_wp2_with fail
  refine HK7.out.mono ?_
  rintro e w8 ⟨rfl, g8⟩
  have HG := Lib.hid (grown_trans H7.out.grown g8)
  clear g8 H7 HK7
  go_wp2_with fail
  go_ret
  exact ⟨rfl, HG.out⟩
end Go.Proofs.Ytfmihbiongnpnaa
