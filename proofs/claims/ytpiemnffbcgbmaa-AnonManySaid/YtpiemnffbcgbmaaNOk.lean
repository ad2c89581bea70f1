/- What package anon must be shown to say of its pools (D: a pool by its list and its blocks); the example. -/
import Derived.Test.YtpiemnffbcgbmaaNRef4
import Derived.Test.YtpiemnffbcgbmaaZInts
import Derived.Laws.StructEq
import Derived.Laws.Unary
namespace Go.Proofs.Ytpiemnffbcgbmaa
open Go.ChangeShapes Go.WideShapes Go.ChangeAt Go.RowKit Go.Deep
set_option linter.unusedVariables false

/-- Pools lie in blocks, and hang on these alone. -/
structure StOkN (D : World → Nat → Nat → List AnV → List Nat → Prop) : Prop where
  lt : ∀ {w p m L O}, D w p m L O → ∀ b, b ∈ O → b < w.heap.size
  kept : ∀ {w w' p m L O}, D w p m L O → w.heap.size ≤ w'.heap.size → (∀ b, b ∈ O → w'.heap[b]? = w.heap[b]?) → D w' p m L O
  good : ∀ {w p m L O}, D w p m L O → GoodN m L
structure NaOk (D : World → Nat → Nat → List AnV → List Nat → Prop) : Prop extends StOkN D where
  new : ∀ (n : Nat) (w : World), n ≤ 4096 → Calls Try.prog 9 #[.int .i64 n] w fun e w' => ∃ p O, e = .returned (.pointer (some ⟨p, 0, none⟩)) ∧ D w' p n [] O ∧ w.grownBy w' none ∧ ∀ b, b ∈ O → w.heap.size ≤ b
  newNo : ∀ (n : Int) (w : World), ¬ (0 ≤ n ∧ n ≤ 4096) → Calls Try.prog 9 #[.int .i64 n] w fun e w' => e = .returned (.pointer none) ∧ w.grownBy w' none
  make : ∀ {w p m L O}, D w p m L O → ∀ f, okI f → Calls Try.prog 12 #[.pointer (some ⟨p, 0, none⟩), .int .i64 f] w fun e w' => e = .returned (.tuple #[.int .i64 (makeN m L f).n, .int .i64 (makeN m L f).e]) ∧ AL D w w' p m O (makeN m L f).L
  ref : ∀ {w p m L O}, D w p m L O → ∀ id b, okI id → okI b → Calls Try.prog 14 #[.pointer (some ⟨p, 0, none⟩), .int .i64 id, .int .i64 b] w fun e w' => e = .returned (ansN (refN L id b)) ∧ AL D w w' p m O (refN L id b).L
  get : ∀ {w p m L O}, D w p m L O → ∀ id, okI id → Calls Try.prog 18 #[.pointer (some ⟨p, 0, none⟩), .int .i64 id] w fun e w' => e = .returned (getVN (getN L id)) ∧ w.grownBy w' none
  put : ∀ {w p m L O}, D w p m L O → ∀ id f s, okI id → okI f → okI s → Calls Try.prog 16 #[.pointer (some ⟨p, 0, none⟩), .int .i64 id, .int .i64 f, .int .i64 s] w fun e w' => e = .returned (.int .i64 (putN L id f s).e) ∧ AL D w w' p m O (putN L id f s).L
  len : ∀ {w p m L O}, D w p m L O → Calls Try.prog 25 #[.pointer (some ⟨p, 0, none⟩)] w fun e w' => e = .returned (.int .i64 (idsN L).length) ∧ w.grownBy w' none
  ids : ∀ {w p m L O}, D w p m L O → Calls Try.prog 21 #[.pointer (some ⟨p, 0, none⟩)] w fun e w' => ∃ u, e = .returned u ∧ RowOf zCells 1 w' u (idsN L) ∧ (∀ b, u.ownBlock = some b → w.heap.size ≤ b) ∧ w.grownBy w' none
  sum : ∀ {w p m L O}, D w p m L O → Calls Try.prog 23 #[.pointer (some ⟨p, 0, none⟩)] w fun e w' => e = .returned (.int .i64 (sumN L)) ∧ w.grownBy w' none
structure NoneOk12 (N : World → Value → Prop) : Prop where
  form : ∀ {w v}, N w v → ∃ a, v = .pointer a
  nil : ∀ w, N w (.pointer none)
  kept : ∀ {w w' v}, N w v → w.grownBy w' none → N w' v
  make : ∀ {w v}, N w v → ∀ f, Calls Try.prog 12 #[v, .int .i64 f] w fun e w' => e = .returned (.tuple #[.int .i64 0, .int .i64 1]) ∧ w.grownBy w' none
  ref : ∀ {w v}, N w v → ∀ id b, Calls Try.prog 14 #[v, .int .i64 id, .int .i64 b] w fun e w' => e = .returned (.tuple #[.agg #[.int .i64 0, .int .i64 0, .int .i64 0], .int .i64 1]) ∧ w.grownBy w' none
  get : ∀ {w v}, N w v → ∀ id, okI id → Calls Try.prog 18 #[v, .int .i64 id] w fun e w' => e = .returned (.tuple #[.agg #[.int .i64 0, .int .i64 0, .int .i64 0], .bool false]) ∧ w.grownBy w' none
  put : ∀ {w v}, N w v → ∀ id f s, Calls Try.prog 16 #[v, .int .i64 id, .int .i64 f, .int .i64 s] w fun e w' => e = .returned (.int .i64 1) ∧ w.grownBy w' none
  len : ∀ {w v}, N w v → Calls Try.prog 25 #[v] w fun e w' => e = .returned (.int .i64 0) ∧ w.grownBy w' none
  ids : ∀ {w v}, N w v → Calls Try.prog 21 #[v] w fun e w' => ∃ a c, e = .returned (.slice a 0 c) ∧ w.grownBy w' none
  sum : ∀ {w v}, N w v → Calls Try.prog 23 #[v] w fun e w' => e = .returned (.int .i64 0) ∧ w.grownBy w' none

theorem rnsOk : StOkN RNS := ⟨fun h => rnsOk_lt h, fun h hs hb => rnsOk_kept h hs hb, fun h => by obtain ⟨v, h, _⟩ := h; exact h.good⟩
section
variable {D : World → Nat → Nat → List AnV → List Nat → Prop} {w w' w2 wx : World} {p m : Nat} {L L' : List AnV} {O O2 : List Nat}
theorem StOkN.grow (H : StOkN D) (h : D w p m L O) (g : w.grownBy w' none) : D w' p m L O := H.kept h g.size fun b hb => g.block b (H.lt h b hb) (by simp)
theorem StOkN.turn (H : StOkN D) (h : D w p m L O) (g : Turn O2 w w') (ho : ∀ b, b ∈ O → b ∉ O2) : D w' p m L O := H.kept h g.size fun b hb => g.block b (H.lt h b hb) (ho b hb)

/-- A pool of the law's own. -/
structure LN (D : World → Nat → Nat → List AnV → List Nat → Prop) (w wx : World) (p m : Nat) (L : List AnV) (O : List Nat) : Prop where
  d : D wx p m L O
  own : ∀ b, b ∈ O → w.heap.size ≤ b
  grown : w.grownBy wx none
theorem LN.new (h : D wx p m L O) (g : w.grownBy w' none) (g2 : w'.grownBy wx none) (o : ∀ b, b ∈ O → w'.heap.size ≤ b) : LN D w wx p m L O := ⟨h, fun b hb => Nat.le_trans g.size (o b hb), grown_trans g g2⟩
theorem LN.grow (H : StOkN D) (h : LN D w wx p m L O) (g : wx.grownBy w2 none) : LN D w w2 p m L O := ⟨H.grow h.d g, h.own, grown_trans h.grown g⟩
theorem LN.turn (H : StOkN D) (h : LN D w wx p m L O) (t : Turn O2 wx w2) (ho : ∀ b, b ∈ O → b ∉ O2) (hw : ∀ b, b ∈ O2 → w.heap.size ≤ b) : LN D w w2 p m L O := ⟨H.turn h.d t ho, h.own, ((Turn.grown h.grown).trans' t).noGrown hw⟩
theorem LN.left (h : LN D w wx p m L O) (t : AL D wx w2 p m O L') : ∃ O', LN D w w2 p m L' O' ∧ Turn O wx w2 ∧ ∀ b, b ∈ O' → b ∈ O ∨ wx.heap.size ≤ b := by
  obtain ⟨O', h2, t2, o2⟩ := t
  refine ⟨O', ⟨h2, fun b hb => ?_, ((Turn.grown h.grown).trans' t2).noGrown h.own⟩, t2, o2⟩
  rcases o2 b hb with h3 | h3
  · exact h.own b h3
  · have := h.grown.size; omega

/-- Two pools, apart. -/
structure TwoN (D E : World → Nat → Nat → List AnV → List Nat → Prop) (w wx : World) (p m : Nat) (L : List AnV) (O : List Nat) (q k : Nat) (M : List AnV) (P : List Nat) : Prop where
  one : LN D w wx p m L O
  two : LN E w wx q k M P
  ap : ∀ b, b ∈ O → b ∉ P
variable {E : World → Nat → Nat → List AnV → List Nat → Prop} {q k : Nat} {M M' : List AnV} {P : List Nat}
theorem TwoN.grow (H : StOkN D) (K : StOkN E) (h : TwoN D E w wx p m L O q k M P) (g : wx.grownBy w2 none) : TwoN D E w w2 p m L O q k M P := ⟨h.one.grow H g, h.two.grow K g, h.ap⟩
theorem TwoN.make (H : StOkN D) (K : StOkN E) (h : LN D w wx p m L O) (g : wx.grownBy w2 none) (h2 : E w2 q k M P) (o : ∀ b, b ∈ P → wx.heap.size ≤ b) : TwoN D E w w2 p m L O q k M P :=
  ⟨h.grow H g, ⟨h2, fun b hb => Nat.le_trans h.grown.size (o b hb), grown_trans h.grown g⟩, fun b hb hp => by have := o b hp; have := H.lt h.d b hb; omega⟩
theorem TwoN.first (K : StOkN E) (h : TwoN D E w wx p m L O q k M P) (t : AL D wx w2 p m O L') : ∃ O', TwoN D E w w2 p m L' O' q k M P ∧ Turn O wx w2 ∧ ∀ b, b ∈ O' → b ∈ O ∨ wx.heap.size ≤ b := by
  obtain ⟨O', h2, t2, o2⟩ := h.one.left t
  refine ⟨O', ⟨h2, h.two.turn K t2 (fun b hb hm => h.ap b hm hb) h.one.own, fun b hb hm => ?_⟩, t2, o2⟩
  rcases o2 b hb with h3 | h3
  · exact h.ap b h3 hm
  · have := K.lt h.two.d b hm; omega
theorem TwoN.second (H : StOkN D) (h : TwoN D E w wx p m L O q k M P) (t : AL E wx w2 q k P M') : ∃ P', TwoN D E w w2 p m L O q k M' P' ∧ Turn P wx w2 ∧ ∀ b, b ∈ P' → b ∈ P ∨ wx.heap.size ≤ b := by
  obtain ⟨P', h2, t2, o2⟩ := h.two.left t
  refine ⟨P', ⟨h.one.turn H t2 h.ap h.two.own, h2, fun b hb hm => ?_⟩, t2, o2⟩
  rcases o2 b hm with h3 | h3
  · exact h.ap b hb h3
  · have := H.lt h.one.d b hb; omega
end

theorem lv1 : makeN 9 [] 5 = ⟨1, 0, [⟨1, 5, -1⟩]⟩ := by rfl
theorem lv2 : makeN 9 [⟨1, 5, -1⟩] 6 = ⟨2, 0, [⟨1, 5, -1⟩, ⟨1, 6, -1⟩]⟩ := by rfl
theorem lv3 : refN [⟨1, 5, -1⟩, ⟨1, 6, -1⟩] 1 (-1) = ⟨⟨0, 5, -1⟩, 0, [⟨0, 5, -1⟩, ⟨1, 6, -1⟩]⟩ := by rfl
theorem lv4 : makeN 9 [⟨0, 5, -1⟩, ⟨1, 6, -1⟩] 7 = ⟨1, 0, [⟨1, 7, -1⟩, ⟨1, 6, -1⟩]⟩ := by rfl
theorem lv5 : getN [⟨1, 7, -1⟩, ⟨1, 6, -1⟩] 1 = some ⟨1, 7, -1⟩ := by rfl
theorem eql_an (w : World) (a b c d e f : Int) (t : Bool) (h : decide (a = d ∧ b = e ∧ c = f) = t) : (binOp .eql 36 (.agg #[.int .i64 a, .int .i64 b, .int .i64 c]) (.agg #[.int .i64 d, .int .i64 e, .int .i64 f])).run Try.prog w = .ok (.bool t) w := by
  subst h
  go_simp
  by_cases h1 : a = d <;> by_cases h2 : b = e <;> by_cases h3 : c = f <;> simp [h1, h2, h3]

set_option maxRecDepth 100000 in
set_option maxHeartbeats 2000000 in
theorem lives12 {D : World → Nat → Nat → List AnV → List Nat → Prop} (H : NaOk D) (w : World) :
    Calls Try.prog 11 #[] w fun e w' => e = .returned (.bool true) ∧ w.grownBy w' none := by
  have HN := Lib.hid (H.new 9 w (by decide))
  have HT := Lib.hid H
  clear H
  go_enter Try.func11, Try.ntmps11
  go_wp2_with fail
  refine HN.out.mono ?_
  rintro e w1 ⟨p, O, rfl, h1, g1, o1⟩
  have H1 := Lib.hid (show LN D w w1 p 9 [] O from ⟨h1, o1, g1⟩)
  have hk := HT.out.make H1.out.d 5 (okS (by decide) (by decide))
  rw [lv1] at hk
  have HK := Lib.hid hk
  clear hk h1 g1 o1 HN
  go_wp2_with fail
  refine HK.out.mono ?_
  rintro e w2 ⟨rfl, h2⟩
  obtain ⟨O2, h2, -, -⟩ := H1.out.left h2
  have H2 := Lib.hid h2
  have hk := HT.out.make H2.out.d 6 (okS (by decide) (by decide))
  rw [lv2] at hk
  have HK2 := Lib.hid hk
  clear hk h2 HK H1
  go_wp2_with fail
  refine HK2.out.mono ?_
  rintro e w3 ⟨rfl, h3⟩
  obtain ⟨O3, h3, -, -⟩ := H2.out.left h3
  have H3 := Lib.hid h3
  have hk := HT.out.ref H3.out.d 1 (-1) (okS (by decide) (by decide)) (okS (by decide) (by decide))
  rw [lv3] at hk
  unfold ansN anAgg at hk
  have HK3 := Lib.hid hk
  clear hk h3 HK2 H2
  go_wp2_with fail
  refine HK3.out.mono ?_
  rintro e w4 ⟨rfl, h4⟩
  obtain ⟨O4, h4, -, -⟩ := H3.out.left h4
  have H4 := Lib.hid (h4.grow HT.out.toStOkN (World.grownBy_alloc w4 (.cells #[.int .i64 0, .int .i64 5, .int .i64 (-1)] 36 (0, 0)) none))
  have hk := HT.out.make H4.out.d 7 (okS (by decide) (by decide))
  rw [lv4] at hk
  have HK4 := Lib.hid hk
  clear hk h4 HK3 H3
  go_wp2_with fail
  refine HK4.out.mono ?_
  rintro e w5 ⟨rfl, h5⟩
  obtain ⟨O5, h5, -, -⟩ := H4.out.left h5
  have H5 := Lib.hid h5
  have hk := HT.out.get H5.out.d 1 (okS (by decide) (by decide))
  rw [lv5] at hk
  unfold getVN anAgg at hk
  have HK5 := Lib.hid hk
  clear hk h5 HK4 H4
  go_wp2_with fail
  refine HK5.out.mono ?_
  rintro e w6 ⟨rfl, g6⟩
  have HG := Lib.hid (grown_trans (H5.out.grow HT.out.toStOkN g6).grown (World.grownBy_alloc w6 (.cells #[.int .i64 1, .int .i64 7, .int .i64 (-1)] 36 (0, 0)) none))
  have hq := fun wx => eql_an wx 1 7 (-1) 1 7 (-1) true (by decide)
  clear g6 H5 HK5
  go_wp2_with fail
  go_ret
  exact ⟨rfl, HG.out⟩
end Go.Proofs.Ytpiemnffbcgbmaa
