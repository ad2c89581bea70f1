/- What package spread must be shown to say of its counts (D: counts by their plain list and their blocks); the example. -/
import Derived.Test.YtfmihbiongnpnaaJRef4
namespace Go.Proofs.Ytfmihbiongnpnaa
open Go.ChangeShapes Go.WideShapes Go.ChangeAt Go.RowKit Go.Deep
set_option linter.unusedVariables false

/-- Counts lie in blocks, and hang on these alone. -/
structure StOk (D : World → Nat → List Int → List Nat → Prop) : Prop where
  lt : ∀ {w p L O}, D w p L O → ∀ b, b ∈ O → b < w.heap.size
  kept : ∀ {w w' p L O}, D w p L O → w.heap.size ≤ w'.heap.size → (∀ b, b ∈ O → w'.heap[b]? = w.heap[b]?) → D w' p L O
def SL (D : World → Nat → List Int → List Nat → Prop) (w w' : World) (p : Nat) (O : List Nat) (L' : List Int) : Prop := ∃ O', D w' p L' O' ∧ Turn O w w' ∧ ∀ b, b ∈ O' → b ∈ O ∨ w.heap.size ≤ b
structure SpOk (D : World → Nat → List Int → List Nat → Prop) : Prop extends StOk D where
  new : ∀ (k : Nat) (w : World), k ≤ 4096 → Calls Try.prog 47 #[.int .i64 k] w fun e w' => ∃ p O, e = .returned (.pointer (some ⟨p, 0, none⟩)) ∧ D w' p (List.replicate k 0) O ∧ w.grownBy w' none ∧ ∀ b, b ∈ O → w.heap.size ≤ b
  newNo : ∀ (n : Int) (w : World), ¬ (0 ≤ n ∧ n ≤ 4096) → Calls Try.prog 47 #[.int .i64 n] w fun e w' => e = .returned (.pointer none) ∧ w.grownBy w' none
  len : ∀ {w p L O}, D w p L O → JOk L → Calls Try.prog 43 #[.pointer (some ⟨p, 0, none⟩)] w fun e w' => e = .returned (.int .i64 L.length) ∧ w.grownBy w' none
  at_ : ∀ {w p L O}, D w p L O → JOk L → ∀ i, okI i → Calls Try.prog 37 #[.pointer (some ⟨p, 0, none⟩), .int .i64 i] w fun e w' => e = .returned (.int .i64 (atJ L i)) ∧ w.grownBy w' none
  add : ∀ {w p L O}, D w p L O → JOk L → ∀ lo hi by_, okI lo → okI hi → okI by_ → Calls Try.prog 48 #[.pointer (some ⟨p, 0, none⟩), .int .i64 lo, .int .i64 hi, .int .i64 by_] w (AddA w (fun w' L' => SL D w w' p O L') L lo hi by_)
  runs : ∀ {w p L O}, D w p L O → JOk L → Calls Try.prog 64 #[.pointer (some ⟨p, 0, none⟩)] w fun e w' => ∃ u, e = .returned u ∧ RowOf runCells 3 w' u (runsJ L) ∧ (∀ b, u.ownBlock = some b → w.heap.size ≤ b) ∧ w.grownBy w' none
  sum : ∀ {w p L O}, D w p L O → JOk L → Calls Try.prog 41 #[.pointer (some ⟨p, 0, none⟩)] w fun e w' => e = .returned (.int .i64 (sumJ L)) ∧ w.grownBy w' none
structure NoneOk11 (N : World → Value → Prop) : Prop where
  form : ∀ {w v}, N w v → ∃ a, v = .pointer a
  nil : ∀ w, N w (.pointer none)
  kept : ∀ {w w' v}, N w v → w.grownBy w' none → N w' v
  add : ∀ {w v}, N w v → ∀ lo hi by_, Calls Try.prog 48 #[v, .int .i64 lo, .int .i64 hi, .int .i64 by_] w fun e w' => ∃ a c, e = .returned (.tuple #[.slice a 0 c, .int .i64 1]) ∧ w.grownBy w' none
  len : ∀ {w v}, N w v → Calls Try.prog 43 #[v] w fun e w' => e = .returned (.int .i64 0) ∧ w.grownBy w' none
  sum : ∀ {w v}, N w v → Calls Try.prog 41 #[v] w fun e w' => e = .returned (.int .i64 0) ∧ w.grownBy w' none
  at_ : ∀ {w v}, N w v → ∀ i, okI i → Calls Try.prog 37 #[v, .int .i64 i] w fun e w' => e = .returned (.int .i64 (-1)) ∧ w.grownBy w' none
  runs : ∀ {w v}, N w v → Calls Try.prog 64 #[v] w fun e w' => ∃ a c, e = .returned (.slice a 0 c) ∧ w.grownBy w' none

theorem rsOk : StOk RS := ⟨fun h => h.lt, fun h _ hb => h.kept hb⟩
section
variable {D : World → Nat → List Int → List Nat → Prop} {w w' w2 wx : World} {p : Nat} {L L' : List Int} {O O2 : List Nat}
theorem StOk.grow (H : StOk D) (h : D w p L O) (g : w.grownBy w' none) : D w' p L O := H.kept h g.size fun b hb => g.block b (H.lt h b hb) (by simp)
theorem StOk.turn (H : StOk D) (h : D w p L O) (g : Turn O2 w w') (ho : ∀ b, b ∈ O → b ∉ O2) : D w' p L O := H.kept h g.size fun b hb => g.block b (H.lt h b hb) (ho b hb)

/-- Counts of the law's own. -/
structure LJ (D : World → Nat → List Int → List Nat → Prop) (w wx : World) (p : Nat) (L : List Int) (O : List Nat) : Prop where
  d : D wx p L O
  own : ∀ b, b ∈ O → w.heap.size ≤ b
  grown : w.grownBy wx none
  ok : JOk L
theorem LJ.new (h : D wx p L O) (g : w.grownBy w' none) (g2 : w'.grownBy wx none) (o : ∀ b, b ∈ O → w'.heap.size ≤ b) (k : JOk L) : LJ D w wx p L O := ⟨h, fun b hb => Nat.le_trans g.size (o b hb), grown_trans g g2, k⟩
theorem LJ.grow (H : StOk D) (h : LJ D w wx p L O) (g : wx.grownBy w2 none) : LJ D w w2 p L O := ⟨H.grow h.d g, h.own, grown_trans h.grown g, h.ok⟩
theorem LJ.turn (H : StOk D) (h : LJ D w wx p L O) (t : Turn O2 wx w2) (ho : ∀ b, b ∈ O → b ∉ O2) (hw : ∀ b, b ∈ O2 → w.heap.size ≤ b) : LJ D w w2 p L O := ⟨H.turn h.d t ho, h.own, ((Turn.grown h.grown).trans' t).noGrown hw, h.ok⟩
theorem LJ.left (h : LJ D w wx p L O) (t : SL D wx w2 p O L') (hk : JOk L') : ∃ O', LJ D w w2 p L' O' ∧ Turn O wx w2 ∧ ∀ b, b ∈ O' → b ∈ O ∨ wx.heap.size ≤ b := by
  obtain ⟨O', h2, t2, o2⟩ := t
  refine ⟨O', ⟨h2, fun b hb => ?_, ((Turn.grown h.grown).trans' t2).noGrown h.own, hk⟩, t2, o2⟩
  rcases o2 b hb with h3 | h3
  · exact h.own b h3
  · have := h.grown.size; omega

/-- Two counts, apart. -/
structure Two (D E : World → Nat → List Int → List Nat → Prop) (w wx : World) (p : Nat) (L : List Int) (O : List Nat) (q : Nat) (M : List Int) (P : List Nat) : Prop where
  one : LJ D w wx p L O
  two : LJ E w wx q M P
  ap : ∀ b, b ∈ O → b ∉ P
variable {E : World → Nat → List Int → List Nat → Prop} {q : Nat} {M M' : List Int} {P : List Nat}
theorem Two.grow (H : StOk D) (K : StOk E) (h : Two D E w wx p L O q M P) (g : wx.grownBy w2 none) : Two D E w w2 p L O q M P := ⟨h.one.grow H g, h.two.grow K g, h.ap⟩
theorem Two.make (H : StOk D) (K : StOk E) (h : LJ D w wx p L O) (g : wx.grownBy w2 none) (h2 : E w2 q M P) (o : ∀ b, b ∈ P → wx.heap.size ≤ b) (k : JOk M) : Two D E w w2 p L O q M P :=
  ⟨h.grow H g, ⟨h2, fun b hb => Nat.le_trans h.grown.size (o b hb), grown_trans h.grown g, k⟩, fun b hb hp => by have := o b hp; have := H.lt h.d b hb; omega⟩
theorem Two.first (K : StOk E) (h : Two D E w wx p L O q M P) (t : SL D wx w2 p O L') (hk : JOk L') : ∃ O', Two D E w w2 p L' O' q M P ∧ Turn O wx w2 ∧ ∀ b, b ∈ O' → b ∈ O ∨ wx.heap.size ≤ b := by
  obtain ⟨O', h2, t2, o2⟩ := h.one.left t hk
  refine ⟨O', ⟨h2, h.two.turn K t2 (fun b hb hm => h.ap b hm hb) h.one.own, fun b hb hm => ?_⟩, t2, o2⟩
  rcases o2 b hb with h3 | h3
  · exact h.ap b h3 hm
  · have := K.lt h.two.d b hm; omega
theorem Two.second (H : StOk D) (h : Two D E w wx p L O q M P) (t : SL E wx w2 q P M') (hk : JOk M') : ∃ P', Two D E w w2 p L O q M' P' ∧ Turn P wx w2 ∧ ∀ b, b ∈ P' → b ∈ P ∨ wx.heap.size ≤ b := by
  obtain ⟨P', h2, t2, o2⟩ := h.two.left t hk
  refine ⟨P', ⟨h.one.turn H t2 h.ap h.two.own, h2, fun b hb hm => ?_⟩, t2, o2⟩
  rcases o2 b hm with h3 | h3
  · exact h.ap b hb h3
  · have := H.lt h.one.d b hb; omega
end
theorem addA_open {w w' : World} {P : World → List Int → Prop} {L : List Int} {lo hi by_ : Int} {e : Ending} (h : AddA w P L lo hi by_ e w') : ∃ u, e = .returned (.tuple #[u, .int .i64 (addJ L lo hi by_).2.1]) ∧ RowOf zCells 1 w' u (addJ L lo hi by_).1 ∧ (∀ b, u.ownBlock = some b → w.heap.size ≤ b) ∧ P w' (addJ L lo hi by_).2.2 := h

theorem mj1 : addJ (List.replicate 5 0) 1 4 1 = ([], 0, [0, 1, 1, 1, 0]) := by decide
theorem mj2 : addJ [0, 1, 1, 1, 0] 2 3 1 = ([], 0, [0, 1, 2, 1, 0]) := by decide
theorem mj3 : (runsJ [0, 1, 2, 1, 0]).length = 5 := by decide

end Go.Proofs.Ytfmihbiongnpnaa
