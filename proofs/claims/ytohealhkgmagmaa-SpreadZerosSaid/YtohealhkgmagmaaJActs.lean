/- SpreadActs: the counts and the document's, side by side. -/
import Derived.Test.YtohealhkgmagmaaJDl
import Derived.Test.YtohealhkgmagmaaJAct
import Derived.Deep.CutBlock
import Derived.Deep.DeepCutAuto
namespace Go.Proofs.Ytohealhkgmagmaa
open Go.ChangeShapes Go.WideShapes Go.ChangeAt Go.RowKit Go.Deep
set_option linter.unusedVariables false

theorem eql_ptr_none (w : World) : (binOp .eql 23 (.pointer none) (.pointer none)).run Try.prog w = .ok (.bool true) w := by kernel_rfl
theorem eql_ref_none (w : World) : (binOp .eql 25 (.pointer none) (.pointer none)).run Try.prog w = .ok (.bool true) w := by kernel_rfl
theorem eql_ref_nil (w : World) (a : Addr) : (binOp .eql 25 (.pointer (some a)) (.pointer none)).run Try.prog w = .ok (.bool false) w := by go_simp


section
variable {w : World} {q : Nat} {L : List Int} {O : List Nat}
theorem rs_at (h : RS w q L O) (hk : JOk L) (i : Int) : Calls Try.prog 18 #[.pointer (some ⟨q, 0, none⟩), .int .i64 i] w fun e w' => e = .returned (.int .i64 (atJ L i)) ∧ w.grownBy w' none := by
  obtain ⟨g, c, h, -⟩ := h
  exact rj_at h hk i
theorem rs_sum (h : RS w q L O) (hk : JOk L) : Calls Try.prog 20 #[.pointer (some ⟨q, 0, none⟩)] w fun e w' => e = .returned (.int .i64 (sumJ L)) ∧ w.grownBy w' none := by
  obtain ⟨g, c, h, -⟩ := h
  exact rj_sum h hk
theorem rs_runs (h : RS w q L O) (hk : JOk L) : Calls Try.prog 23 #[.pointer (some ⟨q, 0, none⟩)] w fun e w' => ∃ u, e = .returned u ∧ RowOf runCells 3 w' u (runsJ L) ∧ (∀ b, u.ownBlock = some b → w.heap.size ≤ b) ∧ w.grownBy w' none := by
  obtain ⟨g, c, h, -⟩ := h
  exact rj_runs h hk
theorem rs_add (h : RS w q L O) (hk : JOk L) (lo hi by_ : Int) (h0 : okI lo) (h1 : okI hi) (h2 : okI by_) : Calls Try.prog 14 #[.pointer (some ⟨q, 0, none⟩), .int .i64 lo, .int .i64 hi, .int .i64 by_] w (AddA w (fun w' L' => SL RS w w' q O L') L lo hi by_) := by
  obtain ⟨g, c, h, rfl⟩ := h
  exact rj_add h hk lo hi by_ h0 h1 h2
theorem rs_grow (h : RS w q L O) (hk : JOk L) (n : Int) (hn : okI n) : Calls Try.prog 12 #[.pointer (some ⟨q, 0, none⟩), .int .i64 n] w fun e w' => e = .returned (.int .i64 (growJ L n).1) ∧ SL RS w w' q O (growJ L n).2 := by
  obtain ⟨g, c, h, rfl⟩ := h
  exact rj_grow h hk n hn
theorem rs_cell (h : RS w q L O) : ∃ g c, w.cell? ⟨q, 0, none⟩ = some (.slice (some ⟨g, 0, none⟩) L.length c) ∧ O = [q, g] := by
  obtain ⟨g, c, h, e⟩ := h
  exact ⟨g, c, h.at, e⟩
end

theorem addJ_len (L : List Int) (lo hi by_ : Int) : (addJ L lo hi by_).1.length ≤ L.length := by
  unfold addJ
  split
  · unfold goneJ
    rw [List.length_map]
    exact Nat.le_trans (List.length_filter_le _ _) (by simp)
  · exact Nat.zero_le _
theorem rowOf_form {α : Type} {cells : α → List Value} {size : Nat} {w : World} {u : Value} {xs : List α} (h : RowOf cells size w u xs) : ∃ s c, u = .slice s xs.length c := RowAt.form h
theorem rowOf_grow {α : Type} {cells : α → List Value} {size : Nat} {w w' : World} {u : Value} {xs : List α} (h : RowOf cells size w u xs) (g : w.grownBy w' none) : RowOf cells size w' u xs := RowAt.grow h g
/-- A row that a call made stays where others' blocks turn. -/
theorem row_turn {α : Type} {cells : α → List Value} {size : Nat} {w w' : World} {u : Value} {xs : List α} {P : List Nat} (h : RowOf cells size w u xs) (t : Turn P w w') (hP : ∀ b, u.ownBlock = some b → b ∉ P) : RowOf cells size w' u xs := by
  refine RowAt.kept h t.size fun a l c e => ?_
  refine t.block a.block ?_ (hP a.block (by rw [e]; rfl))
  rcases h.2 with ⟨h0, _⟩ | ⟨g, o, c', hv, hg, _⟩
  · rw [h0] at e; cases e
  · rw [hv] at e; cases e; exact hg

/-- Both, and a round's box. -/
structure JX (D : World → Nat → List Int → List Nat → Prop) (w wx : World) (p q : Nat) (L : List Int) (O P : List Nat) (y : Nat) (A : JActV) : Prop where
  two : Two D RS w wx p L O q L P
  b : JActB wx y A
  yn : y ∉ O
  yq : y ∉ P
section
variable {D : World → Nat → List Int → List Nat → Prop} {w wx w2 w3 : World} {p q y : Nat} {L L' M : List Int} {O P : List Nat} {A : JActV}
theorem JX.grow (H : StOk D) (h : JX D w wx p q L O P y A) (g : wx.grownBy w2 none) : JX D w w2 p q L O P y A := ⟨h.two.grow H rsOk g, h.b.grow g, h.yn, h.yq⟩
theorem JX.new (H : StOk D) (h : Two D RS w wx p L O q L P) (A : JActV) : JX D w (wx.alloc (.cells #[.int .i64 A.lo, .int .i64 A.hi, .int .i64 A.by_, .bool A.gr] 29 (0, 0))) p q L O P wx.heap.size A :=
  ⟨h.grow H rsOk (World.grownBy_alloc wx _ none), JActB.new wx A, fun hm => by have := H.lt h.one.d _ hm; omega, fun hm => by have := rsOk.lt h.two.d _ hm; omega⟩
/-- Between the two calls of a change. -/
structure JH (D : World → Nat → List Int → List Nat → Prop) (w wx : World) (p q : Nat) (L M : List Int) (O P : List Nat) (y : Nat) (A : JActV) : Prop where
  two : Two D RS w wx p L O q M P
  b : JActB wx y A
  yn : y ∉ O
  yq : y ∉ P
theorem JH.grow (H : StOk D) (h : JH D w wx p q L M O P y A) (g : wx.grownBy w2 none) : JH D w w2 p q L M O P y A := ⟨h.two.grow H rsOk g, h.b.grow g, h.yn, h.yq⟩
theorem JX.first (h : JX D w wx p q L O P y A) (t : SL D wx w2 p O L') (hk : JOk L') : ∃ O', JH D w w2 p q L' L O' P y A := by
  obtain ⟨O', h2, t2, o2⟩ := h.two.first rsOk t hk
  refine ⟨O', h2, h.b.turn t2 h.yn, fun hm => ?_, h.yq⟩
  rcases o2 y hm with h3 | h3
  · exact h.yn h3
  · have := h.b.lt; omega
theorem JH.second (H : StOk D) (h : JH D w wx p q L M O P y A) (t : SL RS wx w2 q P L) (hk : JOk L) : ∃ P', JX D w w2 p q L O P' y A ∧ Turn P wx w2 := by
  obtain ⟨P', h2, t2, o2⟩ := h.two.second H t hk
  refine ⟨P', ⟨h2, h.b.turn t2 h.yq, h.yn, fun hm => ?_⟩, t2⟩
  rcases o2 y hm with h3 | h3
  · exact h.yq h3
  · have := h.b.lt; omega
theorem JX.cells (h : JX D w wx p q L O P y A) : ∃ g c, (wx.cell? ⟨y, 0, none⟩ = some (.int .i64 A.lo) ∧ wx.cell? ⟨q, 0, none⟩ = some (.slice (some ⟨g, 0, none⟩) L.length c)) ∧ P = [q, g] := by
  obtain ⟨g, c, h1, h2⟩ := rs_cell h.two.two.d
  exact ⟨g, c, ⟨h.b.at.1, h1⟩, h2⟩
theorem JX.cells2 {g c : Nat} (h : JX D w wx p q L O P y A) (hc : wx.cell? ⟨q, 0, none⟩ = some (.slice (some ⟨g, 0, none⟩) L.length c)) (k : wx.grownBy w2 none) : (w2.cell? ⟨y, 0, none⟩ = some (.int .i64 A.lo) ∧ w2.cell? ⟨q, 0, none⟩ = some (.slice (some ⟨g, 0, none⟩) L.length c)) := ⟨(h.b.grow k).at.1, k.cell hc (by simp)⟩
end
end Go.Proofs.Ytohealhkgmagmaa
