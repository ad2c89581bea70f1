/- SwapActs: the device and the document's, side by side. -/
import Derived.Test.YtnfofhnjeinmfaaVKeepsX
import Derived.Deep.CutBlock
import Derived.Deep.DeepCutAuto
namespace Go.Proofs.Ytnfofhnjeinmfaa
open Go.ChangeShapes Go.WideShapes Go.ChangeAt Go.RowKit Go.Deep
open Extern.Stop (cell)
set_option linter.unusedVariables false

theorem eql_rd (w : World) (a : Addr) : (binOp .eql 27 (.pointer (some a)) (.pointer none)).run Try.prog w = .ok (.bool false) w := by
  have h1 : ∀ d : Nat, (Op.equalIn (d + 1) 27 (.pointer (some a)) (.pointer none)).run Try.prog w = .ok false w := fun d => by
    simp [Op.equalIn, run_underlying Try.underlying27]
  simp only [binOp]
  simp [Op.equal, Op.maxDepth, h1 9999]
theorem eql_rd_none (w : World) : (binOp .eql 27 (.pointer none) (.pointer none)).run Try.prog w = .ok (.bool true) w := by kernel_rfl
theorem eql_dev_none (w : World) : (binOp .eql 25 (.pointer none) (.pointer none)).run Try.prog w = .ok (.bool true) w := by kernel_rfl

/-- Both, and a round's box. -/
structure DS (D : World → Nat → VS → List Nat → Prop) (w wx : World) (p : Nat) (s : VS) (O : List Nat) (k : Int) (q : Nat) (t : VS) (v : Value) (PP : List (Nat × Nat)) : Prop where
  lv : LV D w wx p s O k
  r : RV wx q t v PP
  own : ∀ b, b ∈ blocksV q v PP → w.heap.size ≤ b
  ap : ∀ b, b ∈ blocksV q v PP → b ∉ O
structure DX (D : World → Nat → VS → List Nat → Prop) (w wx : World) (p : Nat) (s : VS) (O : List Nat) (k : Int) (q : Nat) (t : VS) (v : Value) (PP : List (Nat × Nat)) (y : Nat) (A : VActV) : Prop where
  d : DS D w wx p s O k q t v PP
  b : VActB wx y A
  yn : y ∉ O
  yq : y ∉ blocksV q v PP
section
variable {D : World → Nat → VS → List Nat → Prop} {w wx w2 w3 : World} {p q y : Nat} {s s' t t' : VS} {O : List Nat} {k k' : Int} {v : Value} {PP : List (Nat × Nat)} {A : VActV}
theorem DS.grow (H : SwOk D) (h : DS D w wx p s O k q t v PP) (g : wx.grownBy w2 none) : DS D w w2 p s O k q t v PP := ⟨h.lv.grow H g, h.r.grow g, h.own, h.ap⟩
theorem DX.grow (H : SwOk D) (h : DX D w wx p s O k q t v PP y A) (g : wx.grownBy w2 none) : DX D w w2 p s O k q t v PP y A := ⟨h.d.grow H g, h.b.grow g, h.yn, h.yq⟩
theorem DX.new (H : SwOk D) (h : DS D w wx p s O k q t v PP) (A : VActV) : DX D w (wx.alloc (.cells #[.int .i64 A.k, .int .i64 A.n, .slice A.s A.l A.c, .bool A.raw] 31 (0, 0))) p s O k q t v PP wx.heap.size A :=
  ⟨h.grow H (World.grownBy_alloc wx _ none), VActB.new wx A, fun hm => by have := H.lt h.lv.d _ hm; omega, fun hm => by have := h.r.lt _ hm; omega⟩
theorem DX.to (h : DX D w wx p s O k q t v PP y A) {O' : List Nat} (h1 : D w2 p s' O') (t1 : Turn O wx w2) (o1 : ∀ b, b ∈ O' → b ∈ O ∨ wx.heap.size ≤ b) (hk : s'.Ok k') : DX D w w2 p s' O' k' q t v PP y A := by
  refine ⟨⟨⟨h1, fun b hb => ?_, ((Turn.grown h.d.lv.grown).trans' t1).noGrown h.d.lv.own, hk⟩, h.d.r.kept fun b hb => t1.block b (h.d.r.lt b hb) (h.d.ap b hb), h.d.own, fun b hb hm => ?_⟩, h.b.turn t1 h.yn, fun hm => ?_, h.yq⟩
  · rcases o1 b hb with h3 | h3
    · exact h.d.lv.own b h3
    · have := h.d.lv.grown.size; omega
  · rcases o1 b hm with h3 | h3
    · exact h.d.ap b hb h3
    · have := h.d.r.lt b hb; omega
  · rcases o1 y hm with h3 | h3
    · exact h.yn h3
    · have := h.b.lt; omega
theorem DX.left (h : DX D w wx p s O k q t v PP y A) (u : VLeft D wx w2 p O s') (hk : s'.Ok k') : ∃ O', DX D w w2 p s' O' k' q t v PP y A := by
  obtain ⟨O', h1, t1, o1⟩ := u
  exact ⟨O', h.to h1 t1 o1 hk⟩
theorem DX.right (H : SwOk D) (h : DX D w wx p s O k q t v PP y A) {v' : Value} {PP' : List (Nat × Nat)} (h1 : RV w2 q t' v' PP') (t1 : Turn [q] wx w2) (o1 : ∀ b, b ∈ blocksV q v' PP' → b ∈ blocksV q v PP ∨ wx.heap.size ≤ b) : DX D w w2 p s O k q t' v' PP' y A := by
  have hqb : q ∈ blocksV q v PP := by simp [blocksV]
  have hq : w.heap.size ≤ q := h.d.own q hqb
  refine ⟨⟨⟨H.turn h.d.lv.d t1 fun b hb hm => h.d.ap q hqb (List.mem_singleton.1 hm ▸ hb), h.d.lv.own, ((Turn.grown h.d.lv.grown).trans' t1).noGrown fun b hb => by rw [List.mem_singleton.1 hb]; exact hq, h.d.lv.ok⟩, h1, fun b hb => ?_, fun b hb hm => ?_⟩, h.b.turn t1 fun hm => h.yq (List.mem_singleton.1 hm ▸ hqb), h.yn, fun hm => ?_⟩
  · rcases o1 b hb with h3 | h3
    · exact h.d.own b h3
    · have := h.d.lv.grown.size; omega
  · rcases o1 b hb with h3 | h3
    · exact h.d.ap b h3 hm
    · have := H.lt h.d.lv.d b hm; omega
  · rcases o1 y hm with h3 | h3
    · exact h.yq h3
    · have := h.b.lt; omega
theorem DX.cells (h : DX D w wx p s O k q t v PP y A) {a : Option Addr} {c : Nat} (hv : v = .slice a t.L.length c) : wx.cell? ⟨y, 1, none⟩ = some (.int .i64 A.n) ∧ wx.cell? ⟨q, 0, none⟩ = some (.slice a t.L.length c) ∧ wx.cell? ⟨q, 3, none⟩ = some (.int .i64 t.cr) ∧ wx.cell? ⟨q, 4, none⟩ = some (.int .i64 t.cw) := by
  obtain ⟨c0, c1, c2, c3, c4⟩ := h.d.r.at
  exact ⟨h.b.at.2.1, by rw [c0, hv], c3, c4⟩
/-- What an act's bytes are is neither's. -/
theorem DX.apart (H : SwOk D) (h : DX D w wx p s O k q t v PP y A) {a : Option Addr} {B : VActV} (hB : B.Ok w) (ha : (a = B.s ∧ B.raw = true) ∨ ∃ g, a = some ⟨g, 0, none⟩ ∧ wx.heap.size ≤ g) (hl : B.raw = true → 0 < B.l) : ∀ ad, a = some ad → ad.block ∉ O ∧ ad.block ≠ q := by
  intro ad e
  have hqb : q ∈ blocksV q v PP := by simp [blocksV]
  rcases ha with ⟨e2, hr⟩ | ⟨g, e2, hg⟩
  · have hl := hl hr
    rcases hB.src.2 with h0 | ⟨b, o, e3, hr⟩
    · omega
    · obtain ⟨x, hx⟩ : ∃ x, (B.bs.map cell)[0]? = some x := by
        have hl := hB.src.1
        cases hbs : B.bs with
        | nil => rw [hbs] at hl; simp at hl; omega
        | cons x r => exact ⟨_, rfl⟩
      have hb := World.block_lt_of_cell? w _ (hr 0 x hx)
      rw [e2, e3] at e
      cases e
      exact ⟨fun hm => by have : w.heap.size ≤ b := h.d.lv.own _ hm; have hb : b < w.heap.size := hb; omega, fun e => by have := h.d.own q hqb; have e : b = q := e; have hb : b < w.heap.size := hb; omega⟩
  · rw [e2] at e
    cases e
    exact ⟨fun hm => by have : g < wx.heap.size := H.lt h.d.lv.d _ hm; omega, fun e => by have := h.d.r.qlt; have e : g = q := e; omega⟩
theorem Fresh.turn {w w' w2 : World} {O P : List Nat} {u : Value} {bs : List UInt8} (h : Fresh w w' O u bs) (t : Turn P w' w2) (hP : ∀ b, b ∈ P → b < w.heap.size) : ∃ s c, u = .slice s bs.length c ∧ Src w2 s bs.length bs := by
  obtain ⟨s, c, rfl, h0 | ⟨g, rfl, h1, h2, h3⟩⟩ := h
  · exact ⟨s, c, rfl, rfl, .inl h0⟩
  · exact ⟨_, c, rfl, (h3.kept (t.block g h3.lt fun hm => by have := hP g hm; omega)).src⟩
theorem raw_pos {A : VActV} (h : A.Ok w) (hl : 0 < (bytesV A).length) (hr : A.raw = true) : 0 < A.l := by
  unfold bytesV at hl
  rw [if_pos hr, h.len] at hl
  exact hl
end
end Go.Proofs.Ytnfofhnjeinmfaa
