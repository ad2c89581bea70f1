/- FileActs: the files and the document's, side by side. -/
import Derived.Test.YtlaniifbfgcfaaaICuts
import Derived.Deep.CutBlock
import Derived.Deep.DeepCutAuto
namespace Go.Proofs.Ytlaniifbfgcfaaa
open Go.ChangeShapes Go.WideShapes Go.ChangeAt Go.RowKit Go.Deep
open Extern.Stop (cell)
set_option linter.unusedVariables false

/-- Both, and a round's box. -/
structure DS (D : World → Nat → IS → List Nat → Nat → Prop) (w wx : World) (p : Nat) (s : IS) (O : List Nat) (k n : Nat) (q : Nat) (t : IS) (vz vl : Value) (L : List PE) : Prop where
  lv : LI D w wx p s O k
  kn : k ≤ n
  len : L.length ≤ n
  r : RI wx q t vz vl L
  own : ∀ b, b ∈ blocksI q vz vl L → w.heap.size ≤ b
  ap : ∀ b, b ∈ blocksI q vz vl L → b ∉ O
structure DX (D : World → Nat → IS → List Nat → Nat → Prop) (w wx : World) (p : Nat) (s : IS) (O : List Nat) (k n : Nat) (q : Nat) (t : IS) (vz vl : Value) (L : List PE) (y : Nat) (A : IActV) : Prop where
  d : DS D w wx p s O k n q t vz vl L
  b : IActB wx y A
  yn : y ∉ O
  yq : y ∉ blocksI q vz vl L
section
variable {D : World → Nat → IS → List Nat → Nat → Prop} {w wx w2 w3 : World} {p q y : Nat} {s s' t t' : IS} {O : List Nat} {k k' n n' : Nat} {vz vl : Value} {L : List PE} {A : IActV}
theorem DS.grow (H : FlOk D) (h : DS D w wx p s O k n q t vz vl L) (g : wx.grownBy w2 none) : DS D w w2 p s O k n q t vz vl L := ⟨h.lv.grow H g, h.kn, h.len, h.r.grow g, h.own, h.ap⟩
theorem DX.grow (H : FlOk D) (h : DX D w wx p s O k n q t vz vl L y A) (g : wx.grownBy w2 none) : DX D w w2 p s O k n q t vz vl L y A := ⟨h.d.grow H g, h.b.grow g, h.yn, h.yq⟩
theorem DX.new (H : FlOk D) (h : DS D w wx p s O k n q t vz vl L) (A : IActV) : DX D w (wx.alloc (.cells #[.int .i64 A.k, .int .i64 A.i, .int .i64 A.n, .slice A.s A.l A.c, .bool A.raw] 34 (0, 0))) p s O k n q t vz vl L wx.heap.size A :=
  ⟨h.grow H (World.grownBy_alloc wx _ none), IActB.new wx A, fun hm => by have := H.lt h.lv.d _ hm; omega, fun hm => by have := h.r.lt _ hm; omega⟩
theorem DX.to (h : DX D w wx p s O k n q t vz vl L y A) {O' : List Nat} (h1 : D w2 p s' O' k') (t1 : Turn O wx w2) (o1 : ∀ b, b ∈ O' → b ∈ O ∨ wx.heap.size ≤ b) (hk : s'.Ok) (hkn : k' ≤ n) : DX D w w2 p s' O' k' n q t vz vl L y A := by
  refine ⟨⟨⟨h1, fun b hb => ?_, ((Turn.grown h.d.lv.grown).trans' t1).noGrown h.d.lv.own, hk⟩, hkn, h.d.len, h.d.r.turn t1 h.d.ap, h.d.own, fun b hb hm => ?_⟩, h.b.turn t1 h.yn, fun hm => ?_, h.yq⟩
  · rcases o1 b hb with h3 | h3
    · exact h.d.lv.own b h3
    · have := h.d.lv.grown.size; omega
  · rcases o1 b hm with h3 | h3
    · exact h.d.ap b hb h3
    · have := h.d.r.lt b hb; omega
  · rcases o1 y hm with h3 | h3
    · exact h.yn h3
    · have := h.b.lt; omega
theorem DX.left (h : DX D w wx p s O k n q t vz vl L y A) (u : IL D wx w2 p O s' k') (hk : s'.Ok) (hkn : k' ≤ n) : ∃ O', DX D w w2 p s' O' k' n q t vz vl L y A := by
  obtain ⟨O', h1, t1, o1⟩ := u
  exact ⟨O', h.to h1 t1 o1 hk hkn⟩
theorem DX.right (H : FlOk D) (h : DX D w wx p s O k n q t vz vl L y A) {vz' vl' : Value} {L' : List PE} (h1 : RI w2 q t' vz' vl' L') (t1 : Turn [q] wx w2) (o1 : ∀ b, b ∈ blocksI q vz' vl' L' → b ∈ blocksI q vz vl L ∨ wx.heap.size ≤ b) (hl : L'.length ≤ n) : DX D w w2 p s O k n q t' vz' vl' L' y A := by
  have hqb : q ∈ blocksI q vz vl L := by simp [blocksI]
  have hq : w.heap.size ≤ q := h.d.own q hqb
  refine ⟨⟨⟨H.turn h.d.lv.d t1 fun b hb hm => h.d.ap q hqb (List.mem_singleton.1 hm ▸ hb), h.d.lv.own, ((Turn.grown h.d.lv.grown).trans' t1).noGrown fun b hb => by rw [List.mem_singleton.1 hb]; exact hq, h.d.lv.ok⟩, h.d.kn, hl, h1, fun b hb => ?_, fun b hb hm => ?_⟩, h.b.turn t1 fun hm => h.yq (List.mem_singleton.1 hm ▸ hqb), h.yn, fun hm => ?_⟩
  · rcases o1 b hb with h3 | h3
    · exact h.d.own b h3
    · have := h.d.lv.grown.size; omega
  · rcases o1 b hb with h3 | h3
    · exact h.d.ap b h3 hm
    · have := H.lt h.d.lv.d b hm; omega
  · rcases o1 y hm with h3 | h3
    · exact h.yq h3
    · have := h.b.lt; omega
theorem DX.cells (h : DX D w wx p s O k n q t vz vl L y A) {a : Option Addr} {c : Nat} (hv : vz = .slice a t.Z.length c) : wx.cell? ⟨y, 1, none⟩ = some (.int .i64 A.i) ∧ wx.cell? ⟨y, 2, none⟩ = some (.int .i64 A.n) ∧ wx.cell? ⟨q, 0, none⟩ = some (.slice a t.Z.length c) := by
  obtain ⟨c0, c1, c2⟩ := h.d.r.at
  exact ⟨h.b.at.2.1, h.b.at.2.2.1, by rw [c0, hv]⟩
theorem DX.up (h : DX D w wx p s O k n q t vz vl L y A) (hn : n ≤ n') : DX D w wx p s O k n' q t vz vl L y A := ⟨⟨h.d.lv, Nat.le_trans h.d.kn hn, Nat.le_trans h.d.len hn, h.d.r, h.d.own, h.d.ap⟩, h.b, h.yn, h.yq⟩
/-- What an act's bytes are is neither's. -/
theorem DX.apart (H : FlOk D) (h : DX D w wx p s O k n q t vz vl L y A) {a : Option Addr} {B : IActV} (hB : B.Ok w) (ha : (a = B.s ∧ B.raw = true) ∨ ∃ g, a = some ⟨g, 0, none⟩ ∧ wx.heap.size ≤ g) (hl : B.raw = true → 0 < B.l) : ∀ ad, a = some ad → ad.block ∉ O ∧ ad.block ≠ q := by
  intro ad e
  have hqb : q ∈ blocksI q vz vl L := by simp [blocksI]
  rcases ha with ⟨e2, hr⟩ | ⟨g, e2, hg⟩
  · have hl := hl hr
    rcases hB.src.2 with h0 | ⟨b, o, e3, hr⟩
    · omega
    · obtain ⟨x, hx⟩ : ∃ x, (B.bs.map cell)[0]? = some x := by
        have hl := hB.src.1
        cases hbs : B.bs with
        | nil => rw [hbs] at hl; simp at hl; omega
        | cons x r => exact ⟨_, rfl⟩
      have hb := World.block_lt_of_cell? w _ (hr 0 x hx)
      rw [e2, e3] at e
      cases e
      exact ⟨fun hm => by have : w.heap.size ≤ b := h.d.lv.own _ hm; have hb : b < w.heap.size := hb; omega, fun e => by have := h.d.own q hqb; have e : b = q := e; have hb : b < w.heap.size := hb; omega⟩
  · rw [e2] at e
    cases e
    exact ⟨fun hm => by have : g < wx.heap.size := H.lt h.d.lv.d _ hm; omega, fun e => by have := h.d.r.qlt; have e : g = q := e; omega⟩
theorem Fresh.turnP {w w' w2 : World} {O P : List Nat} {u : Value} {bs : List UInt8} (h : Fresh w w' O u bs) (t : Turn P w' w2) (hP : ∀ b, b ∈ P → b < w.heap.size) : ∃ s c, u = .slice s bs.length c ∧ Src w2 s bs.length bs := by
  obtain ⟨s, c, rfl, h0 | ⟨g, rfl, h1, h2, h3⟩⟩ := h
  · exact ⟨s, c, rfl, rfl, .inl h0⟩
  · exact ⟨_, c, rfl, (h3.kept (t.block g h3.lt fun hm => by have := hP g hm; omega)).src⟩
theorem rowOf_form {α : Type} {cells : α → List Value} {size : Nat} {w : World} {v : Value} {xs : List α} (h : RowOf cells size w v xs) : ∃ s c, v = .slice s xs.length c := RowAt.form h
theorem leftI_open {w w' : World} {q : Nat} {s' : IS} {B : List Nat} {k : Nat} (h : LeftI w w' q s' B k) : ∃ vz vl L, RI w' q s' vz vl L ∧ L.length ≤ k ∧ Turn [q] w w' ∧ ∀ b, b ∈ blocksI q vz vl L → b ∈ B ∨ w.heap.size ≤ b := h
theorem bytesV_len {A : IActV} {w : World} (h : A.Ok w) (hl : A.l ≤ 5000) : (bytesV A).length ≤ 5000 := by
  unfold bytesV
  split
  · rw [h.len]; exact hl
  · rw [fillOf_len]; decide
theorem raw_pos {A : IActV} (h : A.Ok w) (hl : 0 < (bytesV A).length) (hr : A.raw = true) : 0 < A.l := by
  unfold bytesV at hl
  rw [if_pos hr, h.len] at hl
  exact hl
end
end Go.Proofs.Ytlaniifbfgcfaaa
