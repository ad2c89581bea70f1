/- SwapKeeps, walked out of what package swap says. -/
import Derived.Test.YtnfofhnjeinmfaaVPlans
namespace Go.Proofs.Ytnfofhnjeinmfaa
open Go.ChangeShapes Go.WideShapes Go.ChangeAt Go.RowKit Go.Deep
open Extern.Stop (cell)
set_option linter.unusedVariables false

/-- A page that the law keeps: in memory that is not the device's. -/
def GoodP (w : World) (O : List Nat) (v : Value) (p : List UInt8) : Prop := ∃ a c, v = .slice a 4096 c ∧ Src w a 4096 p ∧ ∀ ad, a = some ad → ad.block ∉ O
theorem src_lt {w : World} {a : Option Addr} {p : List UInt8} (h : Src w a 4096 p) : ∃ b o, a = some ⟨b, o, none⟩ ∧ b < w.heap.size := by
  rcases h.2 with h0 | ⟨b, o, e, hr⟩
  · omega
  · refine ⟨b, o, e, ?_⟩
    obtain ⟨x, hx⟩ : ∃ x, (p.map cell)[0]? = some x := by
      have hl := h.1
      cases p with
      | nil => simp at hl
      | cons x r => exact ⟨_, rfl⟩
    exact World.block_lt_of_cell? w _ (hr 0 x hx)
theorem GoodP.turn {w w' : World} {O O' : List Nat} {v : Value} {p : List UInt8} (h : GoodP w O v p) (t : Turn O w w') (ho : ∀ b, b ∈ O' → b ∈ O ∨ w.heap.size ≤ b) : GoodP w' O' v p := by
  obtain ⟨a, c, rfl, hs, hn⟩ := h
  obtain ⟨b, o, rfl, hb⟩ := src_lt hs
  refine ⟨_, c, rfl, ⟨hs.1, ?_⟩, fun ad e hm => ?_⟩
  · rcases hs.2 with h0 | ⟨b', o', e, hr⟩
    · omega
    · cases e
      exact .inr ⟨b, o, rfl, range_kept hr (t.block b hb (hn _ rfl))⟩
  · cases e
    rcases ho b hm with h1 | h1
    · exact hn _ rfl h1
    · omega
theorem GoodP.grow {w w' : World} {O : List Nat} {v : Value} {p : List UInt8} (h : GoodP w O v p) (g : w.grownBy w' none) : GoodP w' O v p := h.turn (Turn.grown g) fun b hb => .inl hb
theorem GoodP.other {w w' : World} {O : List Nat} {v : Value} {p : List UInt8} (h : GoodP w O v p) {x : Nat} (g : w.grownBy w' (some x)) (hx : ∀ a c, v = .slice (some a) 4096 c → a.block ≠ x) : GoodP w' O v p := by
  obtain ⟨a, c, rfl, hs, hn⟩ := h
  exact ⟨a, c, rfl, hs.kept g fun ad e e2 => hx ad c (by rw [e]) (Option.some.inj e2).symm, hn⟩

/-- The device and the law's array of pages; n of them are laid. -/
structure KS (D : World → Nat → VS → List Nat → Prop) (w wx : World) (p : Nat) (s : VS) (O : List Nat) (k : Int) (h : Nat) (vs : List Value) (M : List (List UInt8)) (n : Nat) : Prop where
  v : LV D w wx p s O k
  hh : wx.heap[h]? = some (.cells vs.toArray 52 (0, 0))
  hn : h ∉ O
  hw : w.heap.size ≤ h
  vl : vs.length = 4
  ml : M.length = 4
  good : ∀ (i : Nat) u pg, i < n → vs[i]? = some u → M[i]? = some pg → GoodP wx O u pg ∧ ∀ a c, u = .slice (some a) 4096 c → a.block ≠ h
section
variable {D : World → Nat → VS → List Nat → Prop} {w wx w2 : World} {p h n : Nat} {s s' : VS} {O : List Nat} {k k' : Int} {vs : List Value} {M : List (List UInt8)}
theorem KS.hlt (q : KS D w wx p s O k h vs M n) : h < wx.heap.size := (Array.getElem?_eq_some_iff.1 q.hh).1
theorem KS.grow (H : SwOk D) (q : KS D w wx p s O k h vs M n) (g : wx.grownBy w2 none) : KS D w w2 p s O k h vs M n :=
  ⟨q.v.grow H g, (g.block h q.hlt (by simp)).trans q.hh, q.hn, q.hw, q.vl, q.ml, fun i u pg hi hu hp => ⟨(q.good i u pg hi hu hp).1.grow g, (q.good i u pg hi hu hp).2⟩⟩
/-- The device turns. -/
theorem KS.left (q : KS D w wx p s O k h vs M n) (t : VLeft D wx w2 p O s') (hk : s'.Ok k') : ∃ O', KS D w w2 p s' O' k' h vs M n ∧ Turn O wx w2 ∧ ∀ b, b ∈ O' → b ∈ O ∨ wx.heap.size ≤ b := by
  obtain ⟨O', h1, t1, o1⟩ := q.v.left t hk
  refine ⟨O', ⟨h1, (t1.block h q.hlt q.hn).trans q.hh, fun hm => ?_, q.hw, q.vl, q.ml, fun i u pg hi hu hp => ?_⟩, t1, o1⟩
  · rcases o1 h hm with h2 | h2
    · exact q.hn h2
    · have := q.hlt; omega
  · exact ⟨(q.good i u pg hi hu hp).1.turn t1 o1, (q.good i u pg hi hu hp).2⟩
theorem KS.ccell (q : KS D w wx p s O k h vs M n) {i : Nat} {u : Value} (hu : vs[i]? = some u) : wx.cell? ⟨h, i, none⟩ = some u ∧ wx.frozen? ⟨h, i, none⟩ = false := by
  refine ⟨?_, frozen_of_row _ _ _ _ _ q.hh⟩
  rw [cell_of_row _ _ _ _ _ _ q.hh]
  simpa using hu
/-- A page is laid. -/
theorem KS.lay (H : SwOk D) (q : KS D w wx p s O k h vs M n) {i : Nat} {u : Value} {pg : List UInt8} (hi : i < 4) (hu : GoodP wx O u pg) (hne : ∀ a c, u = .slice (some a) 4096 c → a.block ≠ h) {n' : Nat} (hn : n' ≤ n + 1) (hn2 : n' ≤ n ∨ i = n) : KS D w (wx.setCell ⟨h, i, none⟩ u) p s O k h (vs.set i u) (M.set i pg) n' := by
  have g := grown_set wx h i u
  have ho : ∀ b, b ≠ h → (wx.setCell ⟨h, i, none⟩ u).heap[b]? = wx.heap[b]? := fun b hb => heap_setCell_other wx ⟨h, i, none⟩ b u (by first | exact hb | exact hb.symm)
  refine ⟨⟨H.kept q.v.d (by simp) fun b hb => ho b fun e => q.hn (e ▸ hb), q.v.own, grown_at q.v.grown g q.hw, q.v.ok⟩, ?_, q.hn, q.hw, by rw [List.length_set]; exact q.vl, by rw [List.length_set]; exact q.ml, fun j u2 pg2 hj hu2 hp2 => ?_⟩
  · have := heap_setCell_same wx h i _ _ u q.hh
    rw [this]
    simp
  · by_cases e : i = j
    · subst e
      rw [List.getElem?_set_self (by rw [q.vl]; exact hi)] at hu2
      cases hu2
      rw [List.getElem?_set_self (by rw [q.ml]; exact hi)] at hp2
      cases hp2
      exact ⟨hu.other g fun a c e => hne a c e, hne⟩
    · rw [List.getElem?_set_ne e] at hu2 hp2
      obtain ⟨q1, q2⟩ := q.good j u2 pg2 (by omega) hu2 hp2
      exact ⟨q1.other g fun a c e => q2 a c e, q2⟩
end
end Go.Proofs.Ytnfofhnjeinmfaa
