/- SwapKeeps: its walk. -/
import Derived.Test.YtnfofhnjeinmfaaVKeeps
namespace Go.Proofs.Ytnfofhnjeinmfaa
open Go.ChangeShapes Go.WideShapes Go.ChangeAt Go.RowKit Go.Deep
open Extern.Stop (cell)
set_option linter.unusedVariables false

theorem eql_dev (w : World) (a : Addr) : (binOp .eql 25 (.pointer (some a)) (.pointer none)).run Try.prog w = .ok (.bool false) w := by
  have h1 : ∀ d : Nat, (Op.equalIn (d + 1) 25 (.pointer (some a)) (.pointer none)).run Try.prog w = .ok false w := fun d => by
    simp [Op.equalIn, run_underlying Try.underlying25]
  simp only [binOp]
  simp [Op.equal, Op.maxDepth, h1 9999]
theorem neq_dev (w : World) (a : Addr) : (binOp .neq 25 (.pointer (some a)) (.pointer none)).run Try.prog w = .ok (.bool true) w := by
  have h1 : ∀ d : Nat, (Op.equalIn (d + 1) 25 (.pointer (some a)) (.pointer none)).run Try.prog w = .ok false w := fun d => by
    simp [Op.equalIn, run_underlying Try.underlying25]
  simp only [binOp]
  simp [Op.equal, Op.maxDepth, h1 9999]

theorem write_zero {s : VS} {i : Int} {bs : List UInt8} (h : (writeV s i bs).1 = 0) : s.has i ∧ bs.length = 4096 ∧ (writeV s i bs).2.L = s.L.set i.toNat bs := by
  unfold writeV at h ⊢
  by_cases hs : s.has i ∧ bs.length = 4096
  · rw [if_pos hs] at h ⊢
    by_cases h1 : s.pw = 1
    · rw [if_pos h1] at h; simp at h
    · rw [if_neg h1]; exact ⟨hs.1, hs.2, rfl⟩
  · rw [if_neg hs] at h; simp at h
theorem write_not {s : VS} {i : Int} {bs : List UInt8} (h : ¬ (writeV s i bs).1 = 0) : (writeV s i bs).2.L = s.L := by
  unfold writeV at h ⊢
  by_cases hs : s.has i ∧ bs.length = 4096
  · rw [if_pos hs] at h ⊢
    by_cases h1 : s.pw = 1
    · rw [if_pos h1]
    · rw [if_neg h1] at h; simp at h
  · rw [if_neg hs]
theorem read_zero {s : VS} {i : Nat} (hs : i < s.L.length) (hp : s.pr = 0) : readV s i = (0, s.L.getD i [], ⟨s.L, 0, s.pw, s.cr + 1, s.cw⟩) := by
  unfold readV
  rw [if_pos ⟨by omega, by omega⟩, if_neg (by omega), Int.toNat_natCast, show decV s.pr = 0 by unfold decV; rw [if_pos hp]]
theorem plan_zero (s : VS) : planV s false 0 = (0, ⟨s.L, 0, s.pw, s.cr, s.cw⟩) := rfl
theorem set_rep (n i : Nat) (p : List UInt8) : (List.replicate n p).set i p = List.replicate n p := by
  apply List.ext_getElem?
  intro j
  rw [List.getElem?_set]
  split
  · rename_i e
    subst e
    simp only [List.length_replicate, List.getElem?_replicate]
  · rfl

/-- .. and a round's box. -/
structure KB (D : World → Nat → VS → List Nat → Prop) (w wx : World) (p : Nat) (s : VS) (O : List Nat) (k : Int) (h : Nat) (vs : List Value) (M : List (List UInt8)) (y : Nat) (A : VActV) : Prop where
  s : KS D w wx p s O k h vs M 4
  b : VActB wx y A
  yn : y ∉ O
  yh : y ≠ h
section
variable {D : World → Nat → VS → List Nat → Prop} {w wx w2 : World} {p h y : Nat} {s s' : VS} {O : List Nat} {k k' : Int} {vs : List Value} {M : List (List UInt8)} {A : VActV}
theorem KB.new (H : SwOk D) (q : KS D w wx p s O k h vs M 4) (A : VActV) : KB D w (wx.alloc (.cells #[.int .i64 A.k, .int .i64 A.n, .slice A.s A.l A.c, .bool A.raw] 31 (0, 0))) p s O k h vs M wx.heap.size A :=
  ⟨q.grow H (World.grownBy_alloc wx _ none), VActB.new wx A, fun hm => by have := H.lt q.v.d _ hm; omega, fun e => by have := q.hlt; omega⟩
theorem KB.grow (H : SwOk D) (q : KB D w wx p s O k h vs M y A) (g : wx.grownBy w2 none) : KB D w w2 p s O k h vs M y A := ⟨q.s.grow H g, q.b.grow g, q.yn, q.yh⟩
theorem KB.left (q : KB D w wx p s O k h vs M y A) (t : VLeft D wx w2 p O s') (hk : s'.Ok k') : ∃ O', KB D w w2 p s' O' k' h vs M y A := by
  obtain ⟨O', h1, t1, o1⟩ := q.s.left t hk
  refine ⟨O', h1, q.b.turn t1 q.yn, fun hm => ?_, q.yh⟩
  rcases o1 y hm with h2 | h2
  · exact q.yn h2
  · have := q.b.lt; omega
/-- What an act's bytes are is not the device's. -/
theorem KS.apart (H : SwOk D) {n : Nat} (q : KS D w wx p s O k h vs M n) {a : Option Addr} {A : VActV} (hA : A.Ok w) (ha : (a = A.s ∧ A.raw = true) ∨ ∃ g, a = some ⟨g, 0, none⟩ ∧ wx.heap.size ≤ g) (hl : A.raw = true → 0 < A.l) : ∀ ad, a = some ad → ad.block ∉ O ∧ ad.block ≠ h := by
  intro ad e
  rcases ha with ⟨e2, hr⟩ | ⟨g, e2, hg⟩
  · have hl := hl hr
    rcases hA.src.2 with h0 | ⟨b, o, e3, hr⟩
    · omega
    · obtain ⟨x, hx⟩ : ∃ x, (A.bs.map cell)[0]? = some x := by
        have hl := hA.src.1
        cases hbs : A.bs with
        | nil => rw [hbs] at hl; simp at hl; omega
        | cons x r => exact ⟨_, rfl⟩
      have hb := World.block_lt_of_cell? w _ (hr 0 x hx)
      rw [e2, e3] at e
      cases e
      exact ⟨fun hm => by have : w.heap.size ≤ b := q.v.own _ hm; have hb : b < w.heap.size := hb; omega, fun e => by have := q.hw; have e : b = h := e; have hb : b < w.heap.size := hb; omega⟩
  · rw [e2] at e
    cases e
    exact ⟨fun hm => by have : g < wx.heap.size := H.lt q.v.d _ hm; omega, fun e => by have := q.hlt; have e : g = h := e; omega⟩
/-- A block that is nobody's is written. -/
theorem KS.aside (H : SwOk D) {n : Nat} (q : KS D w wx p s O k h vs M n) {x o : Nat} {v : Value} (h1 : x ∉ O) (h2 : x ≠ h) (h3 : w.heap.size ≤ x) (h4 : ∀ (i : Nat) u, i < n → vs[i]? = some u → ∀ a c, u = .slice (some a) 4096 c → a.block ≠ x) : KS D w (wx.setCell ⟨x, o, none⟩ v) p s O k h vs M n := by
  have ho : ∀ b, b ≠ x → (wx.setCell ⟨x, o, none⟩ v).heap[b]? = wx.heap[b]? := fun b hb => heap_setCell_other wx ⟨x, o, none⟩ b v (by first | exact hb | exact hb.symm)
  refine ⟨⟨H.kept q.v.d (by simp) fun b hb => ho b fun e => h1 (e ▸ hb), q.v.own, grown_at q.v.grown (grown_set wx x o v) h3, q.v.ok⟩, (ho h h2.symm).trans q.hh, q.hn, q.hw, q.vl, q.ml, fun i u pg hi hu hp => ?_⟩
  obtain ⟨q1, q2⟩ := q.good i u pg hi hu hp
  exact ⟨q1.other (grown_set wx x o v) fun a c e => h4 i u hi hu a c e, q2⟩
end
end Go.Proofs.Ytnfofhnjeinmfaa
