/- Layer 9's walks as their rows want them: what the arguments read as; nothing older has turned. -/
import Derived.Test.YtnfofhnjeinmfaaVActsW
import Derived.Test.YtnfofhnjeinmfaaVApart
import Derived.Test.YtnfofhnjeinmfaaVNoneW
namespace Go.Proofs.Ytnfofhnjeinmfaa
open Go.ChangeShapes Go.WideShapes Go.ChangeAt Go.RowKit
set_option linter.unusedVariables false

theorem okI_wf {x : Int} (h : (Lit.int .i64 x).wf = true) : okI x := wf_ok64 h
theorem okU_wf {x : Int} (h : (Lit.int .u64 x).wf = true) : okU x := by
  simp [Lit.wf, IntKind.min, IntKind.max, IntKind.signed, IntKind.bits] at h
  exact ⟨by omega, by omega⟩
theorem below_of {w w' : World} (g : w.grownBy w' none) : Below w.heap.size w w' := ⟨g.os, g.tape, g.output, g.size, fun k hk => g.block k hk (by simp)⟩
theorem said {f : FuncId} {args : Array Value} {w : World} (h : Calls Try.prog f args w fun e w' => e = .returned (.bool true) ∧ w.grownBy w' none) : Calls Try.prog f args w fun e w' => e = .returned (.bool true) ∧ Below w.heap.size w w' := h.mono fun _ _ k => ⟨k.1, below_of k.2⟩
theorem list_2 {α : Type} {l : List α} (h : l.length = 2) : ∃ a b, l = [a, b] := by
  match l, h with
  | [a, b], _ => exact ⟨a, b, rfl⟩

set_option maxRecDepth 100000 in
theorem two_ofU {H : Type} {enc : TypeId × Value → H} {w w1 : World} {base b0 : Nat} {spare : Nat → Bool} {held : Bool} {r : Reach} {v : Value} {d : DataW H} {p : List MemPlace}
    (h : DataW.Trod enc Try.prog w base spare held 63 v d p) (hv : Value.okWide Try.prog w1 r b0 63 v) : ∃ x y : Int, v = .agg #[.int .u64 x, .int .u64 y] ∧ okU x ∧ okU y := by
  simp only [Value.okWide, Try.underlying63] at hv
  obtain ⟨cs, rfl, hsz, _⟩ := hv
  have hC : Try.prog.cellsOf 54 = 1 := by kernel_rfl
  have hC2 : Try.prog.cellsOf 63 = 2 := by kernel_rfl
  obtain ⟨fuel, hf⟩ := h
  obtain ⟨xs, m, _, _, hlen, hxs, hel⟩ := DataW.trod_array Try.underlying63 hf
  rw [hC2] at hsz
  simp only [Value.cells] at hel
  have h0 := hel 0 (by omega)
  have h1 := hel 1 (by omega)
  rw [hC] at h0 h1
  have e0 : xs[0]? = some (xs[0]'(by omega)) := List.getElem?_eq_getElem (by omega)
  have e1 : xs[1]? = some (xs[1]'(by omega)) := List.getElem?_eq_getElem (by omega)
  rw [e0] at h0
  rw [e1] at h1
  obtain ⟨l⟩ := cs
  obtain ⟨c0, c1, rfl⟩ := list_2 (l := l) (by simpa using hsz)
  obtain ⟨a, ha, oa⟩ := int_of_trod (v := c0) Try.underlying54 (by simpa using h0)
  obtain ⟨b, hb, ob⟩ := int_of_trod (v := c1) Try.underlying54 (by simpa using h1)
  exact ⟨a, b, by rw [ha, hb], okU_wf oa, okU_wf ob⟩

set_option maxRecDepth 100000 in
theorem vact_of {H : Type} {enc : TypeId × Value → H} {w w1 : World} {base b0 : Nat} {spare : Nat → Bool} {held : Bool} {r : Reach} {v : Value} {d : DataW H} {p : List MemPlace}
    (h : DataW.Trod enc Try.prog w base spare held 31 v d p) (hv : Value.okWide Try.prog w1 r b0 31 v) :
    ∃ A : VActV, v = .agg #[.int .i64 A.k, .int .i64 A.n, .slice A.s A.l A.c, .bool A.raw] ∧ A.Ok w := by
  obtain ⟨cs, rfl, _⟩ := okWide_struct Try.underlying31 hv
  obtain ⟨fuel, hf⟩ := h
  obtain ⟨hl, hck⟩ := ck_of_trod 4 31 [.int .i64, .int .i64, .slice 29, .bool] _ fuel _ (by kernel_rfl) hf
  obtain ⟨l⟩ := cs
  simp only [Value.cells] at hl hck
  match l, hl with
  | [a, b, e, f], _ =>
    obtain ⟨k, rfl, hk0⟩ := hck 0 _ _ rfl rfl
    obtain ⟨n, rfl, hn0⟩ := hck 1 _ _ rfl rfl
    obtain ⟨fu, y, hy⟩ := hck 2 _ _ rfl rfl
    obtain ⟨raw, rfl⟩ := hck 3 _ _ rfl rfl
    obtain ⟨s1, l1, c1, rfl⟩ := slice_of_trod Try.underlying29 hy
    obtain ⟨bs, hsrc, -⟩ := src_of_trod Try.underlying29 Try.underlying5 (by kernel_rfl) hy
    exact ⟨⟨k, n, s1, l1, c1, bs, raw⟩, rfl, wf_ok64 hk0, wf_ok64 hn0, hsrc⟩

section
variable {D : World → Nat → VS → List Nat → Prop} (H : SwOk D) (W : World)
include H
theorem acts_say9 (n0 : Int) (s : Option Addr) (l c : Nat) (As : List VActV) (hA : VActsAre W s l As) (hn : okI n0) : Calls Try.prog 3 #[.int .i64 n0, .slice s l c] W fun e w' => e = .returned (.bool true) ∧ Below W.heap.size W w' := said (acts_walk9 H W n0 s l c As hA hn)
theorem keeps_say9 (s : Option Addr) (l c : Nat) (As : List VActV) (hA : VActsAre W s l As) : Calls Try.prog 4 #[.slice s l c] W fun e w' => e = .returned (.bool true) ∧ Below W.heap.size W w' := said (keeps_walk9 H W s l c As hA)
theorem plans_say9 (a b c : Int) (ha : okU a) (hb : okU b) (hc : okU c) : Calls Try.prog 5 #[.int .u64 a, .int .u64 b, .int .u64 c] W fun e w' => e = .returned (.bool true) ∧ Below W.heap.size W w' := said (plans_walk9 H W a b c ha hb hc)
theorem apart_say9 (sa : Option Addr) (la ca : Nat) (A : List UInt8) (hA : Src W sa la A) (sb : Option Addr) (lb cb : Nat) (B : List UInt8) (hB : Src W sb lb B) (x y : Int) (hx : okU x) (hy : okU y) : Calls Try.prog 7 #[.slice sa la ca, .slice sb lb cb, .agg #[.int .u64 x, .int .u64 y]] W fun e w' => e = .returned (.bool true) ∧ Below W.heap.size W w' := said (apart_walk9 H W sa la ca A hA sb lb cb B hB x y hx hy)
theorem none_say9 {N : World → Value → Prop} (M : NoneOk9 N) (hz : ∀ w : World, N (w.alloc devZero) (.pointer (some ⟨w.heap.size, 0, none⟩))) (A : VActV) (hA : A.Ok W) : Calls Try.prog 6 #[.agg #[.int .i64 A.k, .int .i64 A.n, .slice A.s A.l A.c, .bool A.raw]] W fun e w' => e = .returned (.bool true) ∧ Below W.heap.size W w' := said (none_walk9 H M hz W A hA)
end
end Go.Proofs.Ytnfofhnjeinmfaa
