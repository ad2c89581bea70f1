/- Layer 10's walks as their rows want them: what the arguments read as; nothing older has turned. -/
import Derived.Test.YtlaniifbfgcfaaaIActsW
import Derived.Test.YtlaniifbfgcfaaaINoneW
namespace Go.Proofs.Ytlaniifbfgcfaaa
open Go.ChangeShapes Go.WideShapes Go.ChangeAt Go.RowKit
set_option linter.unusedVariables false

theorem okI_wf {x : Int} (h : (Lit.int .i64 x).wf = true) : okI x := wf_ok64 h
theorem okU_wf {x : Int} (h : (Lit.int .u64 x).wf = true) : okU x := by
  simp [Lit.wf, IntKind.min, IntKind.max, IntKind.signed, IntKind.bits] at h
  exact ⟨by omega, by omega⟩
theorem below_of {w w' : World} (g : w.grownBy w' none) : Below w.heap.size w w' := ⟨g.os, g.tape, g.output, g.size, fun k hk => g.block k hk (by simp)⟩
theorem said {f : FuncId} {args : Array Value} {w : World} (h : Calls Try.prog f args w fun e w' => e = .returned (.bool true) ∧ w.grownBy w' none) : Calls Try.prog f args w fun e w' => e = .returned (.bool true) ∧ Below w.heap.size w w' := h.mono fun _ _ k => ⟨k.1, below_of k.2⟩
theorem list_2 {α : Type} {l : List α} (h : l.length = 2) : ∃ a b, l = [a, b] := by
  match l, h with
  | [a, b], _ => exact ⟨a, b, rfl⟩

set_option maxRecDepth 100000 in
theorem two_ofU {H : Type} {enc : TypeId × Value → H} {w w1 : World} {base b0 : Nat} {spare : Nat → Bool} {held : Bool} {r : Reach} {v : Value} {d : DataW H} {p : List MemPlace}
    (h : DataW.Trod enc Try.prog w base spare held 57 v d p) (hv : Value.okWide Try.prog w1 r b0 57 v) : ∃ x y : Int, v = .agg #[.int .u64 x, .int .u64 y] ∧ okU x ∧ okU y := by
  simp only [Value.okWide, Try.underlying57] at hv
  obtain ⟨cs, rfl, hsz, _⟩ := hv
  have hC : Try.prog.cellsOf 56 = 1 := by kernel_rfl
  have hC2 : Try.prog.cellsOf 57 = 2 := by kernel_rfl
  obtain ⟨fuel, hf⟩ := h
  obtain ⟨xs, m, _, _, hlen, hxs, hel⟩ := DataW.trod_array Try.underlying57 hf
  rw [hC2] at hsz
  simp only [Value.cells] at hel
  have h0 := hel 0 (by omega)
  have h1 := hel 1 (by omega)
  rw [hC] at h0 h1
  have e0 : xs[0]? = some (xs[0]'(by omega)) := List.getElem?_eq_getElem (by omega)
  have e1 : xs[1]? = some (xs[1]'(by omega)) := List.getElem?_eq_getElem (by omega)
  rw [e0] at h0
  rw [e1] at h1
  obtain ⟨l⟩ := cs
  obtain ⟨c0, c1, rfl⟩ := list_2 (l := l) (by simpa using hsz)
  obtain ⟨a, ha, oa⟩ := int_of_trod (v := c0) Try.underlying56 (by simpa using h0)
  obtain ⟨b, hb, ob⟩ := int_of_trod (v := c1) Try.underlying56 (by simpa using h1)
  exact ⟨a, b, by rw [ha, hb], okU_wf oa, okU_wf ob⟩

set_option maxRecDepth 100000 in
theorem iact_of {H : Type} {enc : TypeId × Value → H} {w w1 : World} {base b0 : Nat} {spare : Nat → Bool} {held : Bool} {r : Reach} {v : Value} {d : DataW H} {p : List MemPlace}
    (h : DataW.Trod enc Try.prog w base spare held 34 v d p) (hv : Value.okWide Try.prog w1 r b0 34 v) :
    ∃ A : IActV, v = .agg #[.int .i64 A.k, .int .i64 A.i, .int .i64 A.n, .slice A.s A.l A.c, .bool A.raw] ∧ A.Ok w := by
  obtain ⟨cs, rfl, _⟩ := okWide_struct Try.underlying34 hv
  obtain ⟨fuel, hf⟩ := h
  obtain ⟨hl, hck⟩ := ck_of_trod 4 34 [.int .i64, .int .i64, .int .i64, .slice 32, .bool] _ fuel _ (by kernel_rfl) hf
  obtain ⟨l⟩ := cs
  simp only [Value.cells] at hl hck
  match l, hl with
  | [a, b, b2, e, f], _ =>
    obtain ⟨k, rfl, hk0⟩ := hck 0 _ _ rfl rfl
    obtain ⟨i, rfl, hi0⟩ := hck 1 _ _ rfl rfl
    obtain ⟨n, rfl, hn0⟩ := hck 2 _ _ rfl rfl
    obtain ⟨fu, y, hy⟩ := hck 3 _ _ rfl rfl
    obtain ⟨raw, rfl⟩ := hck 4 _ _ rfl rfl
    obtain ⟨s1, l1, c1, rfl⟩ := slice_of_trod Try.underlying32 hy
    obtain ⟨bs, hsrc, -⟩ := src_of_trod Try.underlying32 Try.underlying5 (by kernel_rfl) hy
    exact ⟨⟨k, i, n, s1, l1, c1, bs, raw⟩, rfl, wf_ok64 hk0, wf_ok64 hi0, wf_ok64 hn0, hsrc⟩

section
variable {D : World → Nat → IS → List Nat → Nat → Prop} (H : FlOk D) (W : World)
include H
theorem acts_say10 (s : Option Addr) (l c : Nat) (As : List IActV) (hA : IActsAre W s l As) : Calls Try.prog 3 #[.slice s l c] W fun e w' => e = .returned (.bool true) ∧ Below W.heap.size W w' := said (acts_walk10 H W s l c As hA)
theorem cuts_say10 (n0 x y : Int) (sa : Option Addr) (la ca : Nat) (A : List UInt8) (hA : Src W sa la A) (hn : okU n0) (hx : okU x) (hy : okU y) : Calls Try.prog 4 #[.int .u64 n0, .agg #[.int .u64 x, .int .u64 y], .slice sa la ca] W fun e w' => e = .returned (.bool true) ∧ Below W.heap.size W w' := said (cuts_walk10 H W n0 hn x y hx hy sa la ca A hA)
theorem keeps_say10 (sa : Option Addr) (la ca : Nat) (A : List UInt8) (hA : Src W sa la A) (sb : Option Addr) (lb cb : Nat) (B : List UInt8) (hB : Src W sb lb B) (n0 : Int) (hn : okU n0) : Calls Try.prog 5 #[.slice sa la ca, .slice sb lb cb, .int .u64 n0] W fun e w' => e = .returned (.bool true) ∧ Below W.heap.size W w' := said (keeps_walk10 H W sa la ca A hA sb lb cb B hB n0 hn)
theorem many_say10 (n0 : Int) (hn : okU n0) : Calls Try.prog 6 #[.int .u64 n0] W fun e w' => e = .returned (.bool true) ∧ Below W.heap.size W w' := said (many_walk10 H W n0 hn)
theorem none_say10 {N : World → Value → Prop} (M : NoneOk10 N) (hz : ∀ w : World, N (w.alloc fileZero) (.pointer (some ⟨w.heap.size, 0, none⟩))) (A : IActV) (hA : A.Ok W) : Calls Try.prog 7 #[.agg #[.int .i64 A.k, .int .i64 A.i, .int .i64 A.n, .slice A.s A.l A.c, .bool A.raw]] W fun e w' => e = .returned (.bool true) ∧ Below W.heap.size W w' := said (none_walk10 H M hz W A hA)
end
end Go.Proofs.Ytlaniifbfgcfaaa
