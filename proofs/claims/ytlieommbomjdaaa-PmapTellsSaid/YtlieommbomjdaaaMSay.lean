/- Layer 7's walks as its rows want them: what the arguments read as; nothing older has turned. -/
import Derived.Test.YtlieommbomjdaaaQB7
import Derived.Test.YtlieommbomjdaaaMLeast
import Derived.Test.YtlieommbomjdaaaMUints
import Derived.Test.YtlieommbomjdaaaQB8
namespace Go.Proofs.Ytlieommbomjdaaa
open Go.ChangeShapes Go.WideShapes Go.ChangeAt Go.RowKit
set_option linter.unusedVariables false

theorem below_ofM {w w' : World} (g : w.grownBy w' none) : Below w.heap.size w w' := ⟨g.os, g.tape, g.output, g.size, fun k hk => g.block k hk (by simp)⟩
theorem uint_of_trod {H : Type} {enc : TypeId × Value → H} {w : World} {base : Nat} {spare : Nat → Bool} {held : Bool} {fuel : Nat} {v : Value} {x : DataW H × List MemPlace}
    (h : DataW.trod enc Try.prog w base spare held fuel 33 [v] = some x) : ∃ a : Int, v = .int .u64 a ∧ okU a := by
  obtain ⟨hl, hck⟩ := ck_of_trod 4 33 [.int .u64] _ fuel _ (by kernel_rfl) h
  obtain ⟨z, hz, hok⟩ := hck 0 (.int .u64) v rfl rfl
  exact ⟨z, hz, okU_wf7 hok⟩
theorem list2M {α : Type} {l : List α} (h : l.length = 2) : ∃ a b, l = [a, b] := by
  match l, h with
  | [a, b], _ => exact ⟨a, b, rfl⟩
set_option maxRecDepth 100000 in
theorem two_ofU {H : Type} {enc : TypeId × Value → H} {w w1 : World} {base b0 : Nat} {spare : Nat → Bool} {held : Bool} {r : Reach} {v : Value} {d : DataW H} {p : List MemPlace}
    (h : DataW.Trod enc Try.prog w base spare held 42 v d p) (hv : Value.okWide Try.prog w1 r b0 42 v) : ∃ x y : Int, v = .agg #[.int .u64 x, .int .u64 y] ∧ okU x ∧ okU y := by
  simp only [Value.okWide, Try.underlying42] at hv
  obtain ⟨cs, rfl, hsz, _⟩ := hv
  have hC : Try.prog.cellsOf 33 = 1 := by kernel_rfl
  have hC2 : Try.prog.cellsOf 42 = 2 := by kernel_rfl
  obtain ⟨fuel, hf⟩ := h
  obtain ⟨xs, m, _, _, hlen, hxs, hel⟩ := DataW.trod_array Try.underlying42 hf
  rw [hC2] at hsz
  simp only [Value.cells] at hel
  have h0 := hel 0 (by omega)
  have h1 := hel 1 (by omega)
  rw [hC] at h0 h1
  have e0 : xs[0]? = some (xs[0]'(by omega)) := List.getElem?_eq_getElem (by omega)
  have e1 : xs[1]? = some (xs[1]'(by omega)) := List.getElem?_eq_getElem (by omega)
  rw [e0] at h0
  rw [e1] at h1
  obtain ⟨l⟩ := cs
  obtain ⟨c0, c1, rfl⟩ := list2M (l := l) (by simpa using hsz)
  obtain ⟨a, ha, oa⟩ := uint_of_trod (v := c0) (by simpa using h0)
  obtain ⟨b, hb, ob⟩ := uint_of_trod (v := c1) (by simpa using h1)
  exact ⟨a, b, by rw [ha, hb], oa, ob⟩

theorem full_say (W : World) (n0 v f0 p0 : Int) (hn : okU n0) (hv : okI v) (hf : okU f0) (hp : okU p0) :
    Calls Try.prog 4 #[.int .u64 n0, .int .i64 v, .agg #[.int .u64 f0, .int .u64 p0]] W fun e W' => e = .returned (.bool true) ∧ Below W.heap.size W W' :=
  (full_walk pmOk W n0 v f0 p0 hn hv hf hp).mono fun e w' h => ⟨h.1, below_ofM h.2⟩
theorem least_say (W : World) (sv : Option Addr) (l cc : Nat) (vs : List Int) (hv : UintsAre W sv l vs) :
    Calls Try.prog 7 #[.slice sv l cc] W fun e W' => e = .returned (.bool true) ∧ Below W.heap.size W W' :=
  (least_walk pmOk W sv l cc vs hv).mono fun e w' h => ⟨h.1, below_ofM h.2⟩
theorem flags_say (W : World) (p0 q0 k : Int) (hp : okU p0) (hq : okU q0) (hk : okI k) :
    Calls Try.prog 5 #[.int .u64 p0, .int .u64 q0, .int .i64 k] W fun e W' => e = .returned (.bool true) ∧ Below W.heap.size W W' :=
  (flags_walk W p0 q0 k hp hq hk).mono fun e w' h => ⟨h.1, below_ofM h.2⟩
end Go.Proofs.Ytlieommbomjdaaa
