/- Layer 13's walks as their rows want them: what the arguments read as; nothing older has turned. -/
import Derived.Test.YtfmihbiongnpnaaANumW
import Derived.Test.YtfmihbiongnpnaaACopyW
import Derived.Test.YtfmihbiongnpnaaADh
import Derived.Test.YtfmihbiongnpnaaAAct
namespace Go.Proofs.Ytfmihbiongnpnaa
open Go.ChangeShapes Go.WideShapes Go.ChangeAt Go.RowKit
set_option linter.unusedVariables false

theorem okI_wf {x : Int} (h : (Lit.int .i64 x).wf = true) : okI x := wf_ok64 h
theorem okU_wf {x : Int} (h : (Lit.int .u64 x).wf = true) : okU x := by
  simp [Lit.wf, IntKind.min, IntKind.max, IntKind.signed, IntKind.bits] at h
  exact ⟨by omega, by omega⟩
theorem below_of {w w' : World} (g : w.grownBy w' none) : Below w.heap.size w w' := ⟨g.os, g.tape, g.output, g.size, fun k hk => g.block k hk (by simp)⟩
theorem said {f : FuncId} {args : Array Value} {w : World} (h : Calls Try.prog f args w fun e w' => e = .returned (.bool true) ∧ w.grownBy w' none) : Calls Try.prog f args w fun e w' => e = .returned (.bool true) ∧ Below w.heap.size w w' := h.mono fun _ _ k => ⟨k.1, below_of k.2⟩
theorem list_2 {α : Type} {l : List α} (h : l.length = 2) : ∃ a b, l = [a, b] := by
  match l, h with
  | [a, b], _ => exact ⟨a, b, rfl⟩

set_option maxRecDepth 100000 in
theorem two_ofU {H : Type} {enc : TypeId × Value → H} {w w1 : World} {base b0 : Nat} {spare : Nat → Bool} {held : Bool} {r : Reach} {v : Value} {d : DataW H} {p : List MemPlace}
    (h : DataW.Trod enc Try.prog w base spare held 61 v d p) (hv : Value.okWide Try.prog w1 r b0 61 v) : ∃ x y : Int, v = .agg #[.int .u64 x, .int .u64 y] ∧ okU x ∧ okU y := by
  simp only [Value.okWide, Try.underlying61] at hv
  obtain ⟨cs, rfl, hsz, _⟩ := hv
  have hC : Try.prog.cellsOf 59 = 1 := by kernel_rfl
  have hC2 : Try.prog.cellsOf 61 = 2 := by kernel_rfl
  obtain ⟨fuel, hf⟩ := h
  obtain ⟨xs, m, _, _, hlen, hxs, hel⟩ := DataW.trod_array Try.underlying61 hf
  rw [hC2] at hsz
  simp only [Value.cells] at hel
  have h0 := hel 0 (by omega)
  have h1 := hel 1 (by omega)
  rw [hC] at h0 h1
  have e0 : xs[0]? = some (xs[0]'(by omega)) := List.getElem?_eq_getElem (by omega)
  have e1 : xs[1]? = some (xs[1]'(by omega)) := List.getElem?_eq_getElem (by omega)
  rw [e0] at h0
  rw [e1] at h1
  obtain ⟨l⟩ := cs
  obtain ⟨c0, c1, rfl⟩ := list_2 (l := l) (by simpa using hsz)
  obtain ⟨a, ha, oa⟩ := int_of_trod (v := c0) Try.underlying59 (by simpa using h0)
  obtain ⟨b, hb, ob⟩ := int_of_trod (v := c1) Try.underlying59 (by simpa using h1)
  exact ⟨a, b, by rw [ha, hb], okU_wf oa, okU_wf ob⟩

section
variable (W : World)
theorem numbers_say13 (a b : Int) (ha : okU a) (hb : okU b) : Calls Try.prog 7 #[.int .u64 a, .int .u64 b] W fun e w' => e = .returned (.bool true) ∧ Below W.heap.size W w' := said (num_walk13 amOk W a b ha hb)
theorem copies_say13 (n0 f0 t0 : Int) (s : Option Addr) (l c : Nat) (ds : List Int) (hU : UintsAre W s l ds) (hn : okU n0) (hf : okU f0) (ht : okU t0) : Calls Try.prog 5 #[.int .u64 n0, .agg #[.int .u64 f0, .int .u64 t0], .slice s l c] W fun e w' => e = .returned (.bool true) ∧ Below W.heap.size W w' := said (copies_walk13 amOk W n0 f0 t0 s l c ds hU hn hf ht)
end
end Go.Proofs.Ytfmihbiongnpnaa
