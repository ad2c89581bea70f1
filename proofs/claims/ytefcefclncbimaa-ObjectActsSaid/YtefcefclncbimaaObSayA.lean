/- ObjectActs as its row wants it. -/
import Derived.Test.YtefcefclncbimaaObAct
import Derived.Test.YtefcefclncbimaaObActsW
namespace Go.Proofs.Ytefcefclncbimaa
open Go.ChangeShapes Go.WideShapes Go.ChangeAt Go.RowKit
set_option linter.unusedVariables false

theorem okI_wf {x : Int} (h : (Lit.int .i64 x).wf = true) : okI x := wf_ok64 h
theorem okU_wf {x : Int} (h : (Lit.int .u64 x).wf = true) : okU x := by
  simp [Lit.wf, IntKind.min, IntKind.max, IntKind.signed, IntKind.bits] at h
  exact ⟨by omega, by omega⟩
theorem below_of {w w' : World} (g : w.grownBy w' none) : Below w.heap.size w w' := ⟨g.os, g.tape, g.output, g.size, fun k hk => g.block k hk (by simp)⟩
theorem said {f : FuncId} {args : Array Value} {w : World} (h : Calls Try.prog f args w fun e w' => e = .returned (.bool true) ∧ w.grownBy w' none) : Calls Try.prog f args w fun e w' => e = .returned (.bool true) ∧ Below w.heap.size w w' := h.mono fun _ _ k => ⟨k.1, below_of k.2⟩
theorem len3 {α : Type} {l : List α} (h : l.length = 3) : ∃ a b c, l = [a, b, c] := by
  match l, h with
  | [a, b, c], _ => exact ⟨a, b, c, rfl⟩


set_option maxRecDepth 100000 in
theorem three_of {H : Type} {enc : TypeId × Value → H} {w w1 : World} {base b0 : Nat} {spare : Nat → Bool} {held : Bool} {r : Reach} {v : Value} {d : DataW H} {p : List MemPlace}
    (h : DataW.Trod enc Try.prog w base spare held 23 v d p) (hv : Value.okWide Try.prog w1 r b0 23 v) : ∃ x y z : Int, v = .agg #[.int .i64 x, .int .i64 y, .int .i64 z] ∧ okI x ∧ okI y ∧ okI z := by
  simp only [Value.okWide, Try.underlying23] at hv
  obtain ⟨cs, rfl, hsz, _⟩ := hv
  have hC : Try.prog.cellsOf 3 = 1 := by kernel_rfl
  have hC2 : Try.prog.cellsOf 23 = 3 := by kernel_rfl
  obtain ⟨fuel, hf⟩ := h
  obtain ⟨xs, m, _, _, hlen, hxs, hel⟩ := DataW.trod_array Try.underlying23 hf
  rw [hC2] at hsz
  simp only [Value.cells] at hel
  have h0 := hel 0 (by omega)
  have h1 := hel 1 (by omega)
  have h2 := hel 2 (by omega)
  rw [hC] at h0 h1 h2
  have e0 : xs[0]? = some (xs[0]'(by omega)) := List.getElem?_eq_getElem (by omega)
  have e1 : xs[1]? = some (xs[1]'(by omega)) := List.getElem?_eq_getElem (by omega)
  have e2 : xs[2]? = some (xs[2]'(by omega)) := List.getElem?_eq_getElem (by omega)
  rw [e0] at h0
  rw [e1] at h1
  rw [e2] at h2
  obtain ⟨l⟩ := cs
  obtain ⟨c0, c1, c2, rfl⟩ := len3 (l := l) (by simpa using hsz)
  obtain ⟨a, ha, wa⟩ := int_of_trod Try.underlying3 (v := c0) (by simpa using h0)
  obtain ⟨b, hb, wb⟩ := int_of_trod Try.underlying3 (v := c1) (by simpa using h1)
  obtain ⟨c, hc, wc⟩ := int_of_trod Try.underlying3 (v := c2) (by simpa using h2)
  exact ⟨a, b, c, by rw [ha, hb, hc], okI_wf wa, okI_wf wb, okI_wf wc⟩
theorem acts_say14 (W : World) (n0 : Int) (s : Option Addr) (l c : Nat) (As : List OActV) (hA : OActsAre W s l As) (x y z : Int) (hn : okI n0) (hx : okI x) (hy : okI y) (hz : okI z) :
    Calls Try.prog 3 #[.int .i64 n0, .slice s l c, .agg #[.int .i64 x, .int .i64 y, .int .i64 z]] W fun e w' => e = .returned (.bool true) ∧ Below W.heap.size W w' := said (acts_done14 W n0 s l c As x y z hA hn hx hy hz)
end Go.Proofs.Ytefcefclncbimaa
