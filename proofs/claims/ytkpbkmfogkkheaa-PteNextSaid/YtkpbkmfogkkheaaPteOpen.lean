/- What the arguments of layer 3's laws read as: entries, three numbers, numbers within their kinds. -/
import Derived.Test.YtkpbkmfogkkheaaPteLives
import Derived.Test.YtkpbkmfogkkheaaOpen
namespace Go.Proofs.Ytkpbkmfogkkheaa
open Go.ChangeShapes Go.WideShapes Go.ChangeAt Go.RowKit Go.Deep
set_option linter.unusedVariables false

theorem okI_wf {x : Int} (h : (Lit.int .i64 x).wf = true) : okI x := by
  simp [Lit.wf, IntKind.min, IntKind.max, IntKind.signed, IntKind.bits] at h
  exact ⟨by omega, by omega⟩
theorem okU_wf {x : Int} (h : (Lit.int .u64 x).wf = true) : okU x := by
  simp [Lit.wf, IntKind.min, IntKind.max, IntKind.signed, IntKind.bits] at h
  exact ⟨by omega, by omega⟩

theorem len2 {α : Type} {l : List α} {a b : α} (h : l.length = 2) (h0 : l[0]? = some a) (h1 : l[1]? = some b) : l = [a, b] := by
  match l, h with
  | [_, _], _ => simp_all
theorem len3 {α : Type} {l : List α} (h : l.length = 3) : ∃ a b c, l = [a, b, c] := by
  match l, h with
  | [a, b, c], _ => exact ⟨a, b, c, rfl⟩

theorem entry_of {H : Type} {enc : TypeId × Value → H} {w w1 : World} {base b0 : Nat} {spare : Nat → Bool} {held : Bool} {r : Reach} {v : Value} {d : DataW H} {p : List MemPlace}
    (h : DataW.Trod enc Try.prog w base spare held 23 v d p) (hv : Value.okWide Try.prog w1 r b0 23 v) : ∃ x y : Int, v = .agg #[.int .i64 x, .int .i64 y] := by
  obtain ⟨cs, rfl, _⟩ := okWide_struct Try.underlying23 hv
  obtain ⟨fuel, hf⟩ := h
  obtain ⟨hlen, m, hs⟩ := struct_cells Try.underlying23 (by kernel_rfl) (by kernel_rfl) hf
  obtain ⟨v0, y0, e0, t0⟩ := hs 0 _ rfl
  obtain ⟨v1, y1, e1, t1⟩ := hs 1 _ rfl
  obtain ⟨a, rfl, _⟩ := int_of_trod Try.underlying3 t0
  obtain ⟨b, rfl, _⟩ := int_of_trod Try.underlying3 t1
  obtain ⟨l⟩ := cs
  refine ⟨a, b, ?_⟩
  have := len2 hlen e0 e1
  simp only [Value.cells] at this
  rw [this]

theorem three_of {H : Type} {enc : TypeId × Value → H} {w w1 : World} {base b0 : Nat} {spare : Nat → Bool} {held : Bool} {r : Reach} {v : Value} {d : DataW H} {p : List MemPlace}
    (h : DataW.Trod enc Try.prog w base spare held 32 v d p) (hv : Value.okWide Try.prog w1 r b0 32 v) : ∃ x y z : Int, v = .agg #[.int .i64 x, .int .i64 y, .int .i64 z] ∧ okI x ∧ okI y ∧ okI z := by
  simp only [Value.okWide, Try.underlying32] at hv
  obtain ⟨cs, rfl, hsz, _⟩ := hv
  have hC : Try.prog.cellsOf 3 = 1 := by kernel_rfl
  have hC2 : Try.prog.cellsOf 32 = 3 := by kernel_rfl
  obtain ⟨fuel, hf⟩ := h
  obtain ⟨xs, m, _, _, hlen, hxs, hel⟩ := DataW.trod_array Try.underlying32 hf
  rw [hC2] at hsz
  simp only [Value.cells] at hel
  have h0 := hel 0 (by omega)
  have h1 := hel 1 (by omega)
  have h2 := hel 2 (by omega)
  rw [hC] at h0 h1 h2
  have e0 : xs[0]? = some (xs[0]'(by omega)) := List.getElem?_eq_getElem (by omega)
  have e1 : xs[1]? = some (xs[1]'(by omega)) := List.getElem?_eq_getElem (by omega)
  have e2 : xs[2]? = some (xs[2]'(by omega)) := List.getElem?_eq_getElem (by omega)
  rw [e0] at h0
  rw [e1] at h1
  rw [e2] at h2
  obtain ⟨l⟩ := cs
  obtain ⟨c0, c1, c2, rfl⟩ := len3 (l := l) (by simpa using hsz)
  obtain ⟨a, ha, wa⟩ := int_of_trod Try.underlying3 (v := c0) (by simpa using h0)
  obtain ⟨b, hb, wb⟩ := int_of_trod Try.underlying3 (v := c1) (by simpa using h1)
  obtain ⟨c, hc, wc⟩ := int_of_trod Try.underlying3 (v := c2) (by simpa using h2)
  exact ⟨a, b, c, by rw [ha, hb, hc], okI_wf wa, okI_wf wb, okI_wf wc⟩
end Go.Proofs.Ytkpbkmfogkkheaa
