/- What the arguments of layer 3's laws read as: entries, three numbers, numbers within their kinds. -/
import Derived.Test.YtlieommbomjdaaaPteB2
import Derived.Test.YtlieommbomjdaaaPhysB1
namespace Go.Proofs.Ytlieommbomjdaaa
open Go.ChangeShapes Go.WideShapes Go.ChangeAt Go.RowKit Go.Deep
set_option linter.unusedVariables false

theorem okI_wf {x : Int} (h : (Lit.int .i64 x).wf = true) : okI x := by
  simp [Lit.wf, IntKind.min, IntKind.max, IntKind.signed, IntKind.bits] at h
  exact ⟨by omega, by omega⟩
theorem okU_wf {x : Int} (h : (Lit.int .u64 x).wf = true) : okU x := by
  simp [Lit.wf, IntKind.min, IntKind.max, IntKind.signed, IntKind.bits] at h
  exact ⟨by omega, by omega⟩

theorem len2 {α : Type} {l : List α} {a b : α} (h : l.length = 2) (h0 : l[0]? = some a) (h1 : l[1]? = some b) : l = [a, b] := by
  match l, h with
  | [_, _], _ => simp_all
theorem len3 {α : Type} {l : List α} (h : l.length = 3) : ∃ a b c, l = [a, b, c] := by
  match l, h with
  | [a, b, c], _ => exact ⟨a, b, c, rfl⟩

set_option maxRecDepth 100000 in
theorem entry_of {H : Type} {enc : TypeId × Value → H} {w w1 : World} {base b0 : Nat} {spare : Nat → Bool} {held : Bool} {r : Reach} {v : Value} {d : DataW H} {p : List MemPlace}
    (h : DataW.Trod enc Try.prog w base spare held 44 v d p) (hv : Value.okWide Try.prog w1 r b0 44 v) : ∃ x y : Int, v = .agg #[.int .i64 x, .int .i64 y] := by
  obtain ⟨cs, rfl, _⟩ := okWide_struct Try.underlying44 hv
  obtain ⟨fuel, hf⟩ := h
  obtain ⟨hlen, m, hs⟩ := struct_cells Try.underlying44 (by kernel_rfl) (by kernel_rfl) hf
  obtain ⟨v0, y0, e0, t0⟩ := hs 0 _ rfl
  obtain ⟨v1, y1, e1, t1⟩ := hs 1 _ rfl
  obtain ⟨a, rfl, _⟩ := int_of_trod Try.underlying3 t0
  obtain ⟨b, rfl, _⟩ := int_of_trod Try.underlying3 t1
  obtain ⟨l⟩ := cs
  refine ⟨a, b, ?_⟩
  have := len2 hlen e0 e1
  simp only [Value.cells] at this
  rw [this]

end Go.Proofs.Ytlieommbomjdaaa
