/- What the arguments of layer 4's laws read as: an ask, a slice of uints. -/
import Derived.Test.YtomkhdefjfjlnaaWFinds
namespace Go.Proofs.Ytomkhdefjfjlnaa
open Go.ChangeShapes Go.WideShapes Go.ChangeAt Go.RowKit Go.Deep
set_option linter.unusedVariables false

set_option maxRecDepth 100000 in
theorem ask_of {H : Type} {enc : TypeId × Value → H} {w w1 : World} {base b0 : Nat} {spare : Nat → Bool} {held : Bool} {r : Reach} {v : Value} {d : DataW H} {p : List MemPlace}
    (h : DataW.Trod enc Try.prog w base spare held 30 v d p) (hv : Value.okWide Try.prog w1 r b0 30 v) : ∃ A : AskV, v = .agg #[.int .i64 A.root, .int .i64 A.va, .int .i64 A.a, .bool A.u] ∧ okI A.root ∧ okI A.va ∧ okI A.a := by
  obtain ⟨cs, rfl, _⟩ := okWide_struct Try.underlying30 hv
  obtain ⟨fuel, hf⟩ := h
  obtain ⟨A, hA, q1, q2, q3⟩ := ask_of_trod hf
  obtain ⟨l⟩ := cs
  simp only [Value.cells] at hA
  refine ⟨A, ?_, q1, q2, q3⟩
  have e : l = AskCells A := hA
  rw [e]
  rfl

theorem uints_of_trod {H : Type} {enc : TypeId × Value → H} {w : World} {base : Nat} {spare : Nat → Bool} {held : Bool} {fuel : Nat} {s : Option Addr} {l c : Nat} {x : DataW H × List MemPlace}
    (h : DataW.trod enc Try.prog w base spare held fuel 64 [.slice s l c] = some x) : ∃ xs, UintsAre w s l xs := by
  rcases open_ints Try.underlying64 Try.underlying53 (by kernel_rfl) h with ⟨hcs, _⟩ | ⟨a, l', c', zs, hcs, _, hl, _, hz, _, hcell, hwf⟩
  · simp at hcs
    obtain ⟨rfl, rfl, rfl⟩ := hcs
    exact ⟨[], rfl, .inl rfl, by simp⟩
  · simp at hcs
    obtain ⟨rfl, rfl, rfl⟩ := hcs
    have hlz : l ≤ zs.length := by rw [hz]; split <;> omega
    by_cases h0 : l = 0
    · subst h0
      exact ⟨[], rfl, .inl rfl, by simp⟩
    · obtain ⟨b, o, spot⟩ := a
      have hspot : spot = none := by
        have := hcell 0 (by omega)
        simpa [Addr.add] using World.cell?_spot this
      subst hspot
      refine ⟨zs.take l, by simp; omega, .inr ⟨b, o, rfl, fun j v hv => ?_⟩, fun v hv => ?_⟩
      · rw [List.getElem?_take] at hv
        split at hv
        · rename_i hj
          have hjz : j < zs.length := by omega
          have hcj := hcell j hjz
          rw [Addr.add_mid] at hcj
          rw [hcj]
          rw [List.getElem?_eq_getElem hjz] at hv
          injection hv with hv
          subst hv
          simp [List.getD, List.getElem?_eq_getElem hjz]
        · cases hv
      · exact okU_wf (hwf v (List.mem_of_mem_take hv))
end Go.Proofs.Ytomkhdefjfjlnaa
