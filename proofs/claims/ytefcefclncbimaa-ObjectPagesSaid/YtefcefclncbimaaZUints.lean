/- Slices of uints: what they read as. -/
import Derived.Test.YtefcefclncbimaaZRow
namespace Go.Proofs.Ytefcefclncbimaa
open Go.ChangeShapes Go.WideShapes Go.ChangeAt Go.RowKit Go.Deep
set_option linter.unusedVariables false

theorem okU_wfz {x : Int} (h : (Lit.int .u64 x).wf = true) : okU x := by
  simp [Lit.wf, IntKind.min, IntKind.max, IntKind.signed, IntKind.bits] at h
  exact ⟨by omega, by omega⟩
/-- A slice that reads as uints. -/
structure UintsAre (w : World) (s : Option Addr) (l : Nat) (xs : List Int) : Prop where
  len : xs.length = l
  cells : l = 0 ∨ ∃ g o, s = some ⟨g, o, none⟩ ∧ ∀ i x, xs[i]? = some x → w.cell? ⟨g, o + i, none⟩ = some (.int .u64 x)
  ok : ∀ x, x ∈ xs → okU x
theorem UintsAre.get {w : World} {s : Option Addr} {l : Nat} {xs : List Int} (h : UintsAre w s l xs) (q : Nat) (hq : q < l) : ∃ x g o, xs[q]? = some x ∧ s = some ⟨g, o, none⟩ ∧ w.cell? ⟨g, o + q, none⟩ = some (.int .u64 x) ∧ okU x := by
  rcases h.cells with h0 | ⟨g, o, hs, hc⟩
  · omega
  · have hx : xs[q]? = some (xs[q]'(by rw [h.len]; exact hq)) := List.getElem?_eq_getElem (by rw [h.len]; exact hq)
    exact ⟨_, g, o, hx, hs, hc q _ hx, h.ok _ (List.mem_of_getElem? hx)⟩
theorem UintsAre.below {w w' : World} {s : Option Addr} {l : Nat} {xs : List Int} (h : UintsAre w s l xs) (b : Below w.heap.size w w') : UintsAre w' s l xs := by
  refine ⟨h.len, ?_, h.ok⟩
  rcases h.cells with h0 | ⟨g, o, hs, hc⟩
  · exact .inl h0
  · exact .inr ⟨g, o, hs, fun i x hi => (b.cell (p := ⟨g, o + i, none⟩) (World.block_lt_of_cell? w _ (hc i x hi))).trans (hc i x hi)⟩

theorem uints_of_trod {H : Type} {enc : TypeId × Value → H} {w : World} {base : Nat} {spare : Nat → Bool} {held : Bool} {fuel : Nat} {s : Option Addr} {l c : Nat} {x : DataW H × List MemPlace}
    (h : DataW.trod enc Try.prog w base spare held fuel 61 [.slice s l c] = some x) : ∃ xs, UintsAre w s l xs := by
  rcases open_ints Try.underlying61 Try.underlying60 (by kernel_rfl) h with ⟨hcs, _⟩ | ⟨a, l', c', zs, hcs, _, hl, _, hz, _, hcell, hwf⟩
  · simp at hcs
    obtain ⟨rfl, rfl, rfl⟩ := hcs
    exact ⟨[], rfl, .inl rfl, by simp⟩
  · simp at hcs
    obtain ⟨rfl, rfl, rfl⟩ := hcs
    have hlz : l ≤ zs.length := by rw [hz]; split <;> omega
    by_cases h0 : l = 0
    · subst h0
      exact ⟨[], rfl, .inl rfl, by simp⟩
    · obtain ⟨b, o, spot⟩ := a
      have hspot : spot = none := by
        have := hcell 0 (by omega)
        simpa [Addr.add] using World.cell?_spot this
      subst hspot
      refine ⟨zs.take l, by simp; omega, .inr ⟨b, o, rfl, fun j v hv => ?_⟩, fun v hv => ?_⟩
      · rw [List.getElem?_take] at hv
        split at hv
        · rename_i hj
          have hjz : j < zs.length := by omega
          have hcj := hcell j hjz
          rw [Addr.add_mid] at hcj
          rw [hcj]
          rw [List.getElem?_eq_getElem hjz] at hv
          injection hv with hv
          subst hv
          simp [List.getD, List.getElem?_eq_getElem hjz]
        · cases hv
      · exact okU_wfz (hwf v (List.mem_of_mem_take hv))
end Go.Proofs.Ytefcefclncbimaa
