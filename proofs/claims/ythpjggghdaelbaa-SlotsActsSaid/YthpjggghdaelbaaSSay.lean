/- Layer 8: what the arguments read as. -/
import Derived.Test.YthpjggghdaelbaaSAct
namespace Go.Proofs.Ythpjggghdaelbaa
open Go.ChangeShapes Go.WideShapes Go.ChangeAt Go.RowKit
set_option linter.unusedVariables false

theorem okI_wf {x : Int} (h : (Lit.int .i64 x).wf = true) : okI x := wf_ok64 h
theorem okU_wf {x : Int} (h : (Lit.int .u64 x).wf = true) : okU x := by
  simp [Lit.wf, IntKind.min, IntKind.max, IntKind.signed, IntKind.bits] at h
  exact ⟨by omega, by omega⟩
theorem below_of {w w' : World} (g : w.grownBy w' none) : Below w.heap.size w w' := ⟨g.os, g.tape, g.output, g.size, fun k hk => g.block k hk (by simp)⟩
theorem said {f : FuncId} {args : Array Value} {w : World} (h : Calls Try.prog f args w fun e w' => e = .returned (.bool true) ∧ w.grownBy w' none) : Calls Try.prog f args w fun e w' => e = .returned (.bool true) ∧ Below w.heap.size w w' := h.mono fun _ _ k => ⟨k.1, below_of k.2⟩

theorem sacts_of_trod {H : Type} {enc : TypeId × Value → H} {w : World} {base : Nat} {spare : Nat → Bool} {held : Bool} {fuel : Nat} {s : Option Addr} {l c : Nat} {x : DataW H × List MemPlace}
    (h : DataW.trod enc Try.prog w base spare held fuel 22 [.slice s l c] = some x) : ∃ As, SActsAre w s l As := by
  obtain ⟨zss, hz⟩ := introws_of_trod (d := 4) (n := 2) Try.underlying22 (by kernel_rfl) (by kernel_rfl) (by omega) h
  have key : ∀ zs, zs ∈ zss → ∃ A : SActV, sactCells A = zs.map (Value.int .i64) ∧ A.Ok := by
    intro zs hzs
    obtain ⟨hl, hok⟩ := hz.each zs hzs
    match zs, hl with
    | [k, n], _ => exact ⟨⟨k, n⟩, rfl, hok k (by simp), hok n (by simp)⟩
  obtain ⟨As, hl, hAs⟩ := list_all l (fun i (A : SActV) => ∃ zs, zss[i]? = some zs ∧ sactCells A = zs.map (Value.int .i64) ∧ A.Ok) fun i hi => by
    have hg : zss[i]? = some (zss[i]'(by rw [hz.len]; exact hi)) := List.getElem?_eq_getElem (by rw [hz.len]; exact hi)
    obtain ⟨A, h1, h2⟩ := key _ (List.mem_of_getElem? hg)
    exact ⟨A, _, hg, h1, h2⟩
  refine ⟨As, hl, ?_, fun A hA => ?_⟩
  · rcases hz.cells with h1 | ⟨g, o, hs, hc⟩
    · exact .inl h1
    · refine .inr ⟨g, o, hs, fun i A hi j u hu => ?_⟩
      obtain ⟨zs, hzi, hA, _⟩ := hAs i A hi
      rw [hA, List.getElem?_map] at hu
      obtain ⟨z, hzj, rfl⟩ := Option.map_eq_some_iff.1 hu
      exact hc i zs hzi j z hzj
  · obtain ⟨i, hi⟩ := List.getElem?_of_mem hA
    obtain ⟨_, _, _, h1⟩ := hAs i A hi
    exact h1

theorem uints_of_trod {H : Type} {enc : TypeId × Value → H} {w : World} {base : Nat} {spare : Nat → Bool} {held : Bool} {fuel : Nat} {s : Option Addr} {l c : Nat} {x : DataW H × List MemPlace}
    (h : DataW.trod enc Try.prog w base spare held fuel 42 [.slice s l c] = some x) : ∃ xs, UintsAre w s l xs := by
  rcases open_ints Try.underlying42 Try.underlying39 (by kernel_rfl) h with ⟨hcs, _⟩ | ⟨a, l', c', zs, hcs, _, hl, _, hz, _, hcell, hwf⟩
  · simp at hcs
    obtain ⟨rfl, rfl, rfl⟩ := hcs
    exact ⟨[], rfl, .inl rfl, by simp⟩
  · simp at hcs
    obtain ⟨rfl, rfl, rfl⟩ := hcs
    have hlz : l ≤ zs.length := by rw [hz]; split <;> omega
    by_cases h0 : l = 0
    · subst h0
      exact ⟨[], rfl, .inl rfl, by simp⟩
    · obtain ⟨b, o, spot⟩ := a
      have hspot : spot = none := by
        have := hcell 0 (by omega)
        simpa [Addr.add] using World.cell?_spot this
      subst hspot
      refine ⟨zs.take l, by simp; omega, .inr ⟨b, o, rfl, fun j v hv => ?_⟩, fun v hv => ?_⟩
      · rw [List.getElem?_take] at hv
        split at hv
        · rename_i hj
          have hjz : j < zs.length := by omega
          have hcj := hcell j hjz
          rw [Addr.add_mid] at hcj
          rw [hcj]
          rw [List.getElem?_eq_getElem hjz] at hv
          injection hv with hv
          subst hv
          simp [List.getD, List.getElem?_eq_getElem hjz]
        · cases hv
      · exact okU_wf (hwf v (List.mem_of_mem_take hv))
end Go.Proofs.Ythpjggghdaelbaa
