/- What the arguments of layer 5's laws read as. -/
import Derived.Test.YtmddflhacamnaaaTInts
import Derived.Test.YtmddflhacamnaaaTActs
namespace Go.Proofs.Ytmddflhacamnaaa
open Go.ChangeShapes Go.WideShapes Go.ChangeAt Go.RowKit
set_option linter.unusedVariables false

theorem tacts_of_trod {H : Type} {enc : TypeId × Value → H} {w : World} {base : Nat} {spare : Nat → Bool} {held : Bool} {fuel : Nat} {s : Option Addr} {l c : Nat} {x : DataW H × List MemPlace}
    (h : DataW.trod enc Try.prog w base spare held fuel 22 [.slice s l c] = some x) : ∃ As, TActsAre w s l As := by
  obtain ⟨zss, hz⟩ := introws_of_trod (d := 4) (n := 5) Try.underlying22 (by kernel_rfl) (by kernel_rfl) (by omega) h
  have key : ∀ zs, zs ∈ zss → ∃ A : TActV, tactCells A = zs.map (Value.int .i64) ∧ okI A.a ∧ okI A.v := by
    intro zs hzs
    obtain ⟨hl, hok⟩ := hz.each zs hzs
    match zs, hl with
    | [k, a, v, f, p], _ => exact ⟨⟨k, a, v, f, p⟩, rfl, hok a (by simp), hok v (by simp)⟩
  obtain ⟨As, hl, hAs⟩ := list_all l (fun i (A : TActV) => ∃ zs, zss[i]? = some zs ∧ tactCells A = zs.map (Value.int .i64) ∧ okI A.a ∧ okI A.v) fun i hi => by
    have hg : zss[i]? = some (zss[i]'(by rw [hz.len]; exact hi)) := List.getElem?_eq_getElem (by rw [hz.len]; exact hi)
    obtain ⟨A, h1, h2, h3⟩ := key _ (List.mem_of_getElem? hg)
    exact ⟨A, _, hg, h1, h2, h3⟩
  refine ⟨As, hl, ?_, fun A hA => ?_⟩
  · rcases hz.cells with h1 | ⟨g, o, hs, hc⟩
    · exact .inl h1
    · refine .inr ⟨g, o, hs, fun i A hi j u hu => ?_⟩
      obtain ⟨zs, hzi, hA, _⟩ := hAs i A hi
      rw [hA, List.getElem?_map] at hu
      obtain ⟨z, hzj, rfl⟩ := Option.map_eq_some_iff.1 hu
      exact hc i zs hzi j z hzj
  · obtain ⟨i, hi⟩ := List.getElem?_of_mem hA
    obtain ⟨_, _, _, h1, h2⟩ := hAs i A hi
    exact ⟨h1, h2⟩
end Go.Proofs.Ytmddflhacamnaaa
