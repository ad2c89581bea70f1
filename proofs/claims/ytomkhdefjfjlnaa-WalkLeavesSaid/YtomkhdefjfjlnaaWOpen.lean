/- What the arguments of layer 4's laws read as: slices of words, of asks, of numbers. -/
import Derived.Test.YtomkhdefjfjlnaaWMade
import Derived.Test.YtomkhdefjfjlnaaPteOpen
import Derived.DataReads
namespace Go.Proofs.Ytomkhdefjfjlnaa
open Go.ChangeShapes Go.WideShapes Go.ChangeAt Go.RowKit Go.Deep
set_option linter.unusedVariables false

theorem list_of_forall {α : Type} (l : Nat) (P : Nat → α → Prop) (h : ∀ i, i < l → ∃ a, P i a) : ∃ zs : List α, zs.length = l ∧ ∀ i a, zs[i]? = some a → P i a := by
  induction l with
  | zero => exact ⟨[], rfl, by simp⟩
  | succ l ih =>
    obtain ⟨zs, hl, ha⟩ := ih fun i hi => h i (by omega)
    obtain ⟨b, hb⟩ := h l (by omega)
    refine ⟨zs ++ [b], by simp [hl], fun i a hi => ?_⟩
    by_cases hil : i < l
    · rw [List.getElem?_append_left (by omega)] at hi
      exact ha i a hi
    · rw [List.getElem?_append_right (by omega)] at hi
      have h2 : i - zs.length = 0 := by
        have := (List.getElem?_eq_some_iff.1 hi).1
        simp at this
        omega
      rw [h2] at hi
      simp at hi
      subst hi
      have : i = l := by omega
      rw [this]
      exact hb

theorem len4 {α : Type} {l : List α} (h : l.length = 4) : ∃ a b c d, l = [a, b, c, d] := by
  match l, h with
  | [a, b, c, d], _ => exact ⟨a, b, c, d, rfl⟩

theorem word_of_trod {H : Type} {enc : TypeId × Value → H} {w : World} {base : Nat} {spare : Nat → Bool} {held : Bool} {fuel : Nat} {cs : List Value} {x : DataW H × List MemPlace}
    (h : DataW.trod enc Try.prog w base spare held fuel 66 cs = some x) : ∃ A : WordV, cs = [.int .i64 A.fr, .int .i64 A.ix, .int .i64 A.fl, .int .i64 A.pp] := by
  obtain ⟨xs, m, _, _, hlen, hxs, hf⟩ := DataW.trod_struct Try.underlying66 h
  have hC : Try.prog.cellsOf 66 = 4 := by kernel_rfl
  have hC1 : Try.prog.cellsOf 3 = 1 := by kernel_rfl
  have hC2 : Try.prog.cellsOf 40 = 2 := by kernel_rfl
  rw [hC] at hlen
  obtain ⟨a, b, c, d, rfl⟩ := len4 hlen
  have h0 := hf 0 _ rfl
  have h1 := hf 1 _ rfl
  have h2 := hf 2 _ rfl
  have hx3 : xs.length = 3 := hxs
  have e0 : xs[0]? = some (xs[0]'(by omega)) := List.getElem?_eq_getElem (by omega)
  have e1 : xs[1]? = some (xs[1]'(by omega)) := List.getElem?_eq_getElem (by omega)
  have e2 : xs[2]? = some (xs[2]'(by omega)) := List.getElem?_eq_getElem (by omega)
  rw [e0] at h0
  rw [e1] at h1
  rw [e2] at h2
  have t0 : DataW.trod enc Try.prog w base spare held m 3 (([a, b, c, d].drop 0).take (Try.prog.cellsOf 3)) = some (xs[0]'(by omega)) := h0
  have t1 : DataW.trod enc Try.prog w base spare held m 3 (([a, b, c, d].drop 1).take (Try.prog.cellsOf 3)) = some (xs[1]'(by omega)) := h1
  have t2 : DataW.trod enc Try.prog w base spare held m 40 (([a, b, c, d].drop 2).take (Try.prog.cellsOf 40)) = some (xs[2]'(by omega)) := h2
  rw [hC1] at t0 t1
  rw [hC2] at t2
  obtain ⟨p, rfl, _⟩ := int_of_trod Try.underlying3 (v := a) (by simpa using t0)
  obtain ⟨q, rfl, _⟩ := int_of_trod Try.underlying3 (v := b) (by simpa using t1)
  have t3 : DataW.trod enc Try.prog w base spare held m 40 [c, d] = some (xs[2]'(by omega)) := by simpa using t2
  obtain ⟨_, m2, hs⟩ := struct_cells Try.underlying40 (by kernel_rfl) (by kernel_rfl) t3
  obtain ⟨v0, y0, f0, g0⟩ := hs 0 _ rfl
  obtain ⟨v1, y1, f1, g1⟩ := hs 1 _ rfl
  obtain ⟨r, rfl, _⟩ := int_of_trod Try.underlying3 g0
  obtain ⟨s, rfl, _⟩ := int_of_trod Try.underlying3 g1
  simp at f0 f1
  subst f0 f1
  exact ⟨⟨p, q, r, s⟩, rfl⟩

theorem words_of_trod {H : Type} {enc : TypeId × Value → H} {w : World} {base : Nat} {spare : Nat → Bool} {held : Bool} {fuel : Nat} {s : Option Addr} {l c : Nat} {x : DataW H × List MemPlace}
    (h : DataW.trod enc Try.prog w base spare held fuel 22 [.slice s l c] = some x) : ∃ Ws, WordsAre w s l Ws := by
  have hC : Try.prog.cellsOf 66 = 4 := by kernel_rfl
  rcases DataW.trod_slice Try.underlying22 h with ⟨hcs, _⟩ | ⟨a, len, cap, elems, rest, m, _, hcs, _, _, _, _, hlen, hel, _⟩
  · simp at hcs
    obtain ⟨rfl, rfl, rfl⟩ := hcs
    exact ⟨[], rfl, .inl rfl⟩
  · simp at hcs
    obtain ⟨rfl, rfl, rfl⟩ := hcs
    by_cases h0 : l = 0
    · subst h0
      exact ⟨[], rfl, .inl rfl⟩
    · have key : ∀ i, i < l → ∃ A : WordV, ∀ j, j < 4 → w.cell? ((a.add (i * 4)).add j) = [Value.int .i64 A.fr, .int .i64 A.ix, .int .i64 A.fl, .int .i64 A.pp][j]? := by
        intro i hi
        have h1 := hel i hi
        rw [hC] at h1
        have he : elems[i]? = some (elems[i]'(by omega)) := List.getElem?_eq_getElem (by omega)
        rw [he] at h1
        obtain ⟨cs, hcells, htr⟩ := Option.bind_eq_some_iff.1 h1
        obtain ⟨_, _, hat⟩ := World.cells?_some hcells
        obtain ⟨A, rfl⟩ := word_of_trod htr
        exact ⟨A, hat⟩
      obtain ⟨g, o, spot⟩ := a
      have hspot : spot = none := by
        obtain ⟨A, hat⟩ := key 0 (by omega)
        have h1 := hat 0 (by omega)
        simpa [Addr.add] using World.cell?_spot (v := .int .i64 A.fr) (by simpa [Addr.add] using h1)
      subst hspot
      obtain ⟨As, hl, hAs⟩ := list_of_forall l (fun i A => WordAt w g (o + i * 4) A) fun i hi => by
        obtain ⟨A, hat⟩ := key i hi
        have hat' : ∀ j, j < 4 → w.cell? ⟨g, o + i * 4 + j, none⟩ = [Value.int .i64 A.fr, .int .i64 A.ix, .int .i64 A.fl, .int .i64 A.pp][j]? := fun j hj => by have := hat j hj; rwa [Addr.add_mid, Addr.add_mid] at this
        exact ⟨A, hat' 0 (by omega), hat' 1 (by omega), hat' 2 (by omega), hat' 3 (by omega)⟩
      exact ⟨As, hl, .inr ⟨g, o, rfl, hAs⟩⟩
end Go.Proofs.Ytomkhdefjfjlnaa
