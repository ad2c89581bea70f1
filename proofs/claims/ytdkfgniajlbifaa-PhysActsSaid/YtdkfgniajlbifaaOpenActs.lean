/- Arguments that are a slice of acts, or two numbers, opened. -/
import Derived.Test.YtdkfgniajlbifaaLight
import Derived.DataReads
namespace Go.Proofs.Ytdkfgniajlbifaa
open Go.ChangeShapes Go.WideShapes Go.ChangeAt Go.RowKit Go.Deep
open Extern.Stop (cell)
set_option linter.unusedVariables false

theorem list_of_forall {α : Type} (l : Nat) (P : Nat → α → Prop) (h : ∀ i, i < l → ∃ a, P i a) : ∃ zs : List α, zs.length = l ∧ ∀ i a, zs[i]? = some a → P i a := by
  induction l with
  | zero => exact ⟨[], rfl, by simp⟩
  | succ l ih =>
    obtain ⟨zs, hl, ha⟩ := ih fun i hi => h i (by omega)
    obtain ⟨b, hb⟩ := h l (by omega)
    refine ⟨zs ++ [b], by simp [hl], fun i a hi => ?_⟩
    by_cases hil : i < l
    · rw [List.getElem?_append_left (by omega)] at hi
      exact ha i a hi
    · rw [List.getElem?_append_right (by omega)] at hi
      have h2 : i - zs.length = 0 := by
        have := (List.getElem?_eq_some_iff.1 hi).1
        simp at this
        omega
      rw [h2] at hi
      simp at hi
      subst hi
      have : i = l := by omega
      rw [this]
      exact hb

theorem list2 {α : Type} {l : List α} (h : l.length = 2) : ∃ a b, l = [a, b] := by
  match l, h with
  | [a, b], _ => exact ⟨a, b, rfl⟩

theorem actAt_of {w : World} {A : ActV} {g p : Nat} {cs : List Value} (h : ActIs w A cs) (hc : ∀ j, j < 5 → w.cell? ⟨g, p + j, none⟩ = cs[j]?) : ActAt w g p A := by
  have e := h.cells
  subst e
  exact ⟨hc 0 (by omega), hc 1 (by omega), hc 2 (by omega), hc 3 (by omega), hc 4 (by omega), h.src, h.v⟩

theorem acts_of_trod {H : Type} {enc : TypeId × Value → H} {w : World} {base : Nat} {spare : Nat → Bool} {held : Bool} {fuel : Nat} {s : Option Addr} {l c : Nat} {x : DataW H × List MemPlace}
    (h : DataW.trod enc Try.prog w base spare held fuel 22 [.slice s l c] = some x) : ∃ As, ActsAre w s l As := by
  have hC : Try.prog.cellsOf 33 = 5 := by kernel_rfl
  rcases DataW.trod_slice Try.underlying22 h with ⟨hcs, _⟩ | ⟨a, len, cap, elems, rest, m, _, hcs, _, _, _, _, hlen, hel, _⟩
  · simp at hcs
    obtain ⟨rfl, rfl, rfl⟩ := hcs
    exact ⟨[], rfl, .inl rfl⟩
  · simp at hcs
    obtain ⟨rfl, rfl, rfl⟩ := hcs
    by_cases h0 : l = 0
    · subst h0
      exact ⟨[], rfl, .inl rfl⟩
    · have key : ∀ i, i < l → ∃ A cs, ActIs w A cs ∧ ∀ j, j < 5 → w.cell? ((a.add (i * 5)).add j) = cs[j]? := by
        intro i hi
        have h1 := hel i hi
        rw [hC] at h1
        have he : elems[i]? = some (elems[i]'(by omega)) := List.getElem?_eq_getElem (by omega)
        rw [he] at h1
        obtain ⟨cs, hcells, htr⟩ := Option.bind_eq_some_iff.1 h1
        obtain ⟨_, _, hat⟩ := World.cells?_some hcells
        obtain ⟨A, hA⟩ := act_of_trod htr
        exact ⟨A, cs, hA, hat⟩
      obtain ⟨g, o, spot⟩ := a
      have hspot : spot = none := by
        obtain ⟨A, cs, hA, hat⟩ := key 0 (by omega)
        have h1 := hat 0 (by omega)
        rw [hA.cells] at h1
        simpa [Addr.add] using World.cell?_spot (v := .int .i64 A.k) (by simpa [Addr.add] using h1)
      subst hspot
      obtain ⟨As, hl, hAs⟩ := list_of_forall l (fun i A => ActAt w g (o + i * 5) A) fun i hi => by
        obtain ⟨A, cs, hA, hat⟩ := key i hi
        exact ⟨A, actAt_of hA fun j hj => by have := hat j hj; rwa [Addr.add_mid, Addr.add_mid] at this⟩
      exact ⟨As, hl, .inr ⟨g, o, rfl, hAs⟩⟩

theorem two_of {H : Type} {enc : TypeId × Value → H} {w w1 : World} {base b0 : Nat} {spare : Nat → Bool} {held : Bool} {r : Reach} {v : Value} {d : DataW H} {p : List MemPlace}
    (h : DataW.Trod enc Try.prog w base spare held 23 v d p) (hv : Value.okWide Try.prog w1 r b0 23 v) : ∃ x y : Int, v = .agg #[.int .i64 x, .int .i64 y] := by
  simp only [Value.okWide, Try.underlying23] at hv
  obtain ⟨cs, rfl, hsz, _⟩ := hv
  have hC : Try.prog.cellsOf 3 = 1 := by kernel_rfl
  have hC2 : Try.prog.cellsOf 23 = 2 := by kernel_rfl
  obtain ⟨fuel, hf⟩ := h
  obtain ⟨xs, m, _, _, hlen, hxs, hel⟩ := DataW.trod_array Try.underlying23 hf
  rw [hC2] at hsz
  simp only [Value.cells] at hel
  have h0 := hel 0 (by omega)
  have h1 := hel 1 (by omega)
  rw [hC] at h0 h1
  have e0 : xs[0]? = some (xs[0]'(by omega)) := List.getElem?_eq_getElem (by omega)
  have e1 : xs[1]? = some (xs[1]'(by omega)) := List.getElem?_eq_getElem (by omega)
  rw [e0] at h0
  rw [e1] at h1
  obtain ⟨l⟩ := cs
  obtain ⟨c0, c1, rfl⟩ := list2 (l := l) (by simpa using hsz)
  obtain ⟨a, ha, _⟩ := int_of_trod Try.underlying3 (v := c0) (by simpa using h0)
  obtain ⟨b, hb, _⟩ := int_of_trod Try.underlying3 (v := c1) (by simpa using h1)
  exact ⟨a, b, by rw [ha, hb]⟩
end Go.Proofs.Ytdkfgniajlbifaa
