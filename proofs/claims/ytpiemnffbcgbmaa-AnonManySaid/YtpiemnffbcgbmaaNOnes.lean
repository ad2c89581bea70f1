/- Layer 12: lists of anons that are all held once, or not at all. Over no program. -/
import Derived.Test.YtpiemnffbcgbmaaNList
namespace Go.Proofs.Ytpiemnffbcgbmaa
set_option linter.unusedVariables false

def Ones (L : List AnV) : Prop := ∀ x, x ∈ L → x.re = 1
section
variable {L : List AnV} {most i k : Nat} {x : AnV} {f : Int}
theorem Ones.nil : Ones [] := fun x hx => by cases hx
theorem Ones.live (h : Ones L) (hi : i < L.length) : liveB L i = true := by
  have hx := List.getElem?_eq_getElem hi
  rw [live_some hx, h _ (List.mem_of_getElem? hx)]
  rfl
theorem Ones.app (h : Ones L) (f s : Int) : Ones (L ++ [⟨1, f, s⟩]) := fun x hx => by
  rcases List.mem_append.1 hx with q | q
  · exact h x q
  · simp at q; rw [q]
theorem ids_all (h : ∀ i, i < L.length → liveB L i = true) : (idsN L).length = L.length := by
  unfold idsN idsTo
  rw [List.filter_eq_self.2 fun j hj => h j (List.mem_range.1 hj), List.length_map, List.length_range]
theorem first_all (h : ∀ i, i < L.length → liveB L i = true) : firstN L = L.length := by
  have h1 := first_le (L := L)
  have h2 := first_dead (L := L)
  by_cases h3 : firstN L < L.length
  · rw [h _ h3] at h2; cases h2
  · omega
theorem Ones.ids (h : Ones L) : (idsN L).length = L.length := ids_all fun i hi => h.live hi
theorem Ones.make (h : Ones L) (hl : L.length < most) : makeN most L f = ⟨(L.length : Int) + 1, 0, L ++ [⟨1, f, -1⟩]⟩ := by
  unfold makeN
  rw [if_neg (by rw [h.ids]; omega), first_all fun i hi => h.live hi]
  unfold putL
  rw [if_neg (by omega)]
theorem Ones.full (h : Ones L) (hl : L.length = most) : makeN most L f = ⟨0, 5, L⟩ := by
  unfold makeN
  rw [if_pos (by rw [h.ids]; omega)]
theorem Ones.sum (h : Ones L) : sumN L = L.length := by
  unfold sumN
  induction L with
  | nil => rfl
  | cons x L ih =>
    rw [List.map_cons, List.sum_cons, ih fun y hy => h y (List.mem_cons_of_mem _ hy), h x List.mem_cons_self, List.length_cons]
    omega

/-! ### none or one -/
structure Bits (L : List AnV) : Prop where
  each : ∀ x, x ∈ L → x.re = 0 ∨ x.re = 1
theorem Ones.bits (h : Ones L) : Bits L := ⟨fun x hx => .inr (h x hx)⟩
theorem Bits.set (h : Bits L) (i : Nat) (hx : x.re = 0 ∨ x.re = 1) : Bits (L.set i x) := ⟨fun y hy => (List.mem_or_eq_of_mem_set hy).elim (h.each y) fun e => e ▸ hx⟩
theorem Bits.live (h : Bits L) (hx : L[i]? = some x) (hl : liveB L i = true) : x.re = 1 := by
  rw [live_some hx] at hl
  rcases h.each x (List.mem_of_getElem? hx) with e | e
  · rw [e] at hl; cases hl
  · exact e
theorem bit_off (h : Bits L) (hl : liveB L i = true) : ∃ x, L[i]? = some x ∧ refN L ((i : Int) + 1) (-1) = ⟨⟨0, x.fr, x.sl⟩, 0, L.set i ⟨0, x.fr, x.sl⟩⟩ := by
  obtain ⟨x, hx, h0, hg⟩ := get_live hl
  have h1 := h.live hx hl
  refine ⟨x, hx, ?_⟩
  unfold refN
  rw [hg]
  simp only
  rw [if_pos (by unfold mayN; omega), h1, show ((i : Int) + 1 - 1).toNat = i by omega]
  rfl
theorem bit_no (hl : liveB L i = false) (b : Int) : refN L ((i : Int) + 1) b = ⟨zeroN, 7, L⟩ := by
  unfold refN
  rw [get_dead hl]
theorem off_live (hi : i < L.length) (hx : x.re = 0) (j : Nat) : liveB (L.set i x) j = if j = i then false else liveB L j := by
  rw [← putL_set hi, putL_live (by omega), hx]
  rfl
/-- The first that is gone comes again. -/
theorem bit_on (hk : i < L.length) (hm : L.length ≤ most) (hl : liveB L i = false) (hb : ∀ j, j < i → liveB L j = true) : makeN most L f = ⟨(i : Int) + 1, 0, L.set i ⟨1, f, -1⟩⟩ := by
  obtain ⟨x, hx⟩ : ∃ x, L[i]? = some x := ⟨_, List.getElem?_eq_getElem hk⟩
  have h0 : x.re = 0 := by rw [live_some hx] at hl; simpa using hl
  have hfi : firstN L = i := first_is hk hx h0 fun j y hj hy => by
    have := hb j hj
    rw [live_some hy] at this
    simpa using this
  have hroom : ¬ most ≤ (idsN L).length := fun h => by
    have h1 := ids_free L L.length
    have h2 : (i : Int) + 1 ∈ freeTo L L.length := mem_freeTo.2 ⟨i, hk, hl, rfl⟩
    have h3 := List.length_pos_of_mem h2
    unfold idsN at h
    omega
  unfold makeN
  rw [if_neg hroom, hfi, putL_set hk]
theorem on_live (hi : i < L.length) (j : Nat) : liveB (L.set i ⟨1, f, -1⟩) j = if j = i then true else liveB L j := by
  rw [← putL_set hi, putL_live (by omega)]
  rfl
end
end Go.Proofs.Ytpiemnffbcgbmaa
