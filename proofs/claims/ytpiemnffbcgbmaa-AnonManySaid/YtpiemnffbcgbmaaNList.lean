/- Layer 12: what is done to anons, as a plain list: place i has number i + 1; one without references is none. Over no program. -/
import Derived.Test.YtpiemnffbcgbmaaPBits
namespace Go.Proofs.Ytpiemnffbcgbmaa
set_option linter.unusedVariables false

/-- An anon: references, frame, slot. -/
structure AnV where
  re : Int
  fr : Int
  sl : Int
def zeroN : AnV := ⟨0, 0, 0⟩
def liveB (L : List AnV) (i : Nat) : Bool := match L[i]? with | some x => x.re != 0 | none => false
def idsTo (L : List AnV) (n : Nat) : List Int := ((List.range n).filter (liveB L)).map fun i : Nat => (i : Int) + 1
def freeTo (L : List AnV) (n : Nat) : List Int := ((List.range n).filter fun i => !liveB L i).map fun i : Nat => (i : Int) + 1
def idsN (L : List AnV) : List Int := idsTo L L.length
def getN (L : List AnV) (id : Int) : Option AnV := if 1 ≤ id ∧ id ≤ L.length then (match L[(id - 1).toNat]? with | some x => if x.re = 0 then none else some x | none => none) else none
def reOf (L : List AnV) (id : Int) : Int := match getN L id with | some x => x.re | none => 0
def sumN (L : List AnV) : Int := (L.map AnV.re).sum
def firstN (L : List AnV) : Nat := L.findIdx fun x => x.re == 0
def putL (L : List AnV) (i : Nat) (x : AnV) : List AnV := if i < L.length then L.set i x else L ++ [x]
structure NR where
  n : Int
  e : Int
  L : List AnV
def makeN (most : Nat) (L : List AnV) (f : Int) : NR := if most ≤ (idsN L).length then ⟨0, 5, L⟩ else ⟨(firstN L : Int) + 1, 0, putL L (firstN L) ⟨1, f, -1⟩⟩
structure NA where
  x : AnV
  e : Int
  L : List AnV
def mayN (r b : Int) : Prop := -r ≤ b ∧ b ≤ 1000000 - r
instance (r b : Int) : Decidable (mayN r b) := inferInstanceAs (Decidable (_ ∧ _))
def refN (L : List AnV) (id b : Int) : NA :=
  match getN L id with
  | none => ⟨zeroN, 7, L⟩
  | some x => if mayN x.re b then ⟨⟨x.re + b, x.fr, x.sl⟩, 0, L.set (id - 1).toNat ⟨x.re + b, x.fr, x.sl⟩⟩ else ⟨zeroN, 2, L⟩
def putN (L : List AnV) (id f s : Int) : NR :=
  match getN L id with
  | none => ⟨0, 7, L⟩
  | some x => ⟨0, 0, L.set (id - 1).toNat ⟨x.re, f, s⟩⟩

structure GoodX (x : AnV) : Prop where
  r0 : 0 ≤ x.re
  r1 : x.re ≤ 1000000
  fr : okI x.fr
  sl : okI x.sl
structure GoodN (most : Nat) (L : List AnV) : Prop where
  len : L.length ≤ most
  most : most ≤ 4096
  each : ∀ x, x ∈ L → GoodX x

section
variable {L : List AnV} {most i : Nat} {x y : AnV} {id : Int}
theorem live_some (h : L[i]? = some x) : liveB L i = (x.re != 0) := by unfold liveB; rw [h]
theorem live_out (h : L.length ≤ i) : liveB L i = false := by unfold liveB; rw [List.getElem?_eq_none h]
theorem live_lt (h : liveB L i = true) : i < L.length := by
  rcases Nat.lt_or_ge i L.length with h1 | h1
  · exact h1
  · rw [live_out h1] at h; cases h
theorem live_get (h : liveB L i = true) : ∃ x, L[i]? = some x ∧ x.re ≠ 0 := by
  have h1 := live_lt h
  refine ⟨L[i], List.getElem?_eq_getElem h1, ?_⟩
  rw [live_some (List.getElem?_eq_getElem h1)] at h
  simpa using h
theorem idsTo_succ (L : List AnV) (n : Nat) : idsTo L (n + 1) = idsTo L n ++ if liveB L n = true then [(n : Int) + 1] else [] := by
  unfold idsTo
  rw [List.range_succ, List.filter_append, List.map_append]
  congr 1
  cases h : liveB L n <;> simp [h]
theorem freeTo_succ (L : List AnV) (n : Nat) : freeTo L (n + 1) = freeTo L n ++ if liveB L n = true then [] else [(n : Int) + 1] := by
  unfold freeTo
  rw [List.range_succ, List.filter_append, List.map_append]
  congr 1
  cases h : liveB L n <;> simp [h]
theorem idsTo_ge {n : Nat} (h : L.length ≤ n) : idsTo L n = idsN L := by
  induction n with
  | zero => have : L.length = 0 := by omega
            unfold idsN; rw [this]
  | succ n ih =>
    by_cases e : L.length = n + 1
    · unfold idsN; rw [e]
    · rw [idsTo_succ, ih (by omega), live_out (by omega)]
      simp
theorem ids_free (L : List AnV) (n : Nat) : (idsTo L n).length + (freeTo L n).length = n := by
  induction n with
  | zero => rfl
  | succ n ih =>
    rw [idsTo_succ, freeTo_succ]
    cases h : liveB L n <;> simp <;> omega
theorem mem_idsTo {n : Nat} : id ∈ idsTo L n ↔ ∃ i : Nat, i < n ∧ liveB L i = true ∧ id = (i : Int) + 1 := by
  unfold idsTo
  rw [List.mem_map]
  constructor
  · rintro ⟨i, hi, rfl⟩
    obtain ⟨h1, h2⟩ := List.mem_filter.1 hi
    exact ⟨i, List.mem_range.1 h1, h2, rfl⟩
  · rintro ⟨i, h1, h2, rfl⟩
    exact ⟨i, List.mem_filter.2 ⟨List.mem_range.2 h1, h2⟩, rfl⟩
theorem mem_freeTo {n : Nat} : id ∈ freeTo L n ↔ ∃ i : Nat, i < n ∧ liveB L i = false ∧ id = (i : Int) + 1 := by
  unfold freeTo
  rw [List.mem_map]
  constructor
  · rintro ⟨i, hi, rfl⟩
    obtain ⟨h1, h2⟩ := List.mem_filter.1 hi
    exact ⟨i, List.mem_range.1 h1, by simpa using h2, rfl⟩
  · rintro ⟨i, h1, h2, rfl⟩
    exact ⟨i, List.mem_filter.2 ⟨List.mem_range.2 h1, by simp [h2]⟩, rfl⟩
theorem ids_sorted (L : List AnV) (n : Nat) : (idsTo L n).Pairwise (· < ·) := by
  unfold idsTo
  rw [List.pairwise_map]
  refine (List.Pairwise.filter _ List.pairwise_lt_range).imp fun h => by omega
theorem ids_nodup (L : List AnV) (n : Nat) : (idsTo L n).Nodup := (ids_sorted L n).imp fun h => by omega
theorem free_nodup (L : List AnV) (n : Nat) : (freeTo L n).Nodup := by
  unfold freeTo
  refine List.pairwise_map.2 ((List.Pairwise.filter _ List.nodup_range).imp fun h => by omega)
theorem get_live (h : liveB L i = true) : ∃ x, L[i]? = some x ∧ x.re ≠ 0 ∧ getN L ((i : Int) + 1) = some x := by
  obtain ⟨x, hx, h0⟩ := live_get h
  have := live_lt h
  refine ⟨x, hx, h0, ?_⟩
  unfold getN
  rw [if_pos (by omega), show ((i : Int) + 1 - 1).toNat = i by omega, hx]
  exact if_neg h0
theorem get_dead (h : liveB L i = false) : getN L ((i : Int) + 1) = none := by
  unfold getN
  split
  · rename_i h1
    rw [show ((i : Int) + 1 - 1).toNat = i by omega]
    unfold liveB at h
    cases hx : L[i]? with
    | none => rfl
    | some x =>
      rw [hx] at h
      simp only [bne_eq_false_iff_eq] at h
      exact if_pos h
  · rfl
theorem get_out (h : ¬ (1 ≤ id ∧ id ≤ L.length)) : getN L id = none := by unfold getN; rw [if_neg h]
/-- Either there is one of that number, or none. -/
theorem get_cases (L : List AnV) (id : Int) : (getN L id = none ∧ id ∉ idsN L) ∨ ∃ (i : Nat) (x : AnV), id = (i : Int) + 1 ∧ i < L.length ∧ L[i]? = some x ∧ x.re ≠ 0 ∧ getN L id = some x ∧ liveB L i = true ∧ (id - 1).toNat = i := by
  by_cases h : 1 ≤ id ∧ id ≤ L.length
  · obtain ⟨i, rfl⟩ : ∃ i : Nat, id = (i : Int) + 1 := ⟨(id - 1).toNat, by omega⟩
    cases hl : liveB L i with
    | false =>
      refine .inl ⟨get_dead hl, fun hm => ?_⟩
      obtain ⟨k, _, h2, h3⟩ := mem_idsTo.1 hm
      have : k = i := by omega
      rw [this, hl] at h2
      cases h2
    | true =>
      obtain ⟨x, h1, h2, h3⟩ := get_live hl
      exact .inr ⟨i, x, rfl, by omega, h1, h2, h3, hl, by omega⟩
  · refine .inl ⟨get_out h, fun hm => h ?_⟩
    obtain ⟨k, h1, _, h3⟩ := mem_idsTo.1 hm
    omega
theorem get_mem {x : AnV} (h : getN L id = some x) : id ∈ idsN L := by
  rcases get_cases L id with ⟨h0, _⟩ | ⟨i, y, rfl, h1, _, _, _, h5, _⟩
  · rw [h0] at h; cases h
  · exact mem_idsTo.2 ⟨i, h1, h5, rfl⟩
theorem mem_get (h : id ∈ idsN L) : ∃ x, getN L id = some x := by
  rcases get_cases L id with ⟨_, h0⟩ | ⟨i, y, _, _, _, _, h4, _⟩
  · exact absurd h h0
  · exact ⟨y, h4⟩

/-! ### what a change of one place makes of the numbers -/
theorem filter_flip {p q : Nat → Bool} {n i : Nat} (hi : i < n) (hp : p i = true) (hq : q i = false) (h : ∀ j, j ≠ i → p j = q j) : ((List.range n).filter p).Perm (i :: (List.range n).filter q) := by
  induction n with
  | zero => omega
  | succ n ih =>
    rw [List.range_succ, List.filter_append, List.filter_append]
    by_cases e : i = n
    · subst e
      have h1 : (List.range i).filter p = (List.range i).filter q := List.filter_congr fun j hj => h j (by have := List.mem_range.1 hj; omega)
      rw [h1]
      simp [hp, hq]
    · have h1 : [n].filter p = [n].filter q := List.filter_congr fun j hj => h j (by simp at hj; omega)
      rw [h1]
      exact (ih (by omega)).append_right _
theorem putL_live (h : i ≤ L.length) (j : Nat) : liveB (putL L i x) j = if j = i then x.re != 0 else liveB L j := by
  unfold putL
  by_cases h1 : i < L.length
  · rw [if_pos h1]
    by_cases e : j = i
    · subst e
      rw [if_pos rfl, live_some (x := x) (by rw [List.getElem?_set_self h1])]
    · rw [if_neg e]
      unfold liveB
      rw [List.getElem?_set_ne (fun h => e h.symm)]
  · rw [if_neg h1]
    have e : i = L.length := by omega
    subst e
    by_cases e : j = L.length
    · subst e
      rw [if_pos rfl, live_some (x := x) (by simp)]
    · rw [if_neg e]
      unfold liveB
      by_cases h2 : j < L.length
      · rw [List.getElem?_append_left h2]
      · rw [List.getElem?_eq_none (by simp; omega), List.getElem?_eq_none (by omega)]
theorem putL_set (h : i < L.length) : putL L i x = L.set i x := if_pos h
theorem putL_len (h : i ≤ L.length) : L.length ≤ (putL L i x).length ∧ (putL L i x).length ≤ L.length + 1 ∧ (i < L.length → (putL L i x).length = L.length) := by
  unfold putL
  split
  · rw [List.length_set]; omega
  · simp; omega
theorem putL_get (h : i ≤ L.length) (j : Nat) : (putL L i x)[j]? = if j = i then some x else L[j]? := by
  unfold putL
  by_cases h1 : i < L.length
  · rw [if_pos h1]
    by_cases e : j = i
    · subst e; rw [if_pos rfl, List.getElem?_set_self h1]
    · rw [if_neg e, List.getElem?_set_ne (fun h => e h.symm)]
  · rw [if_neg h1]
    have e : i = L.length := by omega
    subst e
    by_cases e : j = L.length
    · subst e; simp
    · rw [if_neg e]
      by_cases h2 : j < L.length
      · rw [List.getElem?_append_left h2]
      · rw [List.getElem?_eq_none (by simp; omega), List.getElem?_eq_none (by omega)]
/-- One comes. -/
theorem come_ids (hi : i ≤ L.length) (hd : liveB L i = false) (hx : x.re ≠ 0) : (idsN (putL L i x)).Perm (((i : Int) + 1) :: idsN L) := by
  have hl := putL_len (x := x) hi
  rw [← idsTo_ge (L := putL L i x) (n := L.length + 1) hl.2.1, ← idsTo_ge (L := L) (n := L.length + 1) (by omega)]
  unfold idsTo
  rw [show ((i : Int) + 1) :: ((List.range (L.length + 1)).filter (liveB L)).map (fun i : Nat => (i : Int) + 1) = (i :: (List.range (L.length + 1)).filter (liveB L)).map (fun i : Nat => (i : Int) + 1) from rfl]
  refine List.Perm.map _ (filter_flip (by omega) ?_ hd fun j hj => ?_)
  · rw [putL_live hi, if_pos rfl]; simpa using hx
  · rw [putL_live hi, if_neg hj]
theorem come_free (hi : i ≤ L.length) (him : i < most) (hd : liveB L i = false) (hx : x.re ≠ 0) : (freeTo L most).Perm (((i : Int) + 1) :: freeTo (putL L i x) most) := by
  unfold freeTo
  rw [show ((i : Int) + 1) :: ((List.range most).filter (fun j => !liveB (putL L i x) j)).map (fun i : Nat => (i : Int) + 1) = (i :: (List.range most).filter (fun j => !liveB (putL L i x) j)).map (fun i : Nat => (i : Int) + 1) from rfl]
  refine List.Perm.map _ (filter_flip him (by rw [hd]; rfl) ?_ fun j hj => ?_)
  · rw [putL_live hi, if_pos rfl]; simpa using hx
  · rw [putL_live hi, if_neg hj]
/-- One goes. -/
theorem go_ids (hi : i < L.length) (hd : liveB L i = true) (hx : x.re = 0) : (idsN L).Perm (((i : Int) + 1) :: idsN (L.set i x)) := by
  rw [← putL_set hi]
  have hl := putL_len (x := x) (Nat.le_of_lt hi)
  unfold idsN
  rw [hl.2.2 hi]
  unfold idsTo
  rw [show ((i : Int) + 1) :: ((List.range L.length).filter (liveB (putL L i x))).map (fun i : Nat => (i : Int) + 1) = (i :: (List.range L.length).filter (liveB (putL L i x))).map (fun i : Nat => (i : Int) + 1) from rfl]
  refine List.Perm.map _ (filter_flip hi hd ?_ fun j hj => ?_)
  · rw [putL_live (by omega), if_pos rfl]; simpa using hx
  · rw [putL_live (by omega), if_neg hj]
theorem go_free (hi : i < L.length) (hm : i < most) (hd : liveB L i = true) (hx : x.re = 0) : (freeTo (L.set i x) most).Perm (((i : Int) + 1) :: freeTo L most) := by
  rw [← putL_set hi]
  unfold freeTo
  rw [show ((i : Int) + 1) :: ((List.range most).filter (fun j => !liveB L j)).map (fun i : Nat => (i : Int) + 1) = (i :: (List.range most).filter (fun j => !liveB L j)).map (fun i : Nat => (i : Int) + 1) from rfl]
  refine List.Perm.map _ (filter_flip hm ?_ (by rw [hd]; rfl) fun j hj => ?_)
  · rw [putL_live (by omega), if_pos rfl]; simp [hx]
  · rw [putL_live (by omega), if_neg hj]
/-- One stays. -/
theorem stay_live (hi : i < L.length) (hd : liveB L i = true) (hx : x.re ≠ 0) : liveB (L.set i x) = liveB L := by
  funext j
  rw [← putL_set hi, putL_live (by omega)]
  by_cases e : j = i
  · subst e; rw [if_pos rfl, hd]; simpa using hx
  · rw [if_neg e]
theorem stay_ids (hi : i < L.length) (hd : liveB L i = true) (hx : x.re ≠ 0) : idsN (L.set i x) = idsN L := by
  unfold idsN idsTo
  rw [stay_live hi hd hx, List.length_set]
theorem stay_free (hi : i < L.length) (hd : liveB L i = true) (hx : x.re ≠ 0) : freeTo (L.set i x) most = freeTo L most := by
  unfold freeTo
  rw [stay_live hi hd hx]
/-- What the others are. -/
theorem getN_other (hi : i ≤ L.length) (h : id ≠ (i : Int) + 1) : getN (putL L i x) id = getN L id := by
  have hl := putL_len (x := x) hi
  have hlt : ¬ i < L.length → (putL L i x).length = L.length + 1 := fun h => by unfold putL; rw [if_neg h]; simp
  unfold getN
  by_cases h1 : 1 ≤ id ∧ id ≤ L.length
  · rw [if_pos h1, if_pos (by omega), putL_get hi, if_neg (by omega)]
  · rw [if_neg h1]
    by_cases h2 : 1 ≤ id ∧ id ≤ (putL L i x).length
    · exfalso
      by_cases h3 : i < L.length
      · rw [hl.2.2 h3] at h2; exact h1 h2
      · rw [hlt h3] at h2; omega
    · rw [if_neg h2]
theorem getN_self (hi : i ≤ L.length) (h0 : x.re ≠ 0) : getN (putL L i x) ((i : Int) + 1) = some x := by
  obtain ⟨y, h1, _, h3⟩ := get_live (L := putL L i x) (i := i) (by rw [putL_live hi, if_pos rfl]; simpa using h0)
  rw [putL_get hi, if_pos rfl] at h1
  cases h1
  exact h3

/-! ### the first that is free -/
theorem first_le : firstN L ≤ L.length := List.findIdx_le_length
theorem first_dead : liveB L (firstN L) = false := by
  by_cases h : firstN L < L.length
  · rw [live_some (List.getElem?_eq_getElem h)]
    have : (L[firstN L].re == 0) = true := List.findIdx_getElem (w := h)
    simpa using this
  · exact live_out (by omega)
theorem first_min {j : Nat} (h : j < firstN L) : liveB L j = true := by
  have hj : j < L.length := Nat.lt_of_lt_of_le h first_le
  rw [live_some (List.getElem?_eq_getElem hj)]
  have := List.not_of_lt_findIdx h
  simpa using this
theorem first_is {i : Nat} (hi : i < L.length) (hx : L[i]? = some x) (h0 : x.re = 0) (hm : ∀ (j : Nat) (y : AnV), j < i → L[j]? = some y → y.re ≠ 0) : firstN L = i := by
  have h1 : ¬ firstN L < i := fun h => by
    have h2 := first_dead (L := L)
    have h3 : firstN L < L.length := by omega
    rw [live_some (List.getElem?_eq_getElem h3)] at h2
    simp only [bne_eq_false_iff_eq] at h2
    exact hm _ _ h (List.getElem?_eq_getElem h3) h2
  have h2 : ¬ i < firstN L := fun h => by
    have := first_min h
    rw [live_some hx, h0] at this
    simp at this
  omega
theorem first_none (hm : ∀ (j : Nat) (y : AnV), L[j]? = some y → y.re ≠ 0) : firstN L = L.length := by
  have h1 := first_le (L := L)
  have h2 : ¬ firstN L < L.length := fun h => by
    have h2 := first_dead (L := L)
    rw [live_some (List.getElem?_eq_getElem h)] at h2
    simp only [bne_eq_false_iff_eq] at h2
    exact hm _ _ (List.getElem?_eq_getElem h) h2
  omega
/-- With room there is a free number, and the least of them is the first. -/
theorem first_lt (hg : L.length ≤ most) (h : (idsN L).length < most) : firstN L < most := by
  by_cases h1 : firstN L < L.length
  · omega
  · have h2 := first_le (L := L)
    have h3 : idsN L = (List.range L.length).map fun i : Nat => (i : Int) + 1 := by
      unfold idsN idsTo
      rw [List.filter_eq_self.2 fun j hj => first_min (by have := List.mem_range.1 hj; omega)]
    rw [h3, List.length_map, List.length_range] at h
    omega
theorem free_least (h : id ∈ freeTo L most) : (firstN L : Int) + 1 ≤ id := by
  obtain ⟨i, h1, h2, rfl⟩ := mem_freeTo.1 h
  by_cases h3 : i < firstN L
  · rw [first_min h3] at h2; cases h2
  · omega
theorem free_first (h : firstN L < most) : (firstN L : Int) + 1 ∈ freeTo L most := mem_freeTo.2 ⟨_, h, first_dead, rfl⟩
theorem free_none (hg : L.length ≤ most) : freeTo L most = [] ↔ most ≤ (idsN L).length := by
  have h1 := ids_free L most
  rw [idsTo_ge hg] at h1
  rw [← List.length_eq_zero_iff]
  omega

/-! ### sums -/
theorem sum_set (hx : L[i]? = some x) (y : AnV) : sumN (L.set i y) = sumN L + y.re - x.re := by
  unfold sumN
  induction L generalizing i with
  | nil => simp at hx
  | cons z L ih =>
    cases i with
    | zero =>
      obtain rfl : z = x := by simpa using hx
      simp; omega
    | succ i =>
      have := ih (i := i) (by simpa using hx)
      simp only [List.set_cons_succ, List.map_cons, List.sum_cons]
      omega
theorem sum_put (hi : i ≤ L.length) (hd : liveB L i = false) (x : AnV) : sumN (putL L i x) = sumN L + x.re := by
  unfold putL
  split
  · rename_i h
    have h1 := List.getElem?_eq_getElem h
    rw [sum_set h1]
    rw [live_some h1] at hd
    simp only [bne_eq_false_iff_eq] at hd
    omega
  · unfold sumN; simp
def sumTo (L : List AnV) (n : Nat) : Int := ((L.take n).map AnV.re).sum
theorem sumTo_succ (hx : L[i]? = some x) : sumTo L (i + 1) = sumTo L i + x.re := by
  unfold sumTo
  rw [List.take_add_one, hx]
  simp
theorem sumTo_all : sumTo L L.length = sumN L := by unfold sumTo sumN; rw [List.take_length]
theorem sumTo_bounds (h : ∀ x, x ∈ L → GoodX x) (n : Nat) : 0 ≤ sumTo L n ∧ sumTo L n ≤ 1000000 * n := by
  induction n with
  | zero => unfold sumTo; simp
  | succ n ih =>
    cases hx : L[n]? with
    | none =>
      unfold sumTo at ih ⊢
      rw [List.take_add_one, hx]
      simp at ih ⊢
      omega
    | some x =>
      rw [sumTo_succ hx]
      have hg := h x (List.mem_of_getElem? hx)
      have := hg.r0
      have := hg.r1
      omega
/-- The sum by the numbers. -/
theorem sum_ids (L : List AnV) : ((idsN L).map (reOf L)).sum = sumN L := by
  have key : ∀ n, n ≤ L.length → ((idsTo L n).map (reOf L)).sum = sumTo L n := by
    intro n
    induction n with
    | zero => intro _; rfl
    | succ n ih =>
      intro hn
      obtain ⟨x, hx⟩ : ∃ x, L[n]? = some x := ⟨_, List.getElem?_eq_getElem (by omega)⟩
      rw [idsTo_succ, sumTo_succ hx, List.map_append, List.sum_append, ih (by omega)]
      congr 1
      cases hl : liveB L n with
      | false =>
        rw [live_some hx] at hl
        simp only [bne_eq_false_iff_eq] at hl
        simp [hl]
      | true =>
        obtain ⟨y, h1, h2, h3⟩ := get_live hl
        rw [hx] at h1
        cases h1
        simp [reOf, h3]
  rw [← sumTo_all, ← key _ (Nat.le_refl _)]
  rfl

/-! ### what stays so -/
theorem GoodN.new (h : most ≤ 4096) : GoodN most [] := ⟨Nat.zero_le _, h, fun x hx => by cases hx⟩
theorem GoodN.at (h : GoodN most L) (hx : L[i]? = some x) : GoodX x := h.each x (List.mem_of_getElem? hx)
theorem GoodN.set (h : GoodN most L) (i : Nat) (hx : GoodX x) : GoodN most (L.set i x) :=
  ⟨by rw [List.length_set]; exact h.len, h.most, fun y hy => (List.mem_or_eq_of_mem_set hy).elim (h.each y) fun e => e ▸ hx⟩
theorem GoodN.put (h : GoodN most L) (hi : i ≤ L.length) (him : i < most) (hx : GoodX x) : GoodN most (putL L i x) := by
  by_cases h1 : i < L.length
  · rw [putL_set h1]; exact h.set i hx
  · unfold putL
    rw [if_neg h1]
    exact ⟨by simp; omega, h.most, fun y hy => by
      rcases List.mem_append.1 hy with h2 | h2
      · exact h.each y h2
      · simp at h2; rw [h2]; exact hx⟩
theorem make_good (h : GoodN most L) {f : Int} (hf : okI f) : GoodN most (makeN most L f).L := by
  unfold makeN
  split
  · exact h
  · exact h.put first_le (first_lt h.len (by omega)) ⟨by show (0 : Int) ≤ 1; decide, by show (1 : Int) ≤ 1000000; decide, hf, show okI (-1) from ⟨by decide, by decide⟩⟩
theorem ref_good (h : GoodN most L) (id b : Int) : GoodN most (refN L id b).L := by
  unfold refN
  rcases get_cases L id with ⟨h0, _⟩ | ⟨i, x, _, _, hx, _, h4, _, hi⟩
  · rw [h0]; exact h
  · rw [h4]
    simp only
    split
    · rename_i hm
      have := h.at hx
      exact h.set _ ⟨by have := hm.1; show 0 ≤ x.re + b; omega, by have := hm.2; show x.re + b ≤ 1000000; omega, this.fr, this.sl⟩
    · exact h
theorem put_good (h : GoodN most L) (id : Int) {f s : Int} (hf : okI f) (hs : okI s) : GoodN most (putN L id f s).L := by
  unfold putN
  rcases get_cases L id with ⟨h0, _⟩ | ⟨i, x, _, _, hx, _, h4, _, hi⟩
  · rw [h0]; exact h
  · rw [h4]
    have := h.at hx
    exact h.set _ ⟨this.r0, this.r1, hf, hs⟩
theorem ids_le (h : GoodN most L) : (idsN L).length ≤ most := by
  have := ids_free L L.length
  have := h.len
  unfold idsN
  omega
theorem sum_le (h : GoodN most L) : 0 ≤ sumN L ∧ sumN L ≤ 1000000 * 4096 := by
  have := sumTo_bounds h.each L.length
  rw [sumTo_all] at this
  have := h.len
  have := h.most
  omega
end
end Go.Proofs.Ytpiemnffbcgbmaa
