/- Layer 14: what is done to objects, as a plain list: place i has number i + 1; an object's pages rise. Over no program. -/
import Derived.Test.YtefcefclncbimaaPBits
namespace Go.Proofs.Ytefcefclncbimaa
set_option linter.unusedVariables false

/-- A page: frame, slot, dirty or not. -/
structure PgV where
  fr : Int
  sl : Int
  d : Bool
def zeroP : PgV := ⟨0, 0, false⟩
abbrev PgL := List (Int × PgV)
/-- An object: file, references, pages by their indexes. -/
structure ObV where
  file : Int
  re : Int
  L : PgL
abbrev ObL := List (Option ObV)
def liveO (L : ObL) (i : Nat) : Bool := match L[i]? with | some (some _) => true | _ => false
def idsOTo (L : ObL) (n : Nat) : List Int := ((List.range n).filter (liveO L)).map fun i : Nat => (i : Int) + 1
def idsO (L : ObL) : List Int := idsOTo L L.length
def ofO (L : ObL) (id : Int) : Option ObV := if 1 ≤ id ∧ id ≤ L.length then (match L[(id - 1).toNat]? with | some x => x | none => none) else none
def firstO (L : ObL) : Nat := L.findIdx fun x => x.isNone
def putO (L : ObL) (i : Nat) (x : Option ObV) : ObL := if i < L.length then L.set i x else L ++ [x]
def turnO (L : ObL) (id : Int) (x : Option ObV) : ObL := L.set (id - 1).toNat x
/-- Does place i have that file? -/
def hasF (L : ObL) (f : Int) (i : Nat) : Bool := match L[i]? with | some (some x) => decide (x.file = f ∧ 0 < f) | _ => false
def findO (L : ObL) (f : Int) : Int := match (List.range L.length).find? (hasF L f) with | some i => (i : Int) + 1 | none => 0
structure OR where
  n : Int
  e : Int
  L : ObL
def makeO (most : Nat) (L : ObL) (f : Int) : OR :=
  if f < 0 then ⟨0, 2, L⟩ else if findO L f ≠ 0 then ⟨0, 8, L⟩ else if most ≤ (idsO L).length then ⟨0, 5, L⟩ else ⟨(firstO L : Int) + 1, 0, putO L (firstO L) (some ⟨f, 1, []⟩)⟩
def fileO (L : ObL) (id : Int) : Int := match ofO L id with | some x => x.file | none => 0
/-- One that has nothing is gone. -/
def tidyO (x : ObV) : Option ObV := if x.re = 0 ∧ x.L.length = 0 then none else some x
def mayO (r b : Int) : Prop := -r ≤ b ∧ b ≤ 1000000 - r
instance (r b : Int) : Decidable (mayO r b) := inferInstanceAs (Decidable (_ ∧ _))
def refO (L : ObL) (id b : Int) : OR := match ofO L id with
  | none => ⟨0, 7, L⟩
  | some x => if mayO x.re b then ⟨x.re + b, 0, turnO L id (tidyO ⟨x.file, x.re + b, x.L⟩)⟩ else ⟨0, 2, L⟩
def cutO (l : PgL) (lo hi : Int) : PgL := l.filter fun n => decide (lo ≤ n.1 ∧ n.1 < hi)
def pagesO (L : ObL) (id lo hi : Int) : PgL := match ofO L id with | some x => cutO x.L lo hi | none => []
def lookO (l : PgL) (i : Int) : Option PgV := (l.find? fun n => decide (n.1 = i)).map (·.2)
def getO (L : ObL) (id ix : Int) : Option PgV := match ofO L id with | some x => lookO x.L ix | none => none
def delO (l : PgL) (i : Int) : PgL := l.filter fun n => decide (n.1 ≠ i)
def insO (l : PgL) (i : Int) (x : PgV) : PgL := (l.filter fun n => decide (n.1 < i)) ++ (i, x) :: l.filter fun n => decide (i < n.1)
def dropL (L : ObL) (id ix : Int) : ObL := match ofO L id with
  | none => L
  | some x => if lookO x.L ix = none then L else turnO L id (tidyO ⟨x.file, x.re, delO x.L ix⟩)
def putPO (L : ObL) (id ix : Int) (x : PgV) : OR := match ofO L id with
  | none => ⟨0, 7, L⟩
  | some o => if 0 ≤ ix ∧ ix < 4096 then ⟨0, 0, turnO L id (some ⟨o.file, o.re, insO o.L ix x⟩)⟩ else ⟨0, 2, L⟩

structure GoodPs (l : PgL) : Prop where
  up : l.Pairwise fun a b => a.1 < b.1
  rng : ∀ n, n ∈ l → 0 ≤ n.1 ∧ n.1 < 4096
structure GoodO (x : ObV) : Prop where
  f0 : 0 ≤ x.file
  f1 : x.file ≤ 9223372036854775807
  r0 : 0 ≤ x.re
  r1 : x.re ≤ 1000000
  ps : GoodPs x.L
  some_ : ¬ (x.re = 0 ∧ x.L.length = 0)
structure GoodOs (most : Nat) (L : ObL) : Prop where
  len : L.length ≤ most
  most : most ≤ 4096
  each : ∀ a, some a ∈ L → GoodO a
  uniq : ∀ f i j, hasF L f i = true → hasF L f j = true → i = j

/-! ### pages -/
section
variable {l : PgL} {i lo hi : Int} {x : PgV}
theorem pg_len_lt {l : PgL} {a b : Int} (h : l.Pairwise fun a b => a.1 < b.1) (hr : ∀ n, n ∈ l → a ≤ n.1 ∧ n.1 < b) (hab : a ≤ b) : (l.length : Int) ≤ b - a := by
  induction l generalizing a with
  | nil => simp; omega
  | cons n l ih =>
    obtain ⟨h1, h2⟩ := List.pairwise_cons.1 h
    have h3 := hr n (by simp)
    have h4 := ih (a := n.1 + 1) h2 (fun m hm => by have := h1 m hm; have := hr m (by simp [hm]); omega) (by omega)
    simp only [List.length_cons]
    omega
theorem GoodPs.len (h : GoodPs l) : l.length ≤ 4096 := by
  have := pg_len_lt h.up h.rng (by decide)
  omega
theorem GoodPs.nil : GoodPs [] := ⟨List.Pairwise.nil, fun n h => by cases h⟩
theorem GoodPs.nodup (h : GoodPs l) : (l.map (·.1)).Nodup := List.pairwise_map.2 (h.up.imp fun h => by omega)
theorem GoodPs.filter (h : GoodPs l) (p : Int × PgV → Bool) : GoodPs (l.filter p) := ⟨h.up.filter p, fun n hn => h.rng n ((List.mem_filter.1 hn).1)⟩
theorem GoodPs.ins (h : GoodPs l) (hi : 0 ≤ i ∧ i < 4096) (x : PgV) : GoodPs (insO l i x) := by
  refine ⟨?_, fun n hn => ?_⟩
  · unfold insO
    refine List.pairwise_append.2 ⟨h.up.filter _, List.pairwise_cons.2 ⟨fun n hn => ?_, h.up.filter _⟩, fun a ha b hb => ?_⟩
    · simpa using (List.mem_filter.1 hn).2
    · have h1 : a.1 < i := by simpa using (List.mem_filter.1 ha).2
      rcases List.mem_cons.1 hb with rfl | hb
      · exact h1
      · have h2 : i < b.1 := by simpa using (List.mem_filter.1 hb).2
        omega
  · unfold insO at hn
    rcases List.mem_append.1 hn with hn | hn
    · exact h.rng n ((List.mem_filter.1 hn).1)
    · rcases List.mem_cons.1 hn with rfl | hn
      · exact hi
      · exact h.rng n ((List.mem_filter.1 hn).1)
theorem filter_split (l : PgL) (i : Int) : (l.filter fun n => decide (n.1 ≠ i)).Perm ((l.filter fun n => decide (n.1 < i)) ++ l.filter fun n => decide (i < n.1)) := by
  induction l with
  | nil => exact List.Perm.refl _
  | cons n l ih =>
    rcases Int.lt_trichotomy n.1 i with h | h | h
    · rw [List.filter_cons_of_pos (by simp; omega), List.filter_cons_of_pos (by simpa using h), List.filter_cons_of_neg (by simp; omega)]
      exact ih.cons n
    · rw [List.filter_cons_of_neg (by simpa using h), List.filter_cons_of_neg (by simp; omega), List.filter_cons_of_neg (by simp; omega)]
      exact ih
    · rw [List.filter_cons_of_pos (by simp; omega), List.filter_cons_of_neg (by simp; omega), List.filter_cons_of_pos (by simpa using h)]
      exact (ih.cons n).trans List.perm_middle.symm
theorem ins_perm (l : PgL) (i : Int) (x : PgV) : (insO l i x).Perm ((i, x) :: delO l i) := by
  unfold insO delO
  exact List.perm_middle.trans ((filter_split l i).symm.cons _)
theorem look_some (h : lookO l i = some x) : (i, x) ∈ l := by
  unfold lookO at h
  cases e : l.find? (fun n => decide (n.1 = i)) with
  | none => rw [e] at h; cases h
  | some n =>
    rw [e] at h
    have h1 := List.find?_some e
    have h2 := List.mem_of_find?_eq_some e
    have h3 : n.1 = i := by simpa using h1
    have h4 : n.2 = x := by simpa using h
    rw [← h3, ← h4]
    exact h2
theorem look_none (h : lookO l i = none) : ∀ n, n ∈ l → n.1 ≠ i := by
  unfold lookO at h
  intro n hn e
  have h1 : l.find? (fun n => decide (n.1 = i)) = none := by
    cases e : l.find? (fun n => decide (n.1 = i)) with
    | none => rfl
    | some n => rw [e] at h; cases h
  have := List.find?_eq_none.1 h1 n hn
  simp [e] at this
theorem look_at (h : GoodPs l) (hm : (i, x) ∈ l) : lookO l i = some x := by
  cases e : lookO l i with
  | none => exact absurd rfl (look_none e _ hm)
  | some y =>
    have hy := look_some e
    have : (i, x) = (i, y) := by
      have hp := h.up
      clear e h
      induction l with
      | nil => cases hm
      | cons n l ih =>
        obtain ⟨h1, h2⟩ := List.pairwise_cons.1 hp
        rcases List.mem_cons.1 hm with e1 | hm
        · rcases List.mem_cons.1 hy with e2 | hy
          · rw [e1, e2]
          · have h3 := h1 _ hy; rw [← e1] at h3; simp at h3
        · rcases List.mem_cons.1 hy with e2 | hy
          · have h3 := h1 _ hm; rw [← e2] at h3; simp at h3
          · exact ih hm hy h2
    rw [Prod.mk.injEq] at this
    rw [this.2]
theorem del_none (h : lookO l i = none) : delO l i = l := List.filter_eq_self.2 fun n hn => by simpa using look_none h n hn
theorem del_len (h : lookO l i = some x) : (delO l i).length < l.length := by
  refine Nat.lt_of_le_of_ne (List.length_filter_le _ _) fun e => ?_
  have := List.filter_eq_self.1 (List.filter_sublist.eq_of_length e) _ (look_some h)
  simp at this
/-- Rising rows with the same pages are alike. -/
theorem up_unique {a b : PgL} (ha : a.Pairwise fun a b => a.1 < b.1) (hb : b.Pairwise fun a b => a.1 < b.1) (h : a.Perm b) : a = b :=
  List.Perm.eq_of_pairwise (fun x y hx hy h1 h2 => by omega) ha hb h
end

/-! ### objects -/
section
variable {L : ObL} {most i : Nat} {x y : Option ObV} {a b : ObV} {id s lo hi f : Int}
theorem liveO_some (h : L[i]? = some (some a)) : liveO L i = true := by unfold liveO; rw [h]
theorem liveO_none (h : L[i]? = some none) : liveO L i = false := by unfold liveO; rw [h]
theorem liveO_out (h : L.length ≤ i) : liveO L i = false := by unfold liveO; rw [List.getElem?_eq_none h]
theorem liveO_lt (h : liveO L i = true) : i < L.length := by
  rcases Nat.lt_or_ge i L.length with h1 | h1
  · exact h1
  · rw [liveO_out h1] at h; cases h
theorem live_get (h : liveO L i = true) : ∃ x, L[i]? = some (some x) := by
  unfold liveO at h
  split at h
  · rename_i x hx
    exact ⟨x, hx⟩
  · cases h
theorem idsOTo_succ (L : ObL) (n : Nat) : idsOTo L (n + 1) = idsOTo L n ++ if liveO L n = true then [(n : Int) + 1] else [] := by
  unfold idsOTo
  rw [List.range_succ, List.filter_append, List.map_append]
  congr 1
  cases h : liveO L n <;> simp [h]
theorem ofO_get (h : ofO L id = some a) : 1 ≤ id ∧ id ≤ L.length ∧ L[(id - 1).toNat]? = some (some a) := by
  unfold ofO at h
  split at h
  · rename_i hc
    refine ⟨hc.1, hc.2, ?_⟩
    split at h
    · rename_i x hx
      rw [hx, h]
    · cases h
  · cases h
theorem ofO_at (h : L[i]? = some (some a)) : ofO L ((i : Int) + 1) = some a := by
  have hl := (List.getElem?_eq_some_iff.1 h).1
  unfold ofO
  rw [if_pos (by omega), show ((i : Int) + 1 - 1).toNat = i by omega, h]
theorem ofO_good (h : GoodOs most L) (ha : ofO L id = some a) : GoodO a := h.each a (List.mem_of_getElem? (ofO_get ha).2.2)
/-- Which object a number names, and what that says of the list. -/
theorem of_cases (L : ObL) (id : Int) : (ofO L id = none ∧ (¬ (1 ≤ id ∧ id ≤ L.length) ∨ ∃ i : Nat, id = (i : Int) + 1 ∧ i < L.length ∧ liveO L i = false)) ∨ ∃ (i : Nat) (x : ObV), id = (i : Int) + 1 ∧ i < L.length ∧ L[i]? = some (some x) ∧ ofO L id = some x := by
  by_cases h : 1 ≤ id ∧ id ≤ L.length
  · obtain ⟨i, rfl⟩ : ∃ i : Nat, id = (i : Int) + 1 := ⟨(id - 1).toNat, by omega⟩
    obtain ⟨z, hz⟩ : ∃ z, L[i]? = some z := ⟨_, List.getElem?_eq_getElem (by omega)⟩
    cases z with
    | some x => exact .inr ⟨i, x, rfl, by omega, hz, ofO_at hz⟩
    | none =>
      refine .inl ⟨?_, .inr ⟨i, rfl, by omega, liveO_none hz⟩⟩
      unfold ofO
      rw [if_pos h, show ((i : Int) + 1 - 1).toNat = i by omega, hz]
  · exact .inl ⟨if_neg h, .inl h⟩
theorem turnO_nat {L : ObL} {i : Nat} {x : Option ObV} : turnO L ((i : Int) + 1) x = L.set i x := by unfold turnO; rw [show ((i : Int) + 1 - 1).toNat = i by omega]
theorem mem_set_or {A : Type} {l : List A} {k : Nat} {u v : A} (h : u ∈ l.set k v) : u = v ∨ u ∈ l := (List.mem_or_eq_of_mem_set h).symm
theorem mem_putO (h : some a ∈ putO L i x) : some a = x ∨ some a ∈ L := by
  unfold putO at h
  split at h
  · exact mem_set_or h
  · rcases List.mem_append.1 h with h1 | h1
    · exact .inr h1
    · exact .inl (List.mem_singleton.1 h1)
theorem put_at {x : Option ObV} {j : Nat} (hi : i ≤ L.length) : (putO L i x)[j]? = if j = i then some x else L[j]? := by
  unfold putO
  by_cases h1 : i < L.length
  · rw [if_pos h1]
    by_cases e : j = i
    · subst e; rw [if_pos rfl, List.getElem?_set_self h1]
    · rw [if_neg e, List.getElem?_set_ne (fun h => e h.symm)]
  · rw [if_neg h1]
    have e : i = L.length := by omega
    subst e
    by_cases e : j = L.length
    · subst e; simp
    · rw [if_neg e]
      by_cases h2 : j < L.length
      · rw [List.getElem?_append_left h2]
      · rw [List.getElem?_eq_none (by simp; omega), List.getElem?_eq_none (by omega)]
theorem set_at {x : Option ObV} {j : Nat} : (L.set i x)[j]? = if j = i ∧ i < L.length then some x else L[j]? := by
  rw [List.getElem?_set]
  by_cases e : i = j
  · subst e
    by_cases h : i < L.length
    · rw [if_pos rfl, if_pos h, if_pos ⟨rfl, h⟩]
    · rw [if_pos rfl, if_neg h, if_neg (fun k => h k.2), List.getElem?_eq_none (by omega)]
  · rw [if_neg e, if_neg (fun k => e k.1.symm)]
theorem idsOTo_all {n : Nat} (h : ∀ j, j < n → liveO L j = true) : (idsOTo L n).length = n := by
  induction n with
  | zero => rfl
  | succ n ih => rw [idsOTo_succ, List.length_append, ih (fun j hj => h j (by omega)), if_pos (h n (by omega))]; rfl
theorem idsOTo_le {n : Nat} : (idsOTo L n).length ≤ n := by
  induction n with
  | zero => exact Nat.le_refl _
  | succ n ih =>
    rw [idsOTo_succ, List.length_append]
    split <;> simp <;> omega
theorem ids_le : (idsO L).length ≤ L.length := idsOTo_le
theorem ids_up (L : ObL) (n : Nat) : (idsOTo L n).Pairwise (· < ·) := by
  unfold idsOTo
  rw [List.pairwise_map]
  refine (List.Pairwise.filter _ List.pairwise_lt_range).imp fun h => by omega
theorem first_live {j : Nat} (h : j < firstO L) : liveO L j = true := by
  have hj : j < L.length := Nat.lt_of_lt_of_le h List.findIdx_le_length
  have := List.not_of_lt_findIdx h
  cases e : L[j] with
  | none => rw [e] at this; simp at this
  | some a => exact liveO_some (List.getElem?_eq_some_iff.2 ⟨hj, e⟩)
theorem first_free (h : firstO L < L.length) : L[firstO L]? = some none := by
  have h1 : (L[firstO L]'h).isNone = true := List.findIdx_getElem (w := h)
  rw [List.getElem?_eq_getElem h]
  exact congrArg some (Option.isNone_iff_eq_none.1 h1)
theorem first_le : firstO L ≤ L.length := List.findIdx_le_length
theorem first_dead : liveO L (firstO L) = false := by
  rcases Nat.lt_or_ge (firstO L) L.length with h | h
  · exact liveO_none (first_free h)
  · exact liveO_out h
theorem first_room (hl : L.length ≤ most) (h : ¬ most ≤ (idsO L).length) : firstO L < most := by
  rcases Nat.lt_or_ge (firstO L) L.length with h1 | h1
  · omega
  · have h2 := first_le (L := L)
    have h3 : (idsO L).length = L.length := idsOTo_all fun j hj => first_live (by omega)
    omega
theorem first_eq (h1 : ∀ j, j < i → liveO L j = true) (h2 : liveO L i = false) (h3 : i ≤ L.length) : firstO L = i := by
  rcases Nat.lt_trichotomy (firstO L) i with h | h | h
  · have h4 := h1 _ h
    rw [liveO_none (first_free (by omega))] at h4
    cases h4
  · exact h
  · rw [first_live h] at h2
    cases h2
theorem putO_len : (putO L i x).length = if i < L.length then L.length else L.length + 1 := by
  unfold putO
  split
  · rw [List.length_set]
  · rw [List.length_append]; rfl
theorem live_set_some (h : liveO L i = true) (y : ObV) {j : Nat} : liveO (L.set i (some y)) j = liveO L j := by
  unfold liveO
  rw [set_at]
  by_cases e : j = i
  · subst e
    rw [if_pos ⟨rfl, liveO_lt h⟩]
    exact h.symm
  · rw [if_neg (fun k => e k.1)]
theorem live_set_none {j : Nat} : liveO (L.set i none) j = if j = i then false else liveO L j := by
  unfold liveO
  rw [List.getElem?_set]
  by_cases e : i = j
  · subst e
    rw [if_pos rfl, if_pos rfl]
    by_cases h : i < L.length
    · rw [if_pos h]
    · rw [if_neg h]
  · rw [if_neg e, if_neg (fun k => e k.symm)]
theorem live_put {y : ObV} {j : Nat} (hi : i ≤ L.length) : liveO (putO L i (some y)) j = if j = i then true else liveO L j := by
  unfold liveO
  rw [put_at hi]
  by_cases e : j = i
  · rw [if_pos e, if_pos e]
  · rw [if_neg e, if_neg e]

/-! ### files -/
theorem hasF_some (h : hasF L f i = true) : ∃ x, L[i]? = some (some x) ∧ x.file = f ∧ 0 < f := by
  unfold hasF at h
  split at h
  · rename_i x hx
    exact ⟨x, hx, by simpa using h⟩
  · cases h
theorem hasF_at (h : L[i]? = some (some a)) : hasF L f i = decide (a.file = f ∧ 0 < f) := by unfold hasF; rw [h]
theorem hasF_dead (h : liveO L i = false) : hasF L f i = false := by
  cases e : hasF L f i with
  | false => rfl
  | true => obtain ⟨x, hx, _⟩ := hasF_some e; rw [liveO_some hx] at h; cases h
theorem hasF_zero (h : f ≤ 0) : hasF L f i = false := by
  cases e : hasF L f i with
  | false => rfl
  | true => obtain ⟨x, _, _, h2⟩ := hasF_some e; omega
theorem hasF_lt (h : hasF L f i = true) : i < L.length := by
  obtain ⟨x, hx, _⟩ := hasF_some h
  exact (List.getElem?_eq_some_iff.1 hx).1
theorem find_is (hu : ∀ j, hasF L f j = true → j = i) (h : hasF L f i = true) : findO L f = (i : Int) + 1 := by
  unfold findO
  cases e : (List.range L.length).find? (hasF L f) with
  | none =>
    have := List.find?_eq_none.1 e i (List.mem_range.2 (hasF_lt h))
    exact absurd h this
  | some j =>
    have := hu j (List.find?_some e)
    rw [this]
theorem find_none (h : ∀ i, hasF L f i = false) : findO L f = 0 := by
  unfold findO
  cases e : (List.range L.length).find? (hasF L f) with
  | none => rfl
  | some j => have := List.find?_some e; rw [h j] at this; cases this
theorem find_cases (h : GoodOs most L) (f : Int) : (findO L f = 0 ∧ ∀ i, hasF L f i = false) ∨ ∃ i : Nat, findO L f = (i : Int) + 1 ∧ hasF L f i = true := by
  by_cases hx : ∃ i, hasF L f i = true
  · obtain ⟨i, hi⟩ := hx
    exact .inr ⟨i, find_is (fun j hj => h.uniq f j i hj hi) hi, hi⟩
  · have h0 : ∀ i, hasF L f i = false := fun i => by
      cases e : hasF L f i with
      | false => rfl
      | true => exact absurd ⟨i, e⟩ hx
    exact .inl ⟨find_none h0, h0⟩

/-! ### what stays so -/
theorem GoodOs.new (h : most ≤ 4096) : GoodOs most [] := ⟨Nat.zero_le _, h, (fun x hx => by cases hx), (fun f i j h _ => absurd (hasF_lt h) (Nat.not_lt_zero _))⟩
theorem GoodOs.turn (h : GoodOs most L) (hx : L[i]? = some (some a)) (hy : ∀ b, x = some b → GoodO b ∧ b.file = a.file) : GoodOs most (L.set i x) := by
  have hl := (List.getElem?_eq_some_iff.1 hx).1
  have key : ∀ f j, hasF (L.set i x) f j = true → hasF L f j = true := fun f j hj => by
    obtain ⟨z, h1, h2, h3⟩ := hasF_some hj
    rw [set_at] at h1
    by_cases e : j = i
    · subst e
      rw [if_pos ⟨rfl, hl⟩] at h1
      have h4 : x = some z := by simpa using h1
      rw [hasF_at hx, ← (hy z h4).2]
      simp [h2, h3]
    · rw [if_neg (fun k => e k.1)] at h1
      rw [hasF_at h1]
      simp [h2, h3]
  refine ⟨by rw [List.length_set]; exact h.len, h.most, fun b hb => ?_, fun f j k h1 h2 => h.uniq f j k (key f j h1) (key f k h2)⟩
  rcases mem_set_or hb with e | e
  · exact (hy b e.symm).1
  · exact h.each b e
theorem GoodOs.put (h : GoodOs most L) (hr : ¬ most ≤ (idsO L).length) (ha : GoodO a) (hf : findO L a.file = 0) : GoodOs most (putO L (firstO L) (some a)) := by
  have h0 : ∀ j, hasF L a.file j = false := fun j => by
    rcases find_cases h a.file with ⟨_, h1⟩ | ⟨k, h1, _⟩
    · exact h1 j
    · omega
  have key : ∀ f j, hasF (putO L (firstO L) (some a)) f j = true → (j = firstO L ∧ f = a.file) ∨ hasF L f j = true := fun f j hj => by
    obtain ⟨z, h1, h2, h3⟩ := hasF_some hj
    rw [put_at first_le] at h1
    by_cases e : j = firstO L
    · rw [if_pos e] at h1
      have h4 : a = z := by simpa using h1
      exact .inl ⟨e, by rw [h4, h2]⟩
    · rw [if_neg e] at h1
      exact .inr (by rw [hasF_at h1]; simp [h2, h3])
  refine ⟨?_, h.most, fun b hb => ?_, fun f j k h1 h2 => ?_⟩
  · rw [putO_len]
    have := first_room h.len hr
    have := first_le (L := L)
    split
    · exact h.len
    · omega
  · rcases mem_putO hb with e | e
    · cases e; exact ha
    · exact h.each b e
  · rcases key f j h1 with ⟨e1, e2⟩ | h3
    · rcases key f k h2 with ⟨e3, e4⟩ | h4
      · rw [e1, e3]
      · rw [e2, h0 k] at h4; cases h4
    · rcases key f k h2 with ⟨e3, e4⟩ | h4
      · rw [e4, h0 j] at h3; cases h3
      · exact h.uniq f j k h3 h4
theorem GoodO.tidy (h0 : 0 ≤ a.file ∧ a.file ≤ 9223372036854775807) (h1 : 0 ≤ a.re ∧ a.re ≤ 1000000) (hp : GoodPs a.L) : ∀ b, tidyO a = some b → GoodO b ∧ b.file = a.file := fun b hb => by
  unfold tidyO at hb
  split at hb
  · cases hb
  · rename_i hc
    cases hb
    exact ⟨⟨h0.1, h0.2, h1.1, h1.2, hp, hc⟩, rfl⟩
theorem make_good (h : GoodOs most L) (hf : f ≤ 9223372036854775807) : GoodOs most (makeO most L f).L := by
  unfold makeO
  split
  · exact h
  · split
    · exact h
    · split
      · exact h
      · rename_i h1 h2 h3
        exact h.put h3 ⟨by show 0 ≤ f; omega, hf, (by decide : (0 : Int) ≤ 1), (by decide : (1 : Int) ≤ 1000000), GoodPs.nil, fun k => by have : (1 : Int) = 0 := k.1; omega⟩ (by show findO L f = 0; exact Classical.not_not.1 h2)
theorem ref_good (h : GoodOs most L) (id b : Int) : GoodOs most (refO L id b).L := by
  unfold refO
  rcases of_cases L id with ⟨h0, _⟩ | ⟨i, x, rfl, _, hx, h4⟩
  · rw [h0]; exact h
  · rw [h4]
    have hg := ofO_good h h4
    simp only
    split
    · rename_i hm
      rw [turnO_nat]
      refine h.turn hx fun c hc => GoodO.tidy (a := ⟨x.file, x.re + b, x.L⟩) ⟨hg.f0, hg.f1⟩ ⟨?_, ?_⟩ hg.ps c hc
      · have := hm.1; show 0 ≤ x.re + b; omega
      · have := hm.2; show x.re + b ≤ 1000000; omega
    · exact h
theorem drop_good (h : GoodOs most L) (id ix : Int) : GoodOs most (dropL L id ix) := by
  unfold dropL
  rcases of_cases L id with ⟨h0, _⟩ | ⟨i, x, rfl, _, hx, h4⟩
  · rw [h0]; exact h
  · rw [h4]
    have hg := ofO_good h h4
    simp only
    split
    · exact h
    · rw [turnO_nat]
      exact h.turn hx fun c hc => GoodO.tidy (a := ⟨x.file, x.re, delO x.L ix⟩) ⟨hg.f0, hg.f1⟩ ⟨hg.r0, hg.r1⟩ (hg.ps.filter _) c hc
theorem put_good (h : GoodOs most L) (id ix : Int) (p : PgV) : GoodOs most (putPO L id ix p).L := by
  unfold putPO
  rcases of_cases L id with ⟨h0, _⟩ | ⟨i, x, rfl, _, hx, h4⟩
  · rw [h0]; exact h
  · rw [h4]
    have hg := ofO_good h h4
    simp only
    split
    · rename_i hc
      rw [turnO_nat]
      refine h.turn hx fun c hc2 => ?_
      cases hc2
      refine ⟨⟨hg.f0, hg.f1, hg.r0, hg.r1, hg.ps.ins hc p, fun k => ?_⟩, rfl⟩
      have : (insO x.L ix p).length = 0 := k.2
      unfold insO at this
      rw [List.length_append, List.length_cons] at this
      omega
    · exact h
end
end Go.Proofs.Ytefcefclncbimaa
