/- Layer 8: what is done to places, as plain lists of their states. Over no program. -/
import Derived.Test.YthpjggghdaelbaaSWord
namespace Go.Proofs.Ythpjggghdaelbaa

def stL (L : List Int) (i : Int) : Int := if 0 ≤ i ∧ i < L.length then L.getD i.toNat 0 else -1
def usedB (L : List Int) (j : Nat) : Bool := decide (L.getD j 0 ≠ 0)
def badB (L : List Int) (j : Nat) : Bool := decide (L.getD j 0 = 2)
def mOf (L : List Int) : Nat := (L.length + 63) / 64
structure GoodL (L : List Int) : Prop where
  len : L.length ≤ 256
  each : ∀ x, x ∈ L → x = 0 ∨ x = 1 ∨ x = 2
def FreeRun (L : List Int) (j k : Nat) : Prop := j + k ≤ L.length ∧ ∀ h, j ≤ h → h < j + k → L.getD h 0 = 0
def runAt (L : List Int) (k j : Nat) : Bool := decide (j + k ≤ L.length) && (List.range k).all fun h => decide (L.getD (j + h) 0 = 0)
def runN (L : List Int) (k : Nat) : Option Nat := (List.range (L.length + 1)).find? (runAt L k)
def runL (L : List Int) (k : Int) : Option Nat := if 1 ≤ k then runN L k.toNat else none
def markL (L : List Int) (j : Nat) : Nat → List Int
  | 0 => L
  | k + 1 => (markL L j k).set (j + k) 1
structure SR where
  n : Int
  b : Bool
  L : List Int
def takeL (L : List Int) (k : Int) : SR := match runL L k with | some j => ⟨j, true, markL L j k.toNat⟩ | none => ⟨0, false, L⟩
def giveL (L : List Int) (i : Int) : SR := if stL L i = 1 then ⟨0, true, L.set i.toNat 0⟩ else ⟨0, false, L⟩
def spoilL (L : List Int) (i : Int) : SR := if stL L i = 0 ∨ stL L i = 1 then ⟨0, true, L.set i.toNat 2⟩ else ⟨0, false, L⟩
def countL (L : List Int) (s : Int) : Int := (L.countP fun v => v == s : Nat)

section
variable {L : List Int}
theorem getD_get {j : Nat} {x : Int} (h : L[j]? = some x) : L.getD j 0 = x := by simp [List.getD, h]
theorem getD_out {j : Nat} (h : L.length ≤ j) : L.getD j 0 = 0 := by simp [List.getD, List.getElem?_eq_none h]
theorem get_getD {j : Nat} (h : j < L.length) : L[j]? = some (L.getD j 0) := by simp [List.getD, List.getElem?_eq_getElem h]
theorem getD_set (i j : Nat) (x : Int) (hi : i < L.length) : (L.set i x).getD j 0 = if j = i then x else L.getD j 0 := by
  unfold List.getD
  rw [List.getElem?_set]
  by_cases h : i = j
  · subst h; simp [hi]
  · have : ¬ j = i := fun e => h e.symm
    simp [h, this]
theorem GoodL.at (h : GoodL L) (j : Nat) : L.getD j 0 = 0 ∨ L.getD j 0 = 1 ∨ L.getD j 0 = 2 := by
  by_cases hj : j < L.length
  · exact h.each _ (List.mem_of_getElem? (get_getD hj))
  · left; exact getD_out (by omega)
theorem GoodL.set (h : GoodL L) (i : Nat) {x : Int} (hx : x = 0 ∨ x = 1 ∨ x = 2) : GoodL (L.set i x) :=
  ⟨by rw [List.length_set]; exact h.len, fun y hy => (List.mem_or_eq_of_mem_set hy).elim (h.each y) fun e => e ▸ hx⟩
theorem GoodL.new (n : Nat) (h : n ≤ 256) : GoodL (List.replicate n 0) := ⟨by rw [List.length_replicate]; exact h, fun x hx => .inl (List.mem_replicate.1 hx).2⟩
theorem mOf_le (h : GoodL L) : mOf L ≤ 4 := by have := h.len; unfold mOf; omega
theorem lt_mOf {i : Nat} (h : i < L.length) : i < 64 * mOf L := by unfold mOf; omega
theorem mOf_set (i : Nat) (x : Int) : mOf (L.set i x) = mOf L := by unfold mOf; rw [List.length_set]
theorem stL_in {i : Nat} (h : i < L.length) : stL L i = L.getD i 0 := by unfold stL; rw [if_pos (by omega), Int.toNat_natCast]
theorem stL_out {i : Int} (h : ¬ (0 ≤ i ∧ i < L.length)) : stL L i = -1 := if_neg h
theorem stL_ge (h : GoodL L) (i : Int) : -1 ≤ stL L i ∧ stL L i ≤ 2 := by
  unfold stL
  split
  · rcases h.at i.toNat with e | e | e <;> rw [e] <;> decide
  · decide
/-- A place that there is. -/
theorem stL_lives {i : Int} (h : stL L i ≠ -1) : ∃ k : Nat, i = k ∧ k < L.length ∧ stL L i = L.getD k 0 := by
  unfold stL at h ⊢
  split at h
  · rename_i hi
    rw [if_pos hi]
    exact ⟨i.toNat, by omega, by omega, rfl⟩
  · exact absurd rfl h

theorem runAt_iff {k j : Nat} : runAt L k j = true ↔ FreeRun L j k := by
  unfold runAt FreeRun
  rw [Bool.and_eq_true, decide_eq_true_iff, List.all_eq_true]
  refine and_congr Iff.rfl ⟨fun h x h1 h2 => ?_, fun h x hx => ?_⟩
  · have := h (x - j) (List.mem_range.2 (by omega))
    rw [decide_eq_true_iff, show j + (x - j) = x by omega] at this
    exact this
  · have := List.mem_range.1 hx
    exact decide_eq_true (h (j + x) (by omega) (by omega))
theorem runN_some {k j : Nat} (h : FreeRun L j k) (hn : ∀ i, i < j → ¬ FreeRun L i k) : runN L k = some j := by
  unfold runN
  rw [List.find?_range_eq_some]
  refine ⟨runAt_iff.2 h, List.mem_range.2 (by have := h.1; omega), fun i hi => ?_⟩
  have := hn i hi
  rw [← runAt_iff] at this
  simpa using this
theorem runN_none {k : Nat} (h : ∀ i, ¬ FreeRun L i k) : runN L k = none := by
  unfold runN
  rw [List.find?_eq_none]
  intro i _ hi
  exact h i (runAt_iff.1 hi)
theorem runN_is {k j : Nat} (h : runN L k = some j) : FreeRun L j k ∧ ∀ i, i < j → ¬ FreeRun L i k := by
  unfold runN at h
  rw [List.find?_range_eq_some] at h
  refine ⟨runAt_iff.1 h.1, fun i hi hf => ?_⟩
  have := h.2.2 i hi
  rw [runAt_iff.2 hf] at this
  cases this
theorem runN_not {k : Nat} (h : runN L k = none) (i : Nat) : ¬ FreeRun L i k := fun hf => by
  unfold runN at h
  rw [List.find?_eq_none] at h
  exact h i (List.mem_range.2 (by have := hf.1; omega)) (runAt_iff.2 hf)

theorem mark_len (j k : Nat) : (markL L j k).length = L.length := by
  induction k with
  | zero => rfl
  | succ k ih => rw [markL, List.length_set, ih]
theorem mark_good (h : GoodL L) (j k : Nat) : GoodL (markL L j k) := by
  induction k with
  | zero => exact h
  | succ k ih => exact ih.set _ (.inr (.inl rfl))
theorem mark_get (j k : Nat) (h : j + k ≤ L.length) (i : Nat) : (markL L j k).getD i 0 = if j ≤ i ∧ i < j + k then 1 else L.getD i 0 := by
  induction k with
  | zero => rw [if_neg (by omega)]; rfl
  | succ k ih =>
    rw [markL, getD_set _ _ _ (by rw [mark_len]; omega), ih (by omega)]
    by_cases h1 : i = j + k
    · rw [if_pos h1, if_pos (by omega)]
    · rw [if_neg h1]
      by_cases h2 : j ≤ i ∧ i < j + k
      · rw [if_pos h2, if_pos (by omega)]
      · rw [if_neg h2, if_neg (by omega)]
theorem take_good (h : GoodL L) (k : Int) : GoodL (takeL L k).L := by
  unfold takeL
  split
  · exact mark_good h _ _
  · exact h
theorem give_good (h : GoodL L) (i : Int) : GoodL (giveL L i).L := by
  unfold giveL
  split
  · exact h.set _ (.inl rfl)
  · exact h
theorem spoil_good (h : GoodL L) (i : Int) : GoodL (spoilL L i).L := by
  unfold spoilL
  split
  · exact h.set _ (.inr (.inr rfl))
  · exact h
theorem take_len (k : Int) : (takeL L k).L.length = L.length := by
  unfold takeL
  split
  · exact mark_len _ _
  · rfl
theorem give_len (i : Int) : (giveL L i).L.length = L.length := by
  unfold giveL
  split
  · exact List.length_set
  · rfl
theorem spoil_len (i : Int) : (spoilL L i).L.length = L.length := by
  unfold spoilL
  split
  · exact List.length_set
  · rfl

theorem count_take {j : Nat} {x : Int} (h : L[j]? = some x) (s : Int) : countL (L.take (j + 1)) s = countL (L.take j) s + if x = s then 1 else 0 := by
  have hj := (List.getElem?_eq_some_iff.1 h).1
  unfold countL
  rw [List.take_add_one, h, Option.toList_some, List.countP_append]
  by_cases e : x = s
  · rw [if_pos e]; simp [List.countP_cons, e]
  · rw [if_neg e]; simp [List.countP_cons, e]
theorem count_le (s : Int) : 0 ≤ countL L s ∧ countL L s ≤ L.length := by
  unfold countL
  have := List.countP_le_length (p := fun v => v == s) (l := L)
  omega
theorem count_all (h : GoodL L) : countL L 0 + countL L 1 + countL L 2 = L.length := by
  have key : ∀ M : List Int, (∀ x, x ∈ M → x = 0 ∨ x = 1 ∨ x = 2) → countL M 0 + countL M 1 + countL M 2 = M.length := by
    intro M
    induction M with
    | nil => intro _; rfl
    | cons x M ih =>
      intro hM
      have h1 := ih fun y hy => hM y (by simp [hy])
      unfold countL at h1 ⊢
      rcases hM x (by simp) with e | e | e <;> subst e <;> simp [List.countP_cons] <;> omega
  exact key L h.each
theorem count_none {s : Int} (h : GoodL L) (hs : s ≠ 0) (hs1 : s ≠ 1) (hs2 : s ≠ 2) : countL L s = 0 := by
  unfold countL
  have : L.countP (fun v => v == s) = 0 := by
    rw [List.countP_eq_zero]
    intro x hx
    rcases h.each x hx with e | e | e <;> subst e <;> simp <;> omega
  rw [this]; rfl
/-- The count behind one place's change. -/
theorem count_set {i : Nat} {x y s : Int} (h : L[i]? = some x) : countL (L.set i y) s = countL L s - (if x = s then 1 else 0) + if y = s then 1 else 0 := by
  have hi := (List.getElem?_eq_some_iff.1 h).1
  have hx := (List.getElem?_eq_some_iff.1 h).2
  unfold countL
  have e1 := congrArg (List.countP fun v => v == s) (List.take_append_drop i L)
  rw [List.countP_append, List.drop_eq_getElem_cons hi, hx, List.countP_cons] at e1
  rw [List.set_eq_take_append_cons_drop, if_pos hi, List.countP_append, List.countP_cons]
  by_cases a : x = s <;> by_cases b : y = s <;> simp [a, b] at e1 ⊢ <;> omega
end
end Go.Proofs.Ythpjggghdaelbaa
