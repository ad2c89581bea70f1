/- Layer 12: a heap of numbers as a plain list: below place k stand places 2k+1 and 2k+2, with none that is less. Over no program. -/
import Derived.Test.YtpiemnffbcgbmaaPBits
namespace Go.Proofs.Ytpiemnffbcgbmaa
set_option linter.unusedVariables false

def zat (zs : List Int) (k : Nat) : Int := zs.getD k 0
/-- The order of all but those that the second word leaves out. -/
def HeapOk (zs : List Int) : Prop := ∀ j, 0 < j → j < zs.length → zat zs ((j - 1) / 2) ≤ zat zs j
structure UpOk (zs : List Int) (k : Nat) : Prop where
  lt : k < zs.length
  one : ∀ j, 0 < j → j < zs.length → j ≠ k → zat zs ((j - 1) / 2) ≤ zat zs j
  two : ∀ j, 0 < j → j < zs.length → (j - 1) / 2 = k → 0 < k → zat zs ((k - 1) / 2) ≤ zat zs j
structure DownOk (zs : List Int) (k : Nat) : Prop where
  one : ∀ j, 0 < j → j < zs.length → (j - 1) / 2 ≠ k → zat zs ((j - 1) / 2) ≤ zat zs j
  two : ∀ j, 0 < j → j < zs.length → (j - 1) / 2 = k → 0 < k → zat zs ((k - 1) / 2) ≤ zat zs j
def swapL (zs : List Int) (a b : Nat) : List Int := (zs.set a (zat zs b)).set b (zat zs a)

section
variable {zs : List Int} {k a b : Nat} {n : Int}
theorem zat_get {x : Int} (h : zs[k]? = some x) : zat zs k = x := by unfold zat; rw [List.getD_eq_getElem?_getD, h]; rfl
theorem get_zat (h : k < zs.length) : zs[k]? = some (zat zs k) := by unfold zat; rw [List.getD_eq_getElem?_getD, List.getElem?_eq_getElem h]; rfl
theorem zat_set (x : Int) (h : a < zs.length) : zat (zs.set a x) b = if b = a then x else zat zs b := by
  unfold zat
  rw [List.getD_eq_getElem?_getD, List.getD_eq_getElem?_getD, List.getElem?_set]
  by_cases e : a = b
  · subst e; simp [h]
  · rw [if_neg e, if_neg (fun q => e q.symm)]
theorem zat_swap (ha : a < zs.length) (hb : b < zs.length) (hab : a ≠ b) (j : Nat) : zat (swapL zs a b) j = if j = b then zat zs a else if j = a then zat zs b else zat zs j := by
  unfold swapL
  rw [zat_set _ (by rw [List.length_set]; exact hb), zat_set _ ha]
theorem swap_len : (swapL zs a b).length = zs.length := by unfold swapL; rw [List.length_set, List.length_set]
theorem swap_perm (ha : a < zs.length) (hb : b < zs.length) : (swapL zs a b).Perm zs := by
  unfold swapL zat
  rw [List.getD_eq_getElem?_getD, List.getD_eq_getElem?_getD, List.getElem?_eq_getElem ha, List.getElem?_eq_getElem hb]
  exact List.set_set_perm ha hb

theorem UpOk.done (h : UpOk zs k) (h0 : k = 0 ∨ zat zs ((k - 1) / 2) ≤ zat zs k) : HeapOk zs := fun j j0 jl => by
  by_cases e : j = k
  · subst e
    rcases h0 with h1 | h1
    · omega
    · exact h1
  · exact h.one j j0 jl e
theorem UpOk.step (h : UpOk zs k) (h0 : 0 < k) (hlt : zat zs k < zat zs ((k - 1) / 2)) : UpOk (swapL zs ((k - 1) / 2) k) ((k - 1) / 2) := by
  have hk := h.lt
  have hp : (k - 1) / 2 < k := by omega
  have hS := fun j => zat_swap (zs := zs) (a := (k - 1) / 2) (b := k) (by omega) hk (by omega) j
  refine ⟨by rw [swap_len]; omega, fun j j0 jl jn => ?_, fun j j0 jl je p0 => ?_⟩
  · rw [swap_len] at jl
    rw [hS, hS]
    by_cases e : j = k
    · subst e
      rw [if_neg (by omega), if_pos rfl, if_pos rfl]
      omega
    · rw [if_neg e, if_neg jn]
      have h1 := h.one j j0 jl e
      by_cases e2 : (j - 1) / 2 = k
      · rw [if_pos e2]
        exact h.two j j0 jl e2 h0
      · rw [if_neg e2]
        by_cases e3 : (j - 1) / 2 = (k - 1) / 2
        · rw [if_pos e3]
          rw [e3] at h1
          omega
        · rw [if_neg e3]
          exact h1
  · rw [swap_len] at jl
    rw [hS, hS, if_neg (by omega), if_neg (by omega)]
    have h1 := h.one ((k - 1) / 2) p0 (by omega) (by omega)
    by_cases e : j = k
    · subst e
      rw [if_pos rfl]
      exact h1
    · rw [if_neg e, if_neg (by omega)]
      have h2 := h.one j j0 jl e
      rw [je] at h2
      omega
/-- A number more at the end. -/
theorem UpOk.push (h : HeapOk zs) (n : Int) : UpOk (zs ++ [n]) zs.length := by
  have hz : ∀ j, j < zs.length → zat (zs ++ [n]) j = zat zs j := fun j hj => by
    unfold zat
    rw [List.getD_eq_getElem?_getD, List.getD_eq_getElem?_getD, List.getElem?_append_left hj]
  refine ⟨by simp, fun j j0 jl jn => ?_, fun j j0 jl je p0 => ?_⟩
  · simp at jl
    rw [hz j (by omega), hz _ (by omega)]
    exact h j j0 (by omega)
  · simp at jl
    omega

/-- The place of the least one of k and what stands below it, up to a place. -/
structure Least (zs : List Int) (k b l : Nat) : Prop where
  lt : l = k ∨ (l < b ∧ 2 * k + 1 ≤ l ∧ l < zs.length)
  le : zat zs l ≤ zat zs k
  all : ∀ j, 2 * k + 1 ≤ j → j < b → j < zs.length → zat zs l ≤ zat zs j
theorem Least.start (zs : List Int) (k : Nat) : Least zs k (2 * k + 1) k := ⟨.inl rfl, Int.le_refl _, fun j h1 h2 _ => by omega⟩
theorem Least.less {b l : Nat} (h : Least zs k b l) (hb : b < zs.length) (h1 : 2 * k + 1 ≤ b) (hlt : zat zs b < zat zs l) : Least zs k (b + 1) b :=
  ⟨.inr ⟨by omega, h1, hb⟩, by have := h.le; omega, fun j j1 j2 j3 => by
    by_cases e : j = b
    · subst e; exact Int.le_refl _
    · have := h.all j j1 (by omega) j3; omega⟩
theorem Least.same {b l : Nat} (h : Least zs k b l) (hb : b < zs.length) (hge : ¬ zat zs b < zat zs l) : Least zs k (b + 1) l :=
  ⟨h.lt.imp id fun q => ⟨by omega, q.2⟩, h.le, fun j j1 j2 j3 => by
    by_cases e : j = b
    · subst e; omega
    · exact h.all j j1 (by omega) j3⟩
theorem DownOk.done (h : DownOk zs k) {b : Nat} (hl : Least zs k b k) (hb : 2 * k + 2 < b ∨ zs.length ≤ b) : HeapOk zs := fun j j0 jl => by
  by_cases e : (j - 1) / 2 = k
  · rw [e]
    exact hl.all j (by omega) (by omega) jl
  · exact h.one j j0 jl e
theorem DownOk.step (h : DownOk zs k) {b l : Nat} (hl : Least zs k b l) (hb : 2 * k + 2 < b ∨ zs.length ≤ b) (hb2 : b ≤ 2 * k + 3) (hk : k < zs.length) (hne : l ≠ k) : DownOk (swapL zs l k) l := by
  rcases hl.lt with e | ⟨l1, l2, l3⟩
  · exact absurd e hne
  have hS := fun j => zat_swap (zs := zs) (a := l) (b := k) l3 hk hne j
  have hpl : (l - 1) / 2 = k := by omega
  refine ⟨fun j j0 jl jn => ?_, fun j j0 jl je p0 => ?_⟩
  · rw [swap_len] at jl
    rw [hS, hS, if_neg jn]
    by_cases e : (j - 1) / 2 = k
    · rw [if_pos e]
      by_cases e2 : j = l
      · subst e2
        rw [if_neg (by omega), if_pos rfl]
        exact hl.le
      · rw [if_neg (by omega), if_neg e2]
        exact hl.all j (by omega) (by omega) jl
    · rw [if_neg e]
      by_cases e2 : j = k
      · subst e2
        rw [if_pos rfl]
        exact h.two l (by omega) l3 hpl j0
      · rw [if_neg e2, if_neg (by omega)]
        exact h.one j j0 jl e
  · rw [swap_len] at jl
    rw [hS, hS, hpl, if_pos rfl, if_neg (by omega), if_neg (by omega)]
    have h2 := h.one j j0 jl (by omega)
    rw [je] at h2
    exact h2
theorem DownOk.take (h : HeapOk zs) (m : Nat) (x : Int) (hl : zs.length = m + 1) : DownOk ((zs.set 0 x).take m) 0 := by
  have hz : ∀ j, 0 < j → j < m → zat ((zs.set 0 x).take m) j = zat zs j := fun j h0 hj => by
    unfold zat
    rw [List.getD_eq_getElem?_getD, List.getD_eq_getElem?_getD, List.getElem?_take_of_lt hj, List.getElem?_set_ne (by omega)]
  refine ⟨fun j j0 jl jn => ?_, fun j j0 jl je p0 => by omega⟩
  simp [hl] at jl
  rw [hz j j0 (by omega), hz _ (by omega) (by omega)]
  exact h j j0 (by omega)
theorem take_perm (m : Nat) (hl : zs.length = m + 1) : (zat zs 0 :: (zs.set 0 (zat zs m)).take m).Perm zs := by
  cases zs with
  | nil => simp at hl
  | cons z zs =>
    simp at hl
    cases m with
    | zero =>
      have : zs = [] := List.length_eq_zero_iff.1 hl
      subst this
      exact List.Perm.refl _
    | succ m =>
      have e1 : zat (z :: zs) 0 = z := rfl
      have e2 : zat (z :: zs) (m + 1) = zat zs m := by unfold zat; simp
      rw [e1, e2, List.set_cons_zero, List.take_succ_cons]
      refine List.Perm.cons _ ?_
      have e3 : zs = zs.take m ++ [zat zs m] := by
        have h1 := get_zat (zs := zs) (k := m) (by omega)
        have h2 : zs.take (m + 1) = zs := List.take_of_length_le (by omega)
        have h3 : zs.take (m + 1) = zs.take m ++ [zat zs m] := by rw [List.take_add_one, h1]; rfl
        rw [h2] at h3
        exact h3
      exact (List.perm_append_comm (l₁ := [zat zs m]) (l₂ := zs.take m)).trans (by rw [← e3])
theorem HeapOk.nil : HeapOk [] := fun j _ h => by simp at h
/-- The first one is the least. -/
theorem HeapOk.least (h : HeapOk zs) : ∀ j, j < zs.length → zat zs 0 ≤ zat zs j := by
  intro j
  induction j using Nat.strongRecOn with
  | ind j ih =>
    intro hj
    by_cases e : j = 0
    · subst e; exact Int.le_refl _
    · have h1 := h j (by omega) hj
      have h2 := ih ((j - 1) / 2) (by omega) (by omega)
      omega
end
end Go.Proofs.Ytpiemnffbcgbmaa
