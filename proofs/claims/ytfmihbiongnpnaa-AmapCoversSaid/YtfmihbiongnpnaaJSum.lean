/- Layer 11: sums of counts, run by run; two neighbours. Over no program. -/
import Derived.Test.YtfmihbiongnpnaaJRuns
namespace Go.Proofs.Ytfmihbiongnpnaa

/-- The sum of the first items. -/
def sumTo (L : List Int) (k : Nat) : Int := sumJ (L.take k)
section
variable {L : List Int} {a b c : Int} {R A B : List JR} {r s : JR}
theorem sumJ_add (L : List Int) (x : Int) : L.foldl (· + ·) x = x + sumJ L := by
  unfold sumJ
  induction L generalizing x with
  | nil => simp
  | cons y L ih =>
    rw [List.foldl_cons, List.foldl_cons, ih, ih (0 + y)]
    omega
theorem sumJ_snoc (L : List Int) (y : Int) : sumJ (L ++ [y]) = sumJ L + y := by
  unfold sumJ
  rw [List.foldl_append]
  rfl
theorem sumTo_zero : sumTo L 0 = 0 := rfl
theorem sumTo_succ {k : Nat} (h : k < L.length) : sumTo L (k + 1) = sumTo L k + L.getD k 0 := by
  unfold sumTo
  rw [List.take_add_one, List.getElem?_eq_getElem h, Option.toList_some, sumJ_snoc, List.getD_eq_getElem?_getD, List.getElem?_eq_getElem h]
  rfl
theorem sumTo_all : sumTo L L.length = sumJ L := by unfold sumTo; rw [List.take_length]
theorem sumTo_run {k m : Nat} {n : Int} (hk : k + m ≤ L.length) (h : ∀ j : Nat, k ≤ j → j < k + m → L.getD j 0 = n) : sumTo L (k + m) = sumTo L k + n * m := by
  induction m with
  | zero => simp
  | succ m ih =>
    rw [show k + (m + 1) = (k + m) + 1 by omega, sumTo_succ (by omega), ih (by omega) (fun j h1 h2 => h j h1 (by omega)), h (k + m) (by omega) (by omega)]
    rw [show ((m + 1 : Nat) : Int) = (m : Int) + 1 by omega, Int.mul_add, Int.mul_one]
    omega
/-- With one more run. -/
theorem sumTo_side {k m : Nat} (h : ∀ j : Nat, (k : Int) ≤ j → (j : Int) < m → L.getD j 0 = r.n) (hkm : k ≤ m) (hm : m ≤ L.length) : sumTo L m = sumTo L k + r.n * ((m : Int) - k) := by
  obtain ⟨d, rfl⟩ : ∃ d, m = k + d := ⟨m - k, by omega⟩
  rw [sumTo_run (n := r.n) hm fun j h1 h2 => h j (by omega) (by omega)]
  rw [show ((k + d : Nat) : Int) - (k : Int) = (d : Int) by omega]
theorem sumTo_bounds (hL : JOk L) (k : Nat) (hk : k ≤ L.length) : 0 ≤ sumTo L k ∧ sumTo L k ≤ 1000000 * k := by
  induction k with
  | zero => exact ⟨Int.le_refl _, Int.le_refl _⟩
  | succ k ih =>
    obtain ⟨h0, h1⟩ := ih (by omega)
    rw [sumTo_succ (by omega)]
    have h2 := hL.lo _ (getD_mem (show k < L.length by omega))
    have h3 := hL.hi _ (getD_mem (show k < L.length by omega))
    omega
theorem Side.split (h : Side L a (A ++ B) b) : ∃ c, Side L a A c ∧ Side L c B b := by
  induction A generalizing a with
  | nil => exact ⟨a, rfl, h⟩
  | cons r A ih =>
    obtain ⟨h0, h1, h2, h3, h4⟩ := h
    obtain ⟨c, hA, hB⟩ := ih h4
    refine ⟨c, ⟨h0, h1, h2, fun s hs => h3 s ?_, hA⟩, hB⟩
    cases A with
    | nil => cases hs
    | cons t A => simpa using hs
theorem Side.next (h : Side L a R b) {i : Nat} (hr : R[i]? = some r) (hs : R[i + 1]? = some s) : s.n ≠ r.n ∧ s.lo = r.hi := by
  induction R generalizing a i with
  | nil => cases hr
  | cons t R ih =>
    obtain ⟨h0, h1, h2, h3, h4⟩ := h
    cases i with
    | zero =>
      have e : t = r := by simpa using hr
      subst e
      cases R with
      | nil => cases hs
      | cons u R =>
        have e : u = s := by simpa using hs
        subst e
        exact ⟨h3 u rfl, h4.1⟩
    | succ i => exact ih h4 (by simpa using hr) (by simpa using hs)
theorem Side.first (h : Side L a R b) (hr : R[0]? = some r) : r.lo = a := by
  cases R with
  | nil => cases hr
  | cons t R =>
    have e : t = r := by simpa using hr
    subst e
    exact h.1
theorem Side.last (h : Side L a R b) (hr : R[R.length - 1]? = some r) (h0 : 0 < R.length) : r.hi = b := by
  induction R generalizing a with
  | nil => cases h0
  | cons t R ih =>
    obtain ⟨_, _, _, _, h4⟩ := h
    cases R with
    | nil =>
      have e : t = r := by simpa using hr
      subst e
      exact h4
    | cons u R => exact ih h4 (by simpa using hr) (by simp)
theorem Side.none (h : Side L a R b) (hab : a = b) : R = [] := by
  cases R with
  | nil => rfl
  | cons r R =>
    have h1 := h.1
    have h2 := h.2.1
    have h3 := h.2.2.2.2.le
    omega
theorem Side.len (h : Side L a R b) : (R.length : Int) ≤ b - a := by
  induction R generalizing a with
  | nil =>
    have : a = b := h
    simp
    omega
  | cons r R ih =>
    obtain ⟨h1, h2, _, _, h4⟩ := h
    have := ih h4
    simp
    omega
end
end Go.Proofs.Ytfmihbiongnpnaa
