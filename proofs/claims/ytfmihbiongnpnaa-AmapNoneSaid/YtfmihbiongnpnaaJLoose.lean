/- Layer 11: runs side by side, two neighbours may be alike. Over no program. -/
import Derived.Test.YtfmihbiongnpnaaJSum
namespace Go.Proofs.Ytfmihbiongnpnaa

def Loose (L : List Int) : Int → List JR → Int → Prop
  | a, [], b => a = b
  | a, r :: R, b => r.lo = a ∧ r.lo < r.hi ∧ (∀ j : Nat, r.lo ≤ j → (j : Int) < r.hi → L.getD j 0 = r.n) ∧ Loose L r.hi R b
section
variable {L M : List Int} {a b c : Int} {R R' A B : List JR} {r s : JR}
theorem Side.loose (h : Side L a R b) : Loose L a R b := by
  induction R generalizing a with
  | nil => exact h
  | cons r R ih => exact ⟨h.1, h.2.1, h.2.2.1, ih h.2.2.2.2⟩
theorem Loose.le (h : Loose L a R b) : a ≤ b := by
  induction R generalizing a with
  | nil => exact Int.le_of_eq h
  | cons r R ih =>
    have := ih h.2.2.2
    have := h.1
    have := h.2.1
    omega
theorem Loose.app (h : Loose L a A c) (k : Loose L c B b) : Loose L a (A ++ B) b := by
  induction A generalizing a with
  | nil => have : a = c := h; rw [this]; exact k
  | cons r A ih => exact ⟨h.1, h.2.1, h.2.2.1, ih h.2.2.2⟩
theorem Loose.split (h : Loose L a (A ++ B) b) : ∃ c, Loose L a A c ∧ Loose L c B b := by
  induction A generalizing a with
  | nil => exact ⟨a, rfl, h⟩
  | cons r A ih =>
    obtain ⟨c, h1, h2⟩ := ih h.2.2.2
    exact ⟨c, ⟨h.1, h.2.1, h.2.2.1, h1⟩, h2⟩
theorem Loose.len (h : Loose L a R b) : (R.length : Int) ≤ b - a := by
  induction R generalizing a with
  | nil => have : a = b := h; simp; omega
  | cons r R ih =>
    have h1 := h.1
    have h2 := h.2.1
    have := ih h.2.2.2
    simp
    omega
theorem Loose.at (h : Loose L a R b) (hr : r ∈ R) : a ≤ r.lo ∧ r.lo < r.hi ∧ r.hi ≤ b ∧ ∀ j : Nat, r.lo ≤ j → (j : Int) < r.hi → L.getD j 0 = r.n := by
  induction R generalizing a with
  | nil => cases hr
  | cons s R ih =>
    obtain ⟨h0, h1, h2, h4⟩ := h
    have h5 := h4.le
    rcases List.mem_cons.1 hr with rfl | hr
    · exact ⟨by omega, h1, h5, h2⟩
    · obtain ⟨k0, k1, k2, k3⟩ := ih h4 hr
      exact ⟨by omega, k1, k2, k3⟩
/-- What lies further right ends further right. -/
theorem Loose.mono (h : Loose L a R b) {i j : Nat} (hij : i < j) (hi : R[i]? = some r) (hj : R[j]? = some s) : r.hi < s.hi := by
  obtain ⟨c, h1, h2⟩ := (show Loose L a (R.take j ++ R.drop j) b by rwa [List.take_append_drop]).split
  have hr : r ∈ R.take j := List.mem_of_getElem? (by rw [List.getElem?_take_of_lt hij]; exact hi)
  have hs : s ∈ R.drop j := List.mem_of_getElem? (i := 0) (by rw [List.getElem?_drop]; exact hj)
  have h3 := h1.at hr
  have h4 := h2.at hs
  omega
/-- Where the item lies: the runs ahead of it end at or below it, the others above it. -/
structure Found (R : List JR) (item : Int) (k : Nat) : Prop where
  le : k ≤ R.length
  lo : ∀ i r, i < k → R[i]? = some r → r.hi ≤ item
  hi : ∀ i r, k ≤ i → R[i]? = some r → item < r.hi
theorem Found.one {item : Int} {k m : Nat} (h : Found R item k) (h' : Found R item m) : k = m := by
  rcases Nat.lt_trichotomy k m with e | e | e
  · obtain ⟨r, hr⟩ : ∃ r, R[k]? = some r := ⟨_, List.getElem?_eq_getElem (by have := h'.le; omega)⟩
    have := h'.lo k r e hr
    have := h.hi k r (Nat.le_refl _) hr
    omega
  · exact e
  · obtain ⟨r, hr⟩ : ∃ r, R[m]? = some r := ⟨_, List.getElem?_eq_getElem (by have := h.le; omega)⟩
    have := h.lo m r e hr
    have := h'.hi m r (Nat.le_refl _) hr
    omega
theorem Loose.find_ex (h : Loose L a R b) (item : Int) : ∃ k, Found R item k := by
  induction R generalizing a with
  | nil => exact ⟨0, Nat.le_refl _, fun i r hi _ => by omega, fun i r _ hr => by cases hr⟩
  | cons s R ih =>
    by_cases hs : item < s.hi
    · refine ⟨0, Nat.zero_le _, fun i r hi _ => by omega, fun i r _ hr => ?_⟩
      rcases Nat.eq_zero_or_pos i with h0 | h0
      · subst h0; cases hr; exact hs
      · have := h.mono (r := s) h0 rfl hr
        omega
    · obtain ⟨k, hk⟩ := ih h.2.2.2
      refine ⟨k + 1, by have := hk.le; simp; omega, fun i r hi hr => ?_, fun i r hi hr => ?_⟩
      · cases i with
        | zero => cases hr; omega
        | succ i => exact hk.lo i r (by omega) hr
      · cases i with
        | zero => omega
        | succ i => exact hk.hi i r (by omega) hr
theorem Loose.last (h : Loose L a (A ++ [r]) b) : r.hi = b := by
  obtain ⟨c, h1, h2⟩ := h.split
  exact h2.2.2.2
theorem Loose.drop (h : Loose L a R b) {k : Nat} (_hf : k ≤ R.length) : ∃ c, Loose L a (R.take k) c ∧ Loose L c (R.drop k) b := (show Loose L a (R.take k ++ R.drop k) b by rwa [List.take_append_drop]).split
theorem Loose.found_end {item : Int} (h : Loose L a R b) (ha : a ≤ item) (hb : item ≤ b) (hf : Found R item R.length) : item = b := by
  rcases List.eq_nil_or_concat R with rfl | ⟨A, r, rfl⟩
  · have : a = b := h
    omega
  · rw [List.concat_eq_append] at *
    have h1 := h.last
    have h2 := hf.lo A.length r (by simp) (by simp)
    omega
theorem Loose.found {item : Int} {k : Nat} (h : Loose L a R b) (ha : a ≤ item) (hf : Found R item k) (hr : R[k]? = some r) : r.lo ≤ item ∧ item < r.hi := by
  refine ⟨?_, hf.hi k r (Nat.le_refl _) hr⟩
  have hk := (List.getElem?_eq_some_iff.1 hr).1
  obtain ⟨c, h1, h2⟩ := h.drop hf.le
  have hd : R.drop k = r :: R.drop (k + 1) := by
    rw [List.drop_eq_getElem_cons hk, (List.getElem?_eq_some_iff.1 hr).2]
  rw [hd] at h2
  have hc : r.lo = c := h2.1
  rw [hc]
  rcases List.eq_nil_or_concat (R.take k) with h0 | ⟨A, s, h0⟩
  · rw [h0] at h1
    have : a = c := h1
    omega
  · rw [List.concat_eq_append] at h0
    have hl : k = A.length + 1 := by
      have := congrArg List.length h0
      simp at this
      omega
    have hs : R[A.length]? = some s := by
      have : (R.take k)[A.length]? = some s := by rw [h0]; simp
      rwa [List.getElem?_take_of_lt (by omega)] at this
    rw [h0] at h1
    have h3 := h1.last
    have h4 := hf.lo A.length s (by omega) hs
    omega
/-- The runs, cut. -/
theorem Loose.cut_at {item : Int} {k : Nat} (h : Loose L a R b) (hr : R[k]? = some r) (he : r.lo = item) : Loose L a (R.take k) item ∧ Loose L item (R.drop k) b := by
  have hk := (List.getElem?_eq_some_iff.1 hr).1
  obtain ⟨c, h1, h2⟩ := h.drop (Nat.le_of_lt hk)
  have hd : R.drop k = r :: R.drop (k + 1) := by
    rw [List.drop_eq_getElem_cons hk, (List.getElem?_eq_some_iff.1 hr).2]
  have hc : r.lo = c := by rw [hd] at h2; exact h2.1
  rw [← he, hc]
  exact ⟨h1, h2⟩
theorem Loose.cut_in {item : Int} {k : Nat} (h : Loose L a R b) (hr : R[k]? = some r) (h0 : r.lo < item) (h1 : item < r.hi) : Loose L a (R.take k ++ [⟨r.lo, item, r.n⟩]) item ∧ Loose L item ([⟨item, r.hi, r.n⟩] ++ R.drop (k + 1)) b := by
  have hk := (List.getElem?_eq_some_iff.1 hr).1
  obtain ⟨c, h2, h3⟩ := h.drop (Nat.le_of_lt hk)
  have hd : R.drop k = r :: R.drop (k + 1) := by
    rw [List.drop_eq_getElem_cons hk, (List.getElem?_eq_some_iff.1 hr).2]
  rw [hd] at h3
  obtain ⟨e, h4, h5, h6⟩ := h3
  refine ⟨h2.app ⟨e, h0, fun j hj1 hj2 => h5 j hj1 ?_, rfl⟩, ⟨rfl, h1, fun j hj1 hj2 => h5 j ?_ hj2, h6⟩⟩
  · have hj2' : (j : Int) < item := hj2
    omega
  · have hj1' : item ≤ (j : Int) := hj1
    omega
/-- Behind one more list of runs: neighbours that are alike become one. -/
def joinR : List JR → List JR → List JR
  | out, [] => out
  | out, r :: R => joinR (match out.getLast? with | some s => if s.n = r.n then out.dropLast ++ [⟨s.lo, r.hi, s.n⟩] else out ++ [r] | none => [r]) R
def joinOne (out : List JR) (r : JR) : List JR := match out.getLast? with | some s => if s.n = r.n then out.dropLast ++ [⟨s.lo, r.hi, s.n⟩] else out ++ [r] | none => [r]
theorem joinR_eq (out R : List JR) : joinR out R = R.foldl joinOne out := by
  induction R generalizing out with
  | nil => rfl
  | cons r R ih => exact ih _
theorem joinOne_nil (r : JR) : joinOne [] r = [r] := rfl
theorem joinOne_same (h : s.n = r.n) : joinOne (A ++ [s]) r = A ++ [⟨s.lo, r.hi, s.n⟩] := by
  unfold joinOne
  rw [List.getLast?_concat]
  simp only
  rw [if_pos h, List.dropLast_concat]
theorem joinOne_other (h : s.n ≠ r.n) : joinOne (A ++ [s]) r = A ++ [s] ++ [r] := by
  unfold joinOne
  rw [List.getLast?_concat]
  simp only
  rw [if_neg h]
theorem joinOne_len (out : List JR) (r : JR) : (joinOne out r).length ≤ out.length + 1 := by
  rcases List.eq_nil_or_concat out with rfl | ⟨A, s, rfl⟩
  · simp [joinOne_nil]
  · rw [List.concat_eq_append]
    by_cases h : s.n = r.n
    · rw [joinOne_same h]; simp
    · rw [joinOne_other h]; simp
/-- Runs, two neighbours unlike, joined with one more run. -/
theorem Side.longer2 (h : Side L a (A ++ [s]) b) {x : Int} (hx : b < x) (hb : ∀ j : Nat, b ≤ j → (j : Int) < x → L.getD j 0 = s.n) : Side L a (A ++ [⟨s.lo, x, s.n⟩]) x := by
  induction A generalizing a with
  | nil =>
    obtain ⟨h0, h1, h2, h3, h4⟩ := h
    have h5 : s.hi = b := h4
    refine ⟨h0, by show s.lo < x; omega, fun j hj1 hj2 => ?_, (fun s hs => by cases hs), rfl⟩
    have hj1' : s.lo ≤ j := hj1
    have hj2' : (j : Int) < x := hj2
    show L.getD j 0 = s.n
    by_cases e : (j : Int) < b
    · exact h2 j hj1' (by omega)
    · exact hb j (by omega) hj2'
  | cons t A ih =>
    obtain ⟨h0, h1, h2, h3, h4⟩ := h
    refine ⟨h0, h1, h2, fun u hu => ?_, ih h4⟩
    cases A with
    | nil =>
      have e : (⟨s.lo, x, s.n⟩ : JR) = u := by simpa using hu
      subst e
      exact h3 s rfl
    | cons v A => exact h3 u (by simpa using hu)
theorem Side.joined (h : Side L a R b) (h0 : r.lo = b) (h1 : r.lo < r.hi) (h2 : ∀ j : Nat, r.lo ≤ j → (j : Int) < r.hi → L.getD j 0 = r.n) : Side L a (joinOne R r) r.hi := by
  rcases List.eq_nil_or_concat R with rfl | ⟨A, s, rfl⟩
  · rw [joinOne_nil]
    have e : a = b := h
    exact ⟨by omega, h1, h2, (fun s hs => by cases hs), rfl⟩
  · rw [List.concat_eq_append] at *
    by_cases hn : s.n = r.n
    · rw [joinOne_same hn]
      refine h.longer2 (by omega) fun j hj1 hj2 => ?_
      rw [hn]
      exact h2 j (by omega) hj2
    · rw [joinOne_other hn]
      refine h.snoc (r := r) h0 h1 h2 fun t ht => ?_
      rw [List.getLast?_concat] at ht
      cases ht
      exact hn
theorem Side.joinAll (h : Side L a R b) (k : Loose L b B c) : Side L a (B.foldl joinOne R) c := by
  induction B generalizing R b with
  | nil => have : b = c := k; rw [← this]; exact h
  | cons r B ih => exact ih (h.joined k.1 k.2.1 k.2.2.1) k.2.2.2
/-- All is more by so much. -/
def raiseJ (by_ : Int) (r : JR) : JR := ⟨r.lo, r.hi, r.n + by_⟩
theorem Loose.raise {by_ lo hi : Int} (h : Loose L a R b) (ha : lo ≤ a) (hb : b ≤ hi) (h0 : 0 ≤ a) (hl : b ≤ L.length) : Loose (moreJ L lo hi by_) a (R.map (raiseJ by_)) b := by
  induction R generalizing a with
  | nil => exact h
  | cons r R ih =>
    have h1 := h.1
    have h2 := h.2.1
    have h3 := h.2.2.2.le
    refine ⟨h.1, h.2.1, fun j hj1 hj2 => ?_, ih h.2.2.2 (by show lo ≤ r.hi; omega) (by show 0 ≤ r.hi; omega)⟩
    have hj1' : r.lo ≤ j := hj1
    have hj2' : (j : Int) < r.hi := hj2
    rw [moreJ_at (by omega), if_pos (show inJ lo hi j from ⟨by omega, by omega⟩), h.2.2.1 j hj1' hj2']
    rfl
theorem Loose.same {by_ lo hi : Int} (h : Loose L a R b) (hab : b ≤ lo ∨ hi ≤ a) (h0 : 0 ≤ a) (hl : b ≤ L.length) : Loose (moreJ L lo hi by_) a R b := by
  induction R generalizing a with
  | nil => exact h
  | cons r R ih =>
    have h1 := h.1
    have h2 := h.2.1
    have h3 := h.2.2.2.le
    refine ⟨h.1, h.2.1, fun j hj1 hj2 => ?_, ih h.2.2.2 (by show b ≤ lo ∨ hi ≤ r.hi; omega) (by show 0 ≤ r.hi; omega)⟩
    rw [moreJ_at (by omega), if_neg (show ¬ inJ lo hi j from fun k => by have := k.1; have := k.2; omega), h.2.2.1 j hj1 hj2]
theorem Loose.longer {x : List Int} (h : Loose L a R b) (h0 : 0 ≤ a) (hl : b ≤ L.length) : Loose (L ++ x) a R b := by
  induction R generalizing a with
  | nil => exact h
  | cons r R ih =>
    have h1 := h.1
    have h2 := h.2.1
    have h3 := h.2.2.2.le
    refine ⟨h.1, h.2.1, fun j hj1 hj2 => ?_, ih h.2.2.2 (by show 0 ≤ r.hi; omega)⟩
    rw [← h.2.2.1 j hj1 hj2, List.getD_eq_getElem?_getD, List.getD_eq_getElem?_getD, List.getElem?_append_left (by omega)]
/-- May all be more by so much? -/
theorem Loose.may (h : Loose L a R b) (h0 : 0 ≤ a) (hb : b ≤ L.length) {by_ : Int} : (∀ i, i < L.length → inJ a b i → 0 ≤ L.getD i 0 + by_ ∧ L.getD i 0 + by_ ≤ 1000000) ↔ ∀ r, r ∈ R → 0 ≤ r.n + by_ ∧ r.n + by_ ≤ 1000000 := by
  constructor
  · intro k r hr
    obtain ⟨h1, h2, h3, h4⟩ := h.at hr
    obtain ⟨j, hj⟩ := Int.eq_ofNat_of_zero_le (show 0 ≤ r.lo by omega)
    have h5 := h4 j (by omega) (by omega)
    have h6 := k j (by omega) ⟨by omega, by omega⟩
    rwa [h5] at h6
  · intro k i hi hin
    induction R generalizing a with
    | nil => have : a = b := h; have := hin.1; have := hin.2; omega
    | cons r R ih =>
      obtain ⟨h1, h2, h3, h4⟩ := h
      by_cases e : (i : Int) < r.hi
      · rw [h3 i (by have := hin.1; omega) e]
        exact k r List.mem_cons_self
      · exact ih h4 (by omega) (fun s hs => k s (List.mem_cons_of_mem _ hs)) ⟨by omega, hin.2⟩
end
end Go.Proofs.Ytfmihbiongnpnaa
