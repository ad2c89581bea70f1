/- Layer 11: what runs say. Over no program. -/
import Derived.Test.YtfmihbiongnpnaaJList
namespace Go.Proofs.Ytfmihbiongnpnaa

/-- Runs side by side from a to b, each as long as its count is one. -/
def Side (L : List Int) : Int → List JR → Int → Prop
  | a, [], b => a = b
  | a, r :: R, b => r.lo = a ∧ r.lo < r.hi ∧ (∀ j : Nat, r.lo ≤ j → (j : Int) < r.hi → L.getD j 0 = r.n) ∧ (∀ s, R.head? = some s → s.n ≠ r.n) ∧ Side L r.hi R b
section
variable {L : List Int} {a b c : Int} {R R' : List JR} {r : JR}
theorem Side.le (h : Side L a R b) : a ≤ b := by
  induction R generalizing a with
  | nil => exact Int.le_of_eq h
  | cons r R ih =>
    have := ih h.2.2.2.2
    have := h.1
    have := h.2.1
    omega
/-- One more run behind them. -/
theorem Side.snoc (h : Side L a R b) (h0 : r.lo = b) (h1 : r.lo < r.hi) (h2 : ∀ j : Nat, r.lo ≤ j → (j : Int) < r.hi → L.getD j 0 = r.n) (h3 : ∀ s, R.getLast? = some s → s.n ≠ r.n) : Side L a (R ++ [r]) r.hi := by
  induction R generalizing a with
  | nil =>
    have : a = b := h
    exact ⟨by omega, h1, h2, (fun s hs => by cases hs), rfl⟩
  | cons s R ih =>
    refine ⟨h.1, h.2.1, h.2.2.1, fun t ht => ?_, ih h.2.2.2.2 fun t ht => h3 t ?_⟩
    · cases R with
      | nil =>
        have e : r = t := by simpa using ht
        subst e
        exact (h3 s rfl).symm
      | cons u R =>
        exact h.2.2.2.1 t (by simpa using ht)
    · cases R with
      | nil => cases ht
      | cons u R => rw [List.getLast?_cons_cons]; exact ht
/-- The last run is longer. -/
theorem Side.longer (h : Side L a (R ++ [r]) b) {x : Int} (hx : r.n = x) (hb : ∀ j : Nat, (j : Int) = b → L.getD j 0 = x) : Side L a (R ++ [⟨r.lo, b + 1, x⟩]) (b + 1) := by
  induction R generalizing a with
  | nil =>
    obtain ⟨h0, h1, h2, h3, h4⟩ := h
    have h5 : r.hi = b := h4
    refine ⟨h0, by show r.lo < b + 1; omega, fun j hj1 hj2 => ?_, (fun s hs => by cases hs), rfl⟩
    have hj1' : r.lo ≤ j := hj1
    have hj2' : (j : Int) < b + 1 := hj2
    show L.getD j 0 = x
    by_cases e : (j : Int) = b
    · exact hb j e
    · rw [← hx]
      exact h2 j hj1' (by omega)
  | cons s R ih =>
    obtain ⟨h0, h1, h2, h3, h4⟩ := h
    refine ⟨h0, h1, h2, fun t ht => ?_, ih h4⟩
    cases R with
    | nil =>
      have e : (⟨r.lo, b + 1, x⟩ : JR) = t := by simpa using ht
      subst e
      show x ≠ s.n
      rw [← hx]
      exact h3 r rfl
    | cons u R => exact h3 t (by simpa using ht)
theorem pushJ_side {k : Nat} (h : Side L 0 R k) : Side L 0 (pushJ R (L.getD k 0) k) ((k : Int) + 1) := by
  unfold pushJ
  cases hl : R.getLast? with
  | none =>
    have hR : R = [] := List.getLast?_eq_none_iff.1 hl
    subst hR
    have h0 : (0 : Int) = k := h
    refine ⟨h0.symm, by show (k : Int) < k + 1; omega, fun j hj1 hj2 => ?_, (fun s hs => by cases hs), rfl⟩
    have hj1' : (k : Int) ≤ j := hj1
    have hj2' : (j : Int) < k + 1 := hj2
    rw [show j = k by omega]
  | some r =>
    obtain ⟨A, rfl⟩ : ∃ A, R = A ++ [r] := by
      obtain ⟨A, e⟩ := List.getLast?_eq_some_iff.1 hl
      exact ⟨A, e⟩
    simp only
    by_cases hx : r.n = L.getD k 0
    · rw [if_pos hx, List.dropLast_concat]
      exact h.longer hx fun j hj => by rw [show j = k by omega]
    · rw [if_neg hx]
      refine h.snoc (r := ⟨k, k + 1, L.getD k 0⟩) rfl (by show (k : Int) < k + 1; omega) (fun j hj1 hj2 => ?_) fun s hs => ?_
      · have hj1' : (k : Int) ≤ j := hj1
        have hj2' : (j : Int) < k + 1 := hj2
        rw [show j = k by omega]
      · rw [hl] at hs
        cases hs
        exact hx
/-- The runs of the first items. -/
def runsTo (L : List Int) (k : Nat) : List JR := (List.range k).foldl (fun R i => pushJ R (L.getD i 0) i) []
theorem runsTo_succ (L : List Int) (k : Nat) : runsTo L (k + 1) = pushJ (runsTo L k) (L.getD k 0) k := by
  unfold runsTo
  rw [List.range_succ, List.foldl_append]
  rfl
theorem runsTo_side (L : List Int) (k : Nat) : Side L 0 (runsTo L k) k := by
  induction k with
  | zero => exact rfl
  | succ k ih =>
    rw [runsTo_succ]
    have := pushJ_side ih
    rw [show ((k + 1 : Nat) : Int) = (k : Int) + 1 by omega]
    exact this
theorem runsJ_side (L : List Int) : Side L 0 (runsJ L) L.length := runsTo_side L L.length
/-- There is one way only. -/
theorem Side.one (h : Side L a R b) (h' : Side L a R' b) (ha : 0 ≤ a) : R = R' := by
  induction R generalizing a R' with
  | nil =>
    cases R' with
    | nil => rfl
    | cons s R' =>
      have h0 : a = b := h
      have h1 := h'.1
      have h2 := h'.2.1
      have h3 := h'.2.2.2.2.le
      omega
  | cons r R ih =>
    cases R' with
    | nil =>
      have h0 : a = b := h'
      have h1 := h.1
      have h2 := h.2.1
      have h3 := h.2.2.2.2.le
      omega
    | cons s R' =>
      obtain ⟨r0, r1, r2, r3, r4⟩ := h
      obtain ⟨s0, s1, s2, s3, s4⟩ := h'
      have hn : r.n = s.n := by
        obtain ⟨j, hj⟩ := Int.eq_ofNat_of_zero_le ha
        have e1 := r2 j (by omega) (by omega)
        have e2 := s2 j (by omega) (by omega)
        rw [← e1, e2]
      have key : ∀ (p q : JR) (P Q : List JR), p.lo = a → q.lo = a → p.n = q.n → p.hi < q.hi → p.lo < p.hi → (∀ j : Nat, q.lo ≤ j → (j : Int) < q.hi → L.getD j 0 = q.n) → (∀ t, P.head? = some t → t.n ≠ p.n) → Side L p.hi P b → q.hi ≤ b → False := by
        intro p q P Q hp0 hq0 hpq hlt hp1 hq2 hp3 hp4 hq5
        cases P with
        | nil =>
          have : p.hi = b := hp4
          omega
        | cons t P =>
          obtain ⟨t0, t1, t2, -, -⟩ := hp4
          obtain ⟨j, hj⟩ := Int.eq_ofNat_of_zero_le (show 0 ≤ t.lo by omega)
          have e1 := t2 j (by omega) (by omega)
          have e2 := hq2 j (by omega) (by omega)
          exact hp3 t rfl (by rw [← e1, e2, hpq])
      have hhi : r.hi = s.hi := by
        rcases Int.lt_trichotomy r.hi s.hi with h1 | h1 | h1
        · exact (key r s R R' r0 s0 hn h1 r1 s2 r3 r4 s4.le).elim
        · exact h1
        · exact (key s r R' R s0 r0 hn.symm h1 s1 r2 s3 s4 r4.le).elim
      have e : r = s := by
        obtain ⟨rl, rh, rn⟩ := r
        obtain ⟨sl, sh, sn⟩ := s
        simp only at r0 s0 hn hhi
        rw [r0, s0, hn, hhi]
      subst e
      rw [ih (R' := R') r4 s4 (by omega)]
theorem runsJ_of_side (h : Side L 0 R L.length) : R = runsJ L := h.one (runsJ_side L) (Int.le_refl _)
/-- Each run's items. -/
theorem Side.at (h : Side L a R b) {r : JR} (hr : r ∈ R) : a ≤ r.lo ∧ r.lo < r.hi ∧ r.hi ≤ b ∧ ∀ j : Nat, r.lo ≤ j → (j : Int) < r.hi → L.getD j 0 = r.n := by
  induction R generalizing a with
  | nil => cases hr
  | cons s R ih =>
    obtain ⟨h0, h1, h2, h3, h4⟩ := h
    have h5 := h4.le
    rcases List.mem_cons.1 hr with rfl | hr
    · exact ⟨by omega, h1, h5, h2⟩
    · obtain ⟨k0, k1, k2, k3⟩ := ih h4 hr
      exact ⟨by omega, k1, k2, k3⟩
/-- All of one count. -/
theorem runsJ_zeros {k : Nat} (h : 0 < k) : runsJ (List.replicate k 0) = [⟨0, k, 0⟩] := by
  refine (runsJ_of_side (L := List.replicate k 0) ?_).symm
  rw [List.length_replicate]
  refine ⟨rfl, by show (0 : Int) < k; omega, fun j _ hj => ?_, (fun s hs => by cases hs), rfl⟩
  rw [List.getD_eq_getElem?_getD, List.getElem?_replicate]
  split <;> rfl
end
end Go.Proofs.Ytfmihbiongnpnaa
