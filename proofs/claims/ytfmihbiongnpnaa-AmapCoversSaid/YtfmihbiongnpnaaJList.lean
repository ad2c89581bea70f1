/- Layer 11: what is done to counts, as a plain list of them; the runs that they make. Over no program. -/
import Derived.Test.YtfmihbiongnpnaaTFlat
namespace Go.Proofs.Ytfmihbiongnpnaa

/-- Counts: as many items as may be, each count within its bounds. -/
structure JOk (L : List Int) : Prop where
  len : L.length ≤ 4096
  lo : ∀ x, x ∈ L → 0 ≤ x
  hi : ∀ x, x ∈ L → x ≤ 1000000
def atJ (L : List Int) (i : Int) : Int := if 0 ≤ i ∧ i < L.length then L.getD i.toNat 0 else -1
/-- Is item i between lo and hi? -/
def inJ (lo hi : Int) (i : Nat) : Prop := lo ≤ i ∧ i < hi
instance (lo hi : Int) (i : Nat) : Decidable (inJ lo hi i) := inferInstanceAs (Decidable (lo ≤ i ∧ i < hi))
/-- May so much be added? -/
def mayJ (L : List Int) (lo hi by_ : Int) : Prop := (0 ≤ lo ∧ hi ≤ L.length ∧ lo ≤ hi) ∧ ∀ i, i < L.length → inJ lo hi i → 0 ≤ L.getD i 0 + by_ ∧ L.getD i 0 + by_ ≤ 1000000
instance (L : List Int) (lo hi by_ : Int) : Decidable (mayJ L lo hi by_) := inferInstanceAs (Decidable ((0 ≤ lo ∧ hi ≤ L.length ∧ lo ≤ hi) ∧ ∀ i, i < L.length → inJ lo hi i → 0 ≤ L.getD i 0 + by_ ∧ L.getD i 0 + by_ ≤ 1000000))
def moreJ (L : List Int) (lo hi by_ : Int) : List Int := (List.range L.length).map fun i => if inJ lo hi i then L.getD i 0 + by_ else L.getD i 0
def goneJ (L : List Int) (lo hi by_ : Int) : List Int := ((List.range L.length).filter fun i => decide (inJ lo hi i ∧ L.getD i 0 ≠ 0 ∧ L.getD i 0 + by_ = 0)).map fun i : Nat => (i : Int)
/-- Add: those that became 0, the error, the counts. -/
def addJ (L : List Int) (lo hi by_ : Int) : List Int × Int × List Int := if mayJ L lo hi by_ then (goneJ L lo hi by_, 0, moreJ L lo hi by_) else ([], 2, L)
def growJ (L : List Int) (n : Int) : Int × List Int := if (L.length : Int) ≤ n ∧ n ≤ 4096 then (0, L ++ List.replicate (n - L.length).toNat 0) else (2, L)
def sumJ (L : List Int) : Int := L.foldl (· + ·) 0

/-- A run. -/
structure JR where
  lo : Int
  hi : Int
  n : Int
  deriving DecidableEq
/-- One more item behind the runs. -/
def pushJ (R : List JR) (x : Int) (i : Int) : List JR := match R.getLast? with
  | some r => if r.n = x then R.dropLast ++ [⟨r.lo, i + 1, x⟩] else R ++ [⟨i, i + 1, x⟩]
  | none => [⟨i, i + 1, x⟩]
def runsJ (L : List Int) : List JR := (List.range L.length).foldl (fun R i => pushJ R (L.getD i 0) i) []

section
variable {L : List Int} {lo hi by_ n : Int}
theorem moreJ_len : (moreJ L lo hi by_).length = L.length := by simp [moreJ]
theorem moreJ_at {i : Nat} (h : i < L.length) : (moreJ L lo hi by_).getD i 0 = if inJ lo hi i then L.getD i 0 + by_ else L.getD i 0 := by
  rw [List.getD_eq_getElem?_getD]
  unfold moreJ
  rw [List.getElem?_map, List.getElem?_range h]
  rfl
theorem mem_getD {x : Int} (h : x ∈ L) : ∃ i, i < L.length ∧ L.getD i 0 = x := by
  obtain ⟨i, hi, e⟩ := List.getElem_of_mem h
  exact ⟨i, hi, by rw [List.getD_eq_getElem?_getD, List.getElem?_eq_getElem hi, ← e]; rfl⟩
theorem getD_mem {i : Nat} (h : i < L.length) : L.getD i 0 ∈ L := by
  rw [List.getD_eq_getElem?_getD, List.getElem?_eq_getElem h]
  exact List.getElem_mem h
theorem JOk.add (h : JOk L) : JOk (addJ L lo hi by_).2.2 := by
  unfold addJ
  split
  · rename_i hm
    have key : ∀ x, x ∈ moreJ L lo hi by_ → 0 ≤ x ∧ x ≤ 1000000 := fun x hx => by
      obtain ⟨i, hi, rfl⟩ := mem_getD hx
      rw [moreJ_len] at hi
      rw [moreJ_at hi]
      split
      · rename_i hc
        exact hm.2 i hi hc
      · exact ⟨h.lo _ (getD_mem hi), h.hi _ (getD_mem hi)⟩
    exact ⟨by rw [moreJ_len]; exact h.len, fun x hx => (key x hx).1, fun x hx => (key x hx).2⟩
  · exact h
theorem JOk.grow (h : JOk L) : JOk (growJ L n).2 := by
  unfold growJ
  split
  · rename_i hn
    refine ⟨by show (L ++ _).length ≤ 4096; rw [List.length_append, List.length_replicate]; omega, fun x hx => ?_, fun x hx => ?_⟩
    · rcases List.mem_append.1 hx with hx | hx
      · exact h.lo x hx
      · rw [(List.mem_replicate.1 hx).2]; exact Int.le_refl _
    · rcases List.mem_append.1 hx with hx | hx
      · exact h.hi x hx
      · rw [(List.mem_replicate.1 hx).2]; decide
  · exact h
theorem JOk.zeros {k : Nat} (h : k ≤ 4096) : JOk (List.replicate k 0) := ⟨by rw [List.length_replicate]; exact h, fun x hx => by rw [(List.mem_replicate.1 hx).2]; exact Int.le_refl _, fun x hx => by rw [(List.mem_replicate.1 hx).2]; decide⟩
theorem list_getD_ext {A B : List Int} (hl : A.length = B.length) (h : ∀ i, i < A.length → A.getD i 0 = B.getD i 0) : A = B := by
  apply List.ext_getElem hl
  intro i h1 h2
  have := h i h1
  rw [List.getD_eq_getElem?_getD, List.getD_eq_getElem?_getD, List.getElem?_eq_getElem h1, List.getElem?_eq_getElem h2] at this
  exact this
/-- What is added and taken away again. -/
theorem moreJ_back : moreJ (moreJ L lo hi by_) lo hi (-by_) = L := by
  refine list_getD_ext (by rw [moreJ_len, moreJ_len]) fun i hi' => ?_
  rw [moreJ_len, moreJ_len] at hi'
  rw [moreJ_at (by rw [moreJ_len]; exact hi'), moreJ_at hi']
  split <;> omega
theorem mayJ_back (hk : JOk L) (h : mayJ L lo hi by_) : mayJ (moreJ L lo hi by_) lo hi (-by_) := by
  refine ⟨by rw [moreJ_len]; exact h.1, fun i hi' hc => ?_⟩
  rw [moreJ_len] at hi'
  rw [moreJ_at hi', if_pos hc]
  have h1 := hk.lo _ (getD_mem hi')
  have h2 := hk.hi _ (getD_mem hi')
  omega
/-- Adding in another order. -/
theorem moreJ_comm {lo' hi' by' : Int} : moreJ (moreJ L lo hi by_) lo' hi' by' = moreJ (moreJ L lo' hi' by') lo hi by_ := by
  refine list_getD_ext (by simp only [moreJ_len]) fun i hi1 => ?_
  simp only [moreJ_len] at hi1
  rw [moreJ_at (L := moreJ L lo hi by_) (by rw [moreJ_len]; exact hi1), moreJ_at (L := moreJ L lo' hi' by') (by rw [moreJ_len]; exact hi1), moreJ_at hi1, moreJ_at hi1]
  split <;> split <;> omega
end
end Go.Proofs.Ytfmihbiongnpnaa
