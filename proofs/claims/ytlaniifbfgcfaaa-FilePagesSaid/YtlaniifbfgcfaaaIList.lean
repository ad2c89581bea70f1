/- Layer 10: what is done to files, as plain sizes and pages. Over no program. -/
import Derived.Test.YtlaniifbfgcfaaaTFlat
namespace Go.Proofs.Ytlaniifbfgcfaaa

def pageZ : List UInt8 := List.replicate 4096 0
theorem pageZ_length : pageZ.length = 4096 := List.length_replicate
/-- Files: their sizes, from number 1 on; what each page has; the plan. -/
structure IS where
  Z : List Int
  P : Int → Int → List UInt8
  left : Int
def newI : IS := ⟨[], fun _ _ => pageZ, 0⟩
/-- Is there such a file? -/
def IS.has (s : IS) (i : Int) : Prop := 1 ≤ i ∧ i ≤ s.Z.length
instance (s : IS) (i : Int) : Decidable (s.has i) := inferInstanceAs (Decidable (1 ≤ i ∧ i ≤ s.Z.length))
def IS.size (s : IS) (i : Int) : Int := s.Z.getD (i - 1).toNat 0
/-- Has it such a page? -/
def IS.page (s : IS) (i n : Int) : Prop := s.has i ∧ 0 ≤ n ∧ n < s.size i
instance (s : IS) (i n : Int) : Decidable (s.page i n) := inferInstanceAs (Decidable (s.has i ∧ 0 ≤ n ∧ n < s.size i))
/-- A plan behind a call. -/
def decI (p : Int) : Int := if p = 0 then 0 else p - 1
def makeI (s : IS) (n : Int) : Int × Int × IS :=
  if 0 ≤ n ∧ n ≤ 4096 then (if 16 ≤ s.Z.length then (0, 5, s) else (s.Z.length + 1, 0, ⟨s.Z ++ [n], s.P, s.left⟩)) else (0, 2, s)
def sizeI (s : IS) (i : Int) : Int × Bool := if s.has i then (s.size i, true) else (0, false)
/-- The pages behind a cut. -/
def cutI (P : Int → Int → List UInt8) (i n : Int) : Int → Int → List UInt8 := fun j k => if j = i ∧ n ≤ k then pageZ else P j k
def putI (P : Int → Int → List UInt8) (i n : Int) (bs : List UInt8) : Int → Int → List UInt8 := fun j k => if j = i ∧ k = n then bs else P j k
def resizeI (s : IS) (i n : Int) : Int × IS :=
  if s.has i then (if 0 ≤ n ∧ n ≤ 4096 then (0, ⟨s.Z.set (i - 1).toNat n, cutI s.P i n, s.left⟩) else (2, s)) else (7, s)
def failI (s : IS) : IS := ⟨s.Z, s.P, decI s.left⟩
def readI (s : IS) (i n : Int) : Int × List UInt8 × IS :=
  if s.has i then (if s.page i n then (if s.left = 1 then (6, [], failI s) else (0, s.P i n, failI s)) else (2, [], s)) else (7, [], s)
def writeI (s : IS) (i n : Int) (bs : List UInt8) : Int × IS :=
  if s.has i then (if s.page i n ∧ bs.length = 4096 then (if s.left = 1 then (6, failI s) else (0, ⟨s.Z, putI s.P i n bs, decI s.left⟩)) else (2, s)) else (7, s)
def planI (s : IS) (n : Int) : Int × IS := if n < 0 then (2, s) else (0, ⟨s.Z, s.P, n⟩)
def peekI (s : IS) (i n : Int) : List UInt8 := if s.page i n then s.P i n else []

structure IS.Ok (s : IS) : Prop where
  len : s.Z.length ≤ 16
  size0 : ∀ z, z ∈ s.Z → 0 ≤ z
  size1 : ∀ z, z ∈ s.Z → z ≤ 4096
  bytes : ∀ i n, (s.P i n).length = 4096
  none : ∀ i n, ¬ s.page i n → s.P i n = pageZ
  left0 : 0 ≤ s.left
  left1 : s.left < 9223372036854775808
section
variable {s : IS} {i n : Int} {bs : List UInt8}
theorem newI_ok : newI.Ok := ⟨Nat.zero_le _, (fun z hz => by cases hz), (fun z hz => by cases hz), fun _ _ => pageZ_length, fun _ _ _ => rfl, Int.le_refl _, by show (0 : Int) < _; decide⟩
theorem IS.has_lt (h : s.has i) : (i - 1).toNat < s.Z.length := by have := h.1; have := h.2; omega
theorem IS.size_get (h : s.has i) : s.Z[(i - 1).toNat]? = some (s.size i) := by
  unfold IS.size
  rw [List.getD_eq_getElem?_getD, List.getElem?_eq_getElem (IS.has_lt h)]
  rfl
theorem IS.size_mem (h : s.has i) : s.size i ∈ s.Z := List.mem_of_getElem? (IS.size_get h)
theorem IS.Ok.sz0 (k : s.Ok) (h : s.has i) : 0 ≤ s.size i := k.size0 _ (IS.size_mem h)
theorem IS.Ok.sz1 (k : s.Ok) (h : s.has i) : s.size i ≤ 4096 := k.size1 _ (IS.size_mem h)
theorem decI_ok {p : Int} (h0 : 0 ≤ p) (h1 : p < 9223372036854775808) : 0 ≤ decI p ∧ decI p < 9223372036854775808 := by unfold decI; split <;> omega
theorem IS.Ok.fail (h : s.Ok) : (failI s).Ok := ⟨h.len, h.size0, h.size1, h.bytes, h.none, (decI_ok h.left0 h.left1).1, (decI_ok h.left0 h.left1).2⟩
theorem IS.Ok.make (h : s.Ok) : (makeI s n).2.2.Ok := by
  unfold makeI
  split
  · rename_i hn
    split
    · exact h
    · rename_i hl
      refine ⟨by show (s.Z ++ [n]).length ≤ 16; rw [List.length_append]; simp; omega, fun z hz => ?_, fun z hz => ?_, h.bytes, fun j k hp => ?_, h.left0, h.left1⟩
      · rcases List.mem_append.1 hz with hz | hz
        · exact h.size0 z hz
        · rw [List.mem_singleton.1 hz]; exact hn.1
      · rcases List.mem_append.1 hz with hz | hz
        · exact h.size1 z hz
        · rw [List.mem_singleton.1 hz]; exact hn.2
      · refine h.none j k fun hp2 => hp ?_
        have hlt := IS.has_lt hp2.1
        refine ⟨⟨hp2.1.1, by have := hp2.1.2; show j ≤ ((s.Z ++ [n]).length : Nat); rw [List.length_append]; simp; omega⟩, hp2.2.1, ?_⟩
        have : (IS.mk (s.Z ++ [n]) s.P s.left).size j = s.size j := by
          unfold IS.size
          rw [List.getD_eq_getElem?_getD, List.getD_eq_getElem?_getD, List.getElem?_append_left hlt]
        rw [this]
        exact hp2.2.2
  · exact h
theorem size_set (h : s.has i) (j : Int) (hj : 1 ≤ j) {P : Int → Int → List UInt8} {l : Int} : (IS.mk (s.Z.set (i - 1).toNat n) P l).size j = if j = i then n else s.size j := by
  unfold IS.size
  simp only [List.getD_eq_getElem?_getD]
  by_cases e : j = i
  · subst e
    rw [if_pos rfl, List.getElem?_set_self (IS.has_lt h)]
    rfl
  · rw [if_neg e, List.getElem?_set_ne (by have := h.1; omega)]
theorem has_set {m : Nat} {j : Int} {P : Int → Int → List UInt8} {l : Int} : (IS.mk (s.Z.set m n) P l).has j ↔ s.has j := by
  unfold IS.has
  simp
theorem IS.Ok.resize (h : s.Ok) : (resizeI s i n).2.Ok := by
  unfold resizeI
  split
  · rename_i hi
    split
    · rename_i hn
      refine ⟨by show (s.Z.set _ _).length ≤ 16; rw [List.length_set]; exact h.len, fun z hz => ?_, fun z hz => ?_, fun j k => ?_, fun j k hp => ?_, h.left0, h.left1⟩
      · rcases List.mem_or_eq_of_mem_set hz with hz | rfl
        · exact h.size0 z hz
        · exact hn.1
      · rcases List.mem_or_eq_of_mem_set hz with hz | rfl
        · exact h.size1 z hz
        · exact hn.2
      · show (cutI s.P i n j k).length = 4096
        unfold cutI
        split
        · exact pageZ_length
        · exact h.bytes j k
      · show cutI s.P i n j k = pageZ
        unfold cutI
        split
        · rfl
        · rename_i hc
          refine h.none j k fun hp2 => hp ⟨has_set.2 hp2.1, hp2.2.1, ?_⟩
          rw [size_set hi j hp2.1.1]
          split
          · rename_i e
            have := fun h => hc ⟨e, h⟩
            omega
          · exact hp2.2.2
    · exact h
  · exact h
theorem IS.Ok.read (h : s.Ok) : (readI s i n).2.2.Ok := by
  unfold readI
  split
  · split
    · split <;> exact h.fail
    · exact h
  · exact h
theorem IS.Ok.write (h : s.Ok) : (writeI s i n bs).2.Ok := by
  unfold writeI
  split
  · split
    · rename_i hp
      split
      · exact h.fail
      · have hd := decI_ok h.left0 h.left1
        refine ⟨h.len, h.size0, h.size1, fun j k => ?_, fun j k hq => ?_, hd.1, hd.2⟩
        · show (putI s.P i n bs j k).length = 4096
          unfold putI
          split
          · exact hp.2
          · exact h.bytes j k
        · show putI s.P i n bs j k = pageZ
          unfold putI
          split
          · rename_i e
            obtain ⟨rfl, rfl⟩ := e
            exact absurd hp.1 hq
          · exact h.none j k hq
    · exact h
  · exact h
theorem IS.Ok.plan (h : s.Ok) (hn : okI n) : (planI s n).2.Ok := by
  have := hn.2
  unfold planI
  split
  · exact h
  · exact ⟨h.len, h.size0, h.size1, h.bytes, h.none, by show 0 ≤ n; omega, by show n < _; omega⟩
theorem peekI_len (h : s.Ok) : (peekI s i n).length = if s.page i n then 4096 else 0 := by
  unfold peekI
  split
  · exact h.bytes _ _
  · rfl
end
end Go.Proofs.Ytlaniifbfgcfaaa
