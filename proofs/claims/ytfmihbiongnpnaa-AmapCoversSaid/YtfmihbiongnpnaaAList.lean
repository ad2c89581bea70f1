/- Layer 13: what is done to amaps, as a plain list: place i has number i + 1. Over no program. -/
import Derived.Test.YtfmihbiongnpnaaJList
namespace Go.Proofs.Ytfmihbiongnpnaa
set_option linter.unusedVariables false

/-- An amap: how often each slot is covered, and the anons. -/
structure AmV where
  cs : List Int
  as : List Int
abbrev AmL := List (Option AmV)
def liveA (L : AmL) (i : Nat) : Bool := match L[i]? with | some (some _) => true | _ => false
def idsATo (L : AmL) (n : Nat) : List Int := ((List.range n).filter (liveA L)).map fun i : Nat => (i : Int) + 1
def idsA (L : AmL) : List Int := idsATo L L.length
def ofA (L : AmL) (id : Int) : Option AmV := if 1 ≤ id ∧ id ≤ L.length then (match L[(id - 1).toNat]? with | some x => x | none => none) else none
def firstA (L : AmL) : Nat := L.findIdx fun x => x.isNone
def putA (L : AmL) (i : Nat) (x : Option AmV) : AmL := if i < L.length then L.set i x else L ++ [x]
def newA (n : Nat) : AmV := ⟨List.replicate n 1, List.replicate n 0⟩
/-- What a call answers: a number, a list, the error; and the list behind it. -/
structure AR where
  n : Int
  l : List Int
  e : Int
  L : AmL
def makeA (most : Nat) (L : AmL) (n : Int) : AR :=
  if ¬ (1 ≤ n ∧ n ≤ 4096) then ⟨0, [], 2, L⟩ else if most ≤ (idsA L).length then ⟨0, [], 5, L⟩ else ⟨(firstA L : Int) + 1, [], 0, putA L (firstA L) (some (newA n.toNat))⟩
def slotsA (L : AmL) (id : Int) : Int := match ofA L id with | some a => a.as.length | none => 0
def covA (a : AmV) (s : Int) : Int := if atJ a.cs s < 0 then 0 else atJ a.cs s
def coverA (L : AmL) (id s : Int) : Int := match ofA L id with | some a => covA a s | none => 0
def anA (a : AmV) (s : Int) : Int := if 0 ≤ s ∧ s < a.as.length then a.as.getD s.toNat 0 else 0
def getA (L : AmL) (id s : Int) : Int := match ofA L id with | some a => anA a s | none => 0
def turnA (L : AmL) (id : Int) (x : Option AmV) : AmL := L.set (id - 1).toNat x
def setA (L : AmL) (id s x : Int) : AR := match ofA L id with
  | none => ⟨0, [], 7, L⟩
  | some a => if covA a s = 0 ∨ x < 0 then ⟨0, [], 2, L⟩ else ⟨anA a s, [], 0, turnA L id (some ⟨a.cs, a.as.set s.toNat x⟩)⟩
def spanA (a : AmV) (lo hi : Int) : Prop := 0 ≤ lo ∧ lo < hi ∧ hi ≤ a.as.length
instance (a : AmV) (lo hi : Int) : Decidable (spanA a lo hi) := inferInstanceAs (Decidable (_ ∧ _ ∧ _))
def allCov (cs : List Int) (lo hi : Int) : Prop := ∀ i, i < cs.length → inJ lo hi i → cs.getD i 0 ≠ 0
instance (cs : List Int) (lo hi : Int) : Decidable (allCov cs lo hi) := inferInstanceAs (Decidable (∀ i, i < cs.length → _ → _))
def holdA (L : AmL) (id lo hi : Int) : AR := match ofA L id with
  | none => ⟨0, [], 7, L⟩
  | some a => if spanA a lo hi ∧ allCov a.cs lo hi ∧ mayJ a.cs lo hi 1 then ⟨0, [], 0, turnA L id (some ⟨moreJ a.cs lo hi 1, a.as⟩)⟩ else ⟨0, [], 2, L⟩
/-- The anons that stand in those slots, by slots; and the slots emptied. -/
def outA (as gs : List Int) : List Int := (gs.map fun i => as.getD i.toNat 0).filter fun x => x != 0
def wipeA (as gs : List Int) : List Int := gs.foldl (fun l i => l.set i.toNat 0) as
def dropA (L : AmL) (id lo hi : Int) : AR := match ofA L id with
  | none => ⟨0, [], 7, L⟩
  | some a => if spanA a lo hi ∧ mayJ a.cs lo hi (-1) then
      ⟨0, outA a.as (goneJ a.cs lo hi (-1)), 0, turnA L id (if sumJ (moreJ a.cs lo hi (-1)) = 0 then none else some ⟨moreJ a.cs lo hi (-1), wipeA a.as (goneJ a.cs lo hi (-1))⟩)⟩
    else ⟨0, [], 2, L⟩
def partA (as : List Int) (lo hi : Int) : List Int := (as.drop lo.toNat).take (hi - lo).toNat
def copyA (most : Nat) (L : AmL) (id lo hi : Int) : AR := match ofA L id with
  | none => ⟨0, [], 7, L⟩
  | some a => if spanA a lo hi then
      (if most ≤ (idsA L).length then ⟨0, [], 5, L⟩ else
        ⟨(firstA L : Int) + 1, (partA a.as lo hi).filter fun x => x != 0, 0, putA L (firstA L) (some ⟨List.replicate (hi - lo).toNat 1, partA a.as lo hi⟩)⟩)
    else ⟨0, [], 2, L⟩
/-- Slots that have an anon, with these, of the first n. -/
def usedTo (as : List Int) (n : Nat) : List (Int × Int) := ((List.range n).filter fun i => as.getD i 0 != 0).map fun i : Nat => ((i : Int), as.getD i 0)
def usedA (as : List Int) : List (Int × Int) := usedTo as as.length

structure GoodA (a : AmV) : Prop where
  len : a.cs.length = a.as.length
  pos : 1 ≤ a.as.length
  cs : JOk a.cs
  as0 : ∀ x, x ∈ a.as → 0 ≤ x ∧ x ≤ 9223372036854775807
  bare : ∀ i, i < a.cs.length → a.cs.getD i 0 = 0 → a.as.getD i 0 = 0
  some_ : sumJ a.cs ≠ 0
structure GoodL (most : Nat) (L : AmL) : Prop where
  len : L.length ≤ most
  most : most ≤ 4096
  each : ∀ a, some a ∈ L → GoodA a

section
variable {L : AmL} {most i : Nat} {x y : Option AmV} {a b : AmV} {id s lo hi : Int}
theorem liveA_some (h : L[i]? = some (some a)) : liveA L i = true := by unfold liveA; rw [h]
theorem liveA_none (h : L[i]? = some none) : liveA L i = false := by unfold liveA; rw [h]
theorem liveA_out (h : L.length ≤ i) : liveA L i = false := by unfold liveA; rw [List.getElem?_eq_none h]
theorem liveA_lt (h : liveA L i = true) : i < L.length := by
  rcases Nat.lt_or_ge i L.length with h1 | h1
  · exact h1
  · rw [liveA_out h1] at h; cases h
theorem idsATo_succ (L : AmL) (n : Nat) : idsATo L (n + 1) = idsATo L n ++ if liveA L n = true then [(n : Int) + 1] else [] := by
  unfold idsATo
  rw [List.range_succ, List.filter_append, List.map_append]
  congr 1
  cases h : liveA L n <;> simp [h]
theorem ofA_get (h : ofA L id = some a) : 1 ≤ id ∧ id ≤ L.length ∧ L[(id - 1).toNat]? = some (some a) := by
  unfold ofA at h
  split at h
  · rename_i hc
    refine ⟨hc.1, hc.2, ?_⟩
    split at h
    · rename_i x hx
      rw [hx, h]
    · cases h
  · cases h
theorem ofA_at (h : L[i]? = some (some a)) : ofA L ((i : Int) + 1) = some a := by
  have hl := (List.getElem?_eq_some_iff.1 h).1
  unfold ofA
  rw [if_pos (by omega), show ((i : Int) + 1 - 1).toNat = i by omega, h]
theorem ofA_good (h : GoodL most L) (ha : ofA L id = some a) : GoodA a := h.each a (List.mem_of_getElem? (ofA_get ha).2.2)
theorem anA_pos (h : GoodA a) : 0 ≤ anA a s := by
  unfold anA
  split
  · rename_i hc
    exact (h.as0 _ (getD_mem (by omega))).1
  · exact Int.le_refl _
theorem anA_hi (h : GoodA a) : anA a s ≤ 9223372036854775807 := by
  unfold anA
  split
  · rename_i hc
    exact (h.as0 _ (getD_mem (by omega))).2
  · decide
theorem covA_in (h : covA a s ≠ 0) : 0 ≤ s ∧ s < a.cs.length := by
  by_cases hs : 0 ≤ s ∧ s < a.cs.length
  · exact hs
  · unfold covA atJ at h
    rw [if_neg hs] at h
    exact absurd (by decide) h
theorem covA_at (h : GoodA a) (hs : 0 ≤ s ∧ s < a.cs.length) : covA a s = a.cs.getD s.toNat 0 := by
  have h1 : atJ a.cs s = a.cs.getD s.toNat 0 := by unfold atJ; rw [if_pos hs]
  have h2 := h.cs.lo _ (getD_mem (L := a.cs) (i := s.toNat) (by omega))
  unfold covA
  rw [h1, if_neg (by omega)]
theorem covA_bounds (h : GoodA a) : 0 ≤ covA a s ∧ covA a s ≤ 1000000 := by
  by_cases hs : 0 ≤ s ∧ s < a.cs.length
  · rw [covA_at h hs]
    have h2 := getD_mem (L := a.cs) (i := s.toNat) (by omega)
    exact ⟨h.cs.lo _ h2, h.cs.hi _ h2⟩
  · have : covA a s = 0 := Classical.byContradiction fun c => hs (covA_in c)
    omega
/-- Where one turns. -/
theorem mem_set_or {A : Type} {l : List A} {k : Nat} {u v : A} (h : u ∈ l.set k v) : u = v ∨ u ∈ l := (List.mem_or_eq_of_mem_set h).symm
theorem mem_putA (h : some a ∈ putA L i x) : some a = x ∨ some a ∈ L := by
  unfold putA at h
  split at h
  · exact mem_set_or h
  · rcases List.mem_append.1 h with h1 | h1
    · exact .inr h1
    · exact .inl (List.mem_singleton.1 h1)
theorem GoodL.turn (h : GoodL most L) (hx : ∀ b, x = some b → GoodA b) : GoodL most (turnA L id x) :=
  ⟨by unfold turnA; rw [List.length_set]; exact h.len, h.most, fun b hb => by
    rcases mem_set_or hb with e | e
    · exact hx b e.symm
    · exact h.each b e⟩
/-- As many live ones as places, where none is free. -/
theorem idsATo_all {n : Nat} (h : ∀ j, j < n → liveA L j = true) : (idsATo L n).length = n := by
  induction n with
  | zero => rfl
  | succ n ih => rw [idsATo_succ, List.length_append, ih (fun j hj => h j (by omega)), if_pos (h n (by omega))]; rfl
theorem idsATo_le {n : Nat} : (idsATo L n).length ≤ n := by
  induction n with
  | zero => exact Nat.le_refl _
  | succ n ih =>
    rw [idsATo_succ, List.length_append]
    split <;> simp <;> omega
theorem first_live {j : Nat} (h : j < firstA L) : liveA L j = true := by
  have hj : j < L.length := Nat.lt_of_lt_of_le h List.findIdx_le_length
  have := List.not_of_lt_findIdx h
  cases e : L[j] with
  | none => rw [e] at this; simp at this
  | some a => exact liveA_some (List.getElem?_eq_some_iff.2 ⟨hj, e⟩)
theorem first_free (h : firstA L < L.length) : L[firstA L]? = some none := by
  have h1 : (L[firstA L]'h).isNone = true := List.findIdx_getElem (w := h)
  rw [List.getElem?_eq_getElem h]
  exact congrArg some (Option.isNone_iff_eq_none.1 h1)
theorem first_le : firstA L ≤ L.length := List.findIdx_le_length
theorem first_room (hl : L.length ≤ most) (h : ¬ most ≤ (idsA L).length) : firstA L < most := by
  rcases Nat.lt_or_ge (firstA L) L.length with h1 | h1
  · omega
  · have h2 := first_le (L := L)
    have h3 : (idsA L).length = L.length := idsATo_all fun j hj => first_live (by omega)
    omega
theorem putA_len : (putA L i x).length = if i < L.length then L.length else L.length + 1 := by
  unfold putA
  split
  · rw [List.length_set]
  · rw [List.length_append]; rfl
theorem GoodL.put (h : GoodL most L) (hr : ¬ most ≤ (idsA L).length) (hx : ∀ b, x = some b → GoodA b) : GoodL most (putA L (firstA L) x) := by
  refine ⟨?_, h.most, fun b hb => ?_⟩
  · rw [putA_len]
    have := first_room h.len hr
    have := first_le (L := L)
    split
    · exact h.len
    · omega
  · rcases mem_putA hb with e | e
    · exact hx b e.symm
    · exact h.each b e
theorem foldl_add (l : List Int) (z : Int) : l.foldl (· + ·) z = z + l.foldl (· + ·) 0 := by
  induction l generalizing z with
  | nil => simp
  | cons x l ih => rw [List.foldl_cons, ih, List.foldl_cons, ih (0 + x)]; omega
theorem sumJ_cons (x : Int) (l : List Int) : sumJ (x :: l) = x + sumJ l := by unfold sumJ; rw [List.foldl_cons, foldl_add]; omega
theorem sumJ_pos {l : List Int} (h : ∀ x, x ∈ l → 0 ≤ x) : 0 ≤ sumJ l := by
  induction l with
  | nil => exact Int.le_refl _
  | cons x l ih => rw [sumJ_cons]; have := h x (by simp); have := ih fun y hy => h y (by simp [hy]); omega
theorem sumJ_zero {l : List Int} (h : ∀ x, x ∈ l → 0 ≤ x) : sumJ l = 0 ↔ ∀ x, x ∈ l → x = 0 := by
  induction l with
  | nil => exact ⟨fun _ _ h => absurd h (by simp), fun _ => rfl⟩
  | cons x l ih =>
    rw [sumJ_cons]
    have h1 := h x (by simp)
    have h2 := sumJ_pos fun y hy => h y (List.mem_cons_of_mem _ hy)
    have h3 := ih fun y hy => h y (List.mem_cons_of_mem _ hy)
    constructor
    · intro e y hy
      rcases List.mem_cons.1 hy with rfl | hy
      · omega
      · exact h3.1 (by omega) y hy
    · intro e
      have := e x (by simp)
      have := h3.2 fun y hy => e y (List.mem_cons_of_mem _ hy)
      omega
theorem getD_rep {n i : Nat} {v : Int} (h : i < n) : (List.replicate n v).getD i 0 = v := by
  rw [List.getD_eq_getElem?_getD, List.getElem?_replicate, if_pos h]; rfl
theorem GoodA.new {n : Nat} {as : List Int} (h0 : 1 ≤ n) (h1 : n ≤ 4096) (hl : as.length = n) (ha : ∀ x, x ∈ as → 0 ≤ x ∧ x ≤ 9223372036854775807) : GoodA ⟨List.replicate n 1, as⟩ where
  len := by show (List.replicate n (1 : Int)).length = as.length; rw [List.length_replicate, hl]
  pos := by show 1 ≤ as.length; omega
  cs := ⟨by show (List.replicate n (1 : Int)).length ≤ 4096; rw [List.length_replicate]; exact h1, fun x hx => by rw [(List.mem_replicate.1 hx).2]; decide, fun x hx => by rw [(List.mem_replicate.1 hx).2]; decide⟩
  as0 := ha
  bare := fun i hi e => by
    have hi : i < (List.replicate n (1 : Int)).length := hi
    rw [List.length_replicate] at hi
    have e : (List.replicate n (1 : Int)).getD i 0 = 0 := e
    rw [getD_rep hi] at e
    cases e
  some_ := fun e => by
    have e := (sumJ_zero (l := List.replicate n (1 : Int)) (fun x hx => by rw [(List.mem_replicate.1 hx).2]; decide)).1 e 1 (List.mem_replicate.2 ⟨by omega, rfl⟩)
    cases e
theorem GoodA.fresh {n : Nat} (h0 : 1 ≤ n) (h1 : n ≤ 4096) : GoodA (newA n) := GoodA.new h0 h1 (List.length_replicate) fun x hx => by rw [(List.mem_replicate.1 hx).2]; decide
theorem makeA_good {n : Int} (h : GoodL most L) : GoodL most (makeA most L n).L := by
  unfold makeA
  split
  · exact h
  · rename_i hc
    have hc := Classical.not_not.1 hc
    split
    · exact h
    · rename_i hr
      exact h.put hr fun b e => by cases e; exact GoodA.fresh (by omega) (by omega)
theorem getD_set_int {l : List Int} {i j : Nat} {v : Int} : (l.set i v).getD j 0 = if i = j ∧ i < l.length then v else l.getD j 0 := by
  rw [List.getD_eq_getElem?_getD, List.getElem?_set, List.getD_eq_getElem?_getD]
  by_cases e : i = j
  · subst e
    by_cases h : i < l.length
    · simp [h]
    · simp [h]
  · simp [e]
theorem setA_good {v : Int} (h : GoodL most L) (hv : v ≤ 9223372036854775807) : GoodL most (setA L id s v).L := by
  unfold setA
  split
  · exact h
  · rename_i a ha
    split
    · exact h
    · rename_i hc
      have hg := ofA_good h ha
      have h0 : covA a s ≠ 0 := fun e => hc (.inl e)
      refine h.turn fun b e => ?_
      cases e
      refine ⟨by show a.cs.length = (a.as.set _ _).length; rw [List.length_set]; exact hg.len, by show 1 ≤ (a.as.set _ _).length; rw [List.length_set]; exact hg.pos, hg.cs, fun x hx => ?_, fun i hi e => ?_, hg.some_⟩
      · rcases mem_set_or hx with rfl | hx
        · exact ⟨by omega, hv⟩
        · exact hg.as0 x hx
      · have h1 := hg.bare i hi e
        show (a.as.set _ _).getD i 0 = 0
        rw [getD_set_int]
        split
        · rename_i hk
          rw [covA_at hg (covA_in h0), hk.1] at h0
          exact absurd e h0
        · exact h1
end
end Go.Proofs.Ytfmihbiongnpnaa
