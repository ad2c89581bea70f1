/- Layer 13: held, dropped, copied: what is good stays good; the loops' steps. Over no program. -/
import Derived.Test.YtfmihbiongnpnaaAList
import Derived.Test.YtfmihbiongnpnaaJStep
namespace Go.Proofs.Ytfmihbiongnpnaa
set_option linter.unusedVariables false

section
variable {L : AmL} {most i : Nat} {a b : AmV} {id s lo hi : Int}
theorem holdA_good (h : GoodL most L) : GoodL most (holdA L id lo hi).L := by
  unfold holdA
  split
  · exact h
  · rename_i a ha
    split
    · rename_i hc
      obtain ⟨hs, hall, hm⟩ := hc
      have hg := ofA_good h ha
      have hk := hg.cs.add (lo := lo) (hi := hi) (by_ := 1)
      rw [show addJ a.cs lo hi 1 = (goneJ a.cs lo hi 1, 0, moreJ a.cs lo hi 1) by unfold addJ; rw [if_pos hm]] at hk
      have hl := hg.len
      refine h.turn fun b e => ?_
      cases e
      refine ⟨by show (moreJ _ _ _ _).length = _; rw [moreJ_len]; exact hg.len, hg.pos, hk, hg.as0, fun i hi' e => ?_, fun e => ?_⟩
      · have hi' : i < (moreJ a.cs lo hi 1).length := hi'
        rw [moreJ_len] at hi'
        have e : (moreJ a.cs lo hi 1).getD i 0 = 0 := e
        rw [moreJ_at hi'] at e
        have := hg.cs.lo _ (getD_mem hi')
        split at e
        · omega
        · exact hg.bare i hi' e
      · have e : sumJ (moreJ a.cs lo hi 1) = 0 := e
        have hz := (sumJ_zero hk.lo).1 e
        have hlt : lo.toNat < a.cs.length := by have := hs.1; have := hs.2.1; have := hs.2.2; omega
        have h1 := hz _ (getD_mem (L := moreJ a.cs lo hi 1) (i := lo.toNat) (by rw [moreJ_len]; exact hlt))
        rw [moreJ_at hlt, if_pos (show inJ lo hi lo.toNat from ⟨by have := hs.1; omega, by have := hs.1; have := hs.2.1; omega⟩)] at h1
        have := hg.cs.lo _ (getD_mem hlt)
        omega
    · exact h
theorem wipe_len {as gs : List Int} : (wipeA as gs).length = as.length := by
  unfold wipeA
  induction gs generalizing as with
  | nil => rfl
  | cons g gs ih => rw [List.foldl_cons, ih, List.length_set]
theorem wipe_at {as gs : List Int} {j : Nat} (h0 : ∀ g, g ∈ gs → 0 ≤ g) : (wipeA as gs).getD j 0 = if (j : Int) ∈ gs then 0 else as.getD j 0 := by
  unfold wipeA
  induction gs generalizing as with
  | nil => simp
  | cons g gs ih =>
    rw [List.foldl_cons, ih (fun x hx => h0 x (by simp [hx])), getD_set_int]
    have hg := h0 g (by simp)
    by_cases e : (j : Int) ∈ gs
    · rw [if_pos e, if_pos (by simp [e])]
    · rw [if_neg e]
      by_cases e2 : (j : Int) = g
      · rw [if_pos (show (j : Int) ∈ g :: gs by simp [e2])]
        split
        · rfl
        · rename_i hn
          have hj : ¬ j < as.length := fun k => hn ⟨by omega, by omega⟩
          rw [List.getD_eq_getElem?_getD, List.getElem?_eq_none (by omega)]; rfl
      · rw [if_neg (by omega), if_neg (by simp [e, e2])]
theorem wipe_mem {as gs : List Int} {x : Int} (h : x ∈ wipeA as gs) : x = 0 ∨ x ∈ as := by
  unfold wipeA at h
  induction gs generalizing as with
  | nil => exact .inr h
  | cons g gs ih =>
    rw [List.foldl_cons] at h
    rcases ih h with e | e
    · exact .inl e
    · rcases mem_set_or e with e | e
      · exact .inl e
      · exact .inr e
theorem goneJ_mem {cs : List Int} {by_ : Int} {j : Nat} : (j : Int) ∈ goneJ cs lo hi by_ ↔ j < cs.length ∧ inJ lo hi j ∧ cs.getD j 0 ≠ 0 ∧ cs.getD j 0 + by_ = 0 := by
  unfold goneJ
  constructor
  · intro h
    obtain ⟨k, hk, e⟩ := List.mem_map.1 h
    obtain rfl : k = j := by omega
    obtain ⟨h1, h2⟩ := List.mem_filter.1 hk
    exact ⟨List.mem_range.1 h1, by simpa using h2⟩
  · rintro ⟨h1, h2⟩
    exact List.mem_map.2 ⟨j, List.mem_filter.2 ⟨List.mem_range.2 h1, by simpa using h2⟩, rfl⟩
theorem goneJ_nat {cs : List Int} {by_ g : Int} (h : g ∈ goneJ cs lo hi by_) : ∃ j : Nat, g = j ∧ j < cs.length := by
  unfold goneJ at h
  obtain ⟨k, hk, e⟩ := List.mem_map.1 h
  exact ⟨k, e.symm, List.mem_range.1 (List.mem_filter.1 hk).1⟩
theorem goneJ_pos {cs : List Int} {by_ : Int} : ∀ g, g ∈ goneJ cs lo hi by_ → 0 ≤ g := fun g hg => by obtain ⟨j, rfl, _⟩ := goneJ_nat hg; omega
theorem goneJ_nodup {cs : List Int} {by_ : Int} : (goneJ cs lo hi by_).Nodup := by
  unfold goneJ
  refine List.Pairwise.map _ (R := fun x y => x ≠ y) (fun a b h e => h (by omega)) ?_
  exact List.Pairwise.filter _ List.nodup_range
theorem dropA_good (h : GoodL most L) : GoodL most (dropA L id lo hi).L := by
  unfold dropA
  split
  · exact h
  · rename_i a ha
    split
    · rename_i hc
      obtain ⟨hs, hm⟩ := hc
      have hg := ofA_good h ha
      have hk := hg.cs.add (lo := lo) (hi := hi) (by_ := -1)
      rw [show addJ a.cs lo hi (-1) = (goneJ a.cs lo hi (-1), 0, moreJ a.cs lo hi (-1)) by unfold addJ; rw [if_pos hm]] at hk
      refine h.turn fun b e => ?_
      split at e
      · cases e
      · rename_i hz
        cases e
        refine ⟨by show (moreJ _ _ _ _).length = (wipeA _ _).length; rw [moreJ_len, wipe_len]; exact hg.len, by show 1 ≤ (wipeA _ _).length; rw [wipe_len]; exact hg.pos, hk, fun x hx => ?_, fun i hi' e => ?_, hz⟩
        · rcases wipe_mem hx with rfl | hx
          · decide
          · exact hg.as0 x hx
        · have hi' : i < (moreJ a.cs lo hi (-1)).length := hi'
          rw [moreJ_len] at hi'
          have e : (moreJ a.cs lo hi (-1)).getD i 0 = 0 := e
          show (wipeA a.as _).getD i 0 = 0
          rw [wipe_at goneJ_pos]
          rw [moreJ_at hi'] at e
          split
          · rfl
          · rename_i hn
            split at e
            · rename_i hin
              exact absurd (goneJ_mem.2 ⟨hi', hin, by omega, e⟩) hn
            · exact hg.bare i hi' e
    · exact h
theorem part_len {as : List Int} (h0 : 0 ≤ lo) (h1 : lo ≤ hi) (h2 : hi ≤ as.length) : (partA as lo hi).length = (hi - lo).toNat := by
  unfold partA
  rw [List.length_take, List.length_drop]
  omega
theorem part_mem {as : List Int} {x : Int} (h : x ∈ partA as lo hi) : x ∈ as := List.mem_of_mem_drop (List.mem_of_mem_take h)
theorem part_none {as : List Int} : partA as lo lo = [] := by unfold partA; rw [show (lo - lo).toNat = 0 by omega]; simp
theorem part_at {as : List Int} {j : Nat} (h0 : 0 ≤ lo) (hj : (j : Int) < hi - lo) : (partA as lo hi).getD j 0 = as.getD (lo.toNat + j) 0 := by
  unfold partA
  rw [List.getD_eq_getElem?_getD, List.getD_eq_getElem?_getD, List.getElem?_take, if_pos (by omega), List.getElem?_drop]
theorem part_step {as : List Int} {j : Nat} (h0 : 0 ≤ lo) (h1 : lo ≤ j) (h2 : j < as.length) : partA as lo ((j : Int) + 1) = partA as lo j ++ [as.getD j 0] := by
  unfold partA
  rw [show ((j : Int) + 1 - lo).toNat = ((j : Int) - lo).toNat + 1 by omega, List.take_add_one, List.getElem?_drop, show lo.toNat + ((j : Int) - lo).toNat = j by omega, List.getElem?_eq_getElem h2, List.getD_eq_getElem?_getD, List.getElem?_eq_getElem h2]
  rfl
theorem copyA_good (h : GoodL most L) : GoodL most (copyA most L id lo hi).L := by
  unfold copyA
  split
  · exact h
  · rename_i a ha
    split
    · rename_i hs
      split
      · exact h
      · rename_i hr
        have hg := ofA_good h ha
        have h4 := hg.cs.len
        have h5 := hg.len
        obtain ⟨s0, s1, s2⟩ := hs
        refine h.put hr fun b e => ?_
        cases e
        exact GoodA.new (by omega) (by omega) (part_len s0 (by omega) s2) fun x hx => hg.as0 x (part_mem hx)
    · exact h

/-- The slots that became empty, one after another: what is read is what stood there. -/
theorem wipe_read {as : List Int} {gs : List Int} {k : Nat} {g : Int} (h0 : ∀ g, g ∈ gs → 0 ≤ g) (hn : gs.Nodup) (hg : gs[k]? = some g) : (wipeA as (gs.take k)).getD g.toNat 0 = as.getD g.toNat 0 := by
  have hp := h0 g (List.mem_of_getElem? hg)
  rw [wipe_at fun x hx => h0 x (List.mem_of_mem_take hx), if_neg ?_]
  rw [show ((g.toNat : Nat) : Int) = g by omega]
  intro hm
  obtain ⟨j, hj⟩ := List.getElem?_of_mem hm
  rw [List.getElem?_take] at hj
  split at hj
  · rename_i hlt
    obtain ⟨a1, e1⟩ := List.getElem?_eq_some_iff.1 hj
    obtain ⟨a2, e2⟩ := List.getElem?_eq_some_iff.1 hg
    exact List.pairwise_iff_getElem.1 hn j k a1 a2 hlt (e1.trans e2.symm)
  · cases hj
theorem take_succ {A : Type} {l : List A} {k : Nat} {x : A} (h : l[k]? = some x) : l.take (k + 1) = l.take k ++ [x] := by rw [List.take_add_one, h]; rfl
theorem out_step {as gs : List Int} {k : Nat} {g : Int} (hg : gs[k]? = some g) : outA as (gs.take (k + 1)) = outA as (gs.take k) ++ if as.getD g.toNat 0 ≠ 0 then [as.getD g.toNat 0] else [] := by
  unfold outA
  rw [take_succ hg, List.map_append, List.filter_append]
  congr 1
  by_cases e : as.getD g.toNat 0 = 0
  · rw [if_neg (by omega), List.map_cons, List.map_nil, List.filter_cons_of_neg (by rw [e]; decide)]; rfl
  · rw [if_pos e]; simp only [List.map_cons, List.map_nil]; rw [List.filter_cons_of_pos (by simpa using e)]; rfl
theorem out_snoc {as gs : List Int} {g : Int} : outA as (gs ++ [g]) = outA as gs ++ if as.getD g.toNat 0 ≠ 0 then [as.getD g.toNat 0] else [] := by
  unfold outA
  rw [List.map_append, List.filter_append]
  congr 1
  by_cases e : as.getD g.toNat 0 = 0
  · rw [if_neg (by omega), List.map_cons, List.map_nil, List.filter_cons_of_neg (by rw [e]; decide)]; rfl
  · rw [if_pos e]; simp only [List.map_cons, List.map_nil]; rw [List.filter_cons_of_pos (by simpa using e)]; rfl
theorem wipe_step {as gs : List Int} {k : Nat} {g : Int} (hg : gs[k]? = some g) : wipeA as (gs.take (k + 1)) = (wipeA as (gs.take k)).set g.toNat 0 := by
  unfold wipeA
  rw [take_succ hg, List.foldl_append]
  rfl
theorem wipe_snoc {as gs : List Int} {g : Int} : wipeA as (gs ++ [g]) = (wipeA as gs).set g.toNat 0 := by
  unfold wipeA
  rw [List.foldl_append]
  rfl
theorem usedTo_succ {as : List Int} {n : Nat} : usedTo as (n + 1) = usedTo as n ++ if as.getD n 0 ≠ 0 then [((n : Int), as.getD n 0)] else [] := by
  unfold usedTo
  rw [List.range_succ, List.filter_append, List.map_append]
  congr 1
  by_cases h : as.getD n 0 = 0
  · rw [if_neg (by omega), List.filter_cons_of_neg (by simpa using h)]; rfl
  · rw [if_pos h, List.filter_cons_of_pos (by simpa using h)]; rfl
theorem turnA_at {x : Option AmV} {j : Nat} : (turnA L id x)[j]? = if (id - 1).toNat = j then (if j < L.length then some x else none) else L[j]? := by
  unfold turnA
  rw [List.getElem?_set]
  by_cases e : (id - 1).toNat = j
  · rw [if_pos e, if_pos e]; subst e; rfl
  · rw [if_neg e, if_neg e]
theorem turnA_len {x : Option AmV} : (turnA L id x).length = L.length := by unfold turnA; rw [List.length_set]
theorem ofA_turn (h : ofA L id = some a) (b : AmV) : ofA (turnA L id (some b)) id = some b := by
  obtain ⟨h1, h2, h3⟩ := ofA_get h
  unfold ofA
  rw [turnA_len, if_pos ⟨h1, h2⟩, turnA_at, if_pos rfl, if_pos (by omega)]
theorem ofA_gone (h : ofA L id = some a) : ofA (turnA L id none) id = none := by
  obtain ⟨h1, h2, h3⟩ := ofA_get h
  unfold ofA
  rw [turnA_len, if_pos ⟨h1, h2⟩, turnA_at, if_pos rfl, if_pos (by omega)]
theorem ofA_other {x : Option AmV} {id2 : Int} (h : ofA L id = some a) (hne : id2 ≠ id) : ofA (turnA L id x) id2 = ofA L id2 := by
  obtain ⟨h1, h2, h3⟩ := ofA_get h
  unfold ofA
  rw [turnA_len]
  split
  · rename_i hc
    rw [turnA_at, if_neg (by omega)]
  · rfl
theorem put_at {x : Option AmV} {j : Nat} (hi : i ≤ L.length) : (putA L i x)[j]? = if j = i then some x else L[j]? := by
  unfold putA
  split
  · rename_i h
    rw [List.getElem?_set]
    by_cases e : i = j
    · subst e; simp [h]
    · rw [if_neg e, if_neg (fun k => e k.symm)]
  · rename_i h
    obtain rfl : i = L.length := by omega
    by_cases e : j = L.length
    · subst e; simp
    · rw [if_neg e]
      rcases Nat.lt_or_ge j L.length with h1 | h1
      · rw [List.getElem?_append_left h1]
      · rw [List.getElem?_eq_none (by rw [List.length_append]; simp; omega), List.getElem?_eq_none h1]
theorem ofA_get? {id : Int} : ofA L id = if 1 ≤ id then (match L[(id - 1).toNat]? with | some x => x | none => none) else none := by
  unfold ofA
  by_cases h : 1 ≤ id
  · by_cases h2 : id ≤ L.length
    · rw [if_pos ⟨h, h2⟩, if_pos h]
      cases L[(id - 1).toNat]? <;> rfl
    · rw [if_neg (fun k => h2 k.2), if_pos h, List.getElem?_eq_none (by omega)]
  · rw [if_neg (fun k => h k.1), if_neg h]
theorem ofA_made (b : AmV) : ofA (putA L (firstA L) (some b)) ((firstA L : Int) + 1) = some b := by
  rw [ofA_get?, if_pos (by omega), put_at first_le, if_pos (by omega)]
theorem ofA_keeps {b : AmV} {id : Int} (h : id ≠ (firstA L : Int) + 1) : ofA (putA L (firstA L) (some b)) id = ofA L id := by
  rw [ofA_get?, ofA_get?]
  split
  · rw [put_at first_le, if_neg (by omega)]
  · rfl
theorem ofA_first : ofA L ((firstA L : Int) + 1) = none := by
  rw [ofA_get?, if_pos (by omega), show ((firstA L : Int) + 1 - 1).toNat = firstA L by omega]
  rcases Nat.lt_or_ge (firstA L) L.length with h | h
  · rw [first_free h]
  · rw [List.getElem?_eq_none h]
theorem add_all {n : Nat} (h : 1 ≤ n) : addJ (List.replicate n 0) 0 n 1 = ([], 0, List.replicate n 1) := by
  have hm : mayJ (List.replicate n 0) 0 n 1 := ⟨⟨Int.le_refl _, by rw [List.length_replicate]; exact Int.le_refl _, by omega⟩, fun i hi _ => by rw [List.length_replicate] at hi; rw [getD_rep hi]; decide⟩
  have h1 : goneJ (List.replicate n 0) 0 n 1 = [] := by
    unfold goneJ
    rw [List.filter_eq_nil_iff.2 fun i hi => ?_]
    · rfl
    · have hi := List.mem_range.1 hi
      rw [List.length_replicate] at hi
      simp only [decide_eq_true_iff]
      intro e
      rw [getD_rep hi] at e
      exact e.2.1 rfl
  have h2 : moreJ (List.replicate n 0) 0 n 1 = List.replicate n 1 := by
    refine list_getD_ext (by rw [moreJ_len, List.length_replicate, List.length_replicate]) fun i hi => ?_
    rw [moreJ_len, List.length_replicate] at hi
    rw [moreJ_at (by rw [List.length_replicate]; exact hi), if_pos (show inJ 0 n i from ⟨by omega, by omega⟩), getD_rep hi, getD_rep hi]
    rfl
  unfold addJ
  rw [if_pos hm, h1, h2]
theorem may_less {cs : List Int} (hk : JOk cs) (h0 : 0 ≤ lo) (h1 : lo ≤ hi) (h2 : hi ≤ cs.length) : mayJ cs lo hi (-1) ↔ allCov cs lo hi := by
  constructor
  · intro h i hi' hin e
    have := h.2 i hi' hin
    omega
  · intro h
    refine ⟨⟨h0, h2, h1⟩, fun i hi' hin => ?_⟩
    have := h i hi' hin
    have := hk.lo _ (getD_mem hi')
    have := hk.hi _ (getD_mem hi')
    omega
theorem may_more {cs : List Int} (hk : JOk cs) (hb : ∀ x, x ∈ cs → x < 1000000) (h0 : 0 ≤ lo) (h1 : lo ≤ hi) (h2 : hi ≤ cs.length) : mayJ cs lo hi 1 := by
  refine ⟨⟨h0, h2, h1⟩, fun i hi' hin => ?_⟩
  have := hb _ (getD_mem hi')
  have := hk.lo _ (getD_mem hi')
  omega
end
end Go.Proofs.Ytfmihbiongnpnaa
