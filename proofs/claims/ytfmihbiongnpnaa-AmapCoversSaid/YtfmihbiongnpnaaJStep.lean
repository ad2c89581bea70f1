/- Layer 11: one item more of what is added. Over no program. -/
import Derived.Test.YtfmihbiongnpnaaJList
namespace Go.Proofs.Ytfmihbiongnpnaa
set_option linter.unusedVariables false

theorem getD_at {L : List Int} {i : Nat} {x : Int} (hx : L[i]? = some x) : L.getD i 0 = x := by rw [List.getD_eq_getElem?_getD, hx]; rfl
theorem moreJ_none (L : List Int) (lo by_ : Int) : moreJ L lo lo by_ = L := by
  refine list_getD_ext moreJ_len fun i hi => ?_
  rw [moreJ_len] at hi
  rw [moreJ_at hi, if_neg (by unfold inJ; omega)]
theorem getD_set {L : List Int} {i j : Nat} {x : Int} (hi : i < L.length) : (L.set i x).getD j 0 = if j = i then x else L.getD j 0 := by
  rw [List.getD_eq_getElem?_getD, List.getD_eq_getElem?_getD, List.getElem?_set]
  by_cases h : i = j
  · subst h; simp [hi]
  · rw [if_neg h, if_neg (fun e => h e.symm)]
theorem moreJ_step {L : List Int} {lo by_ : Int} {i : Nat} (h0 : lo ≤ i) (hi : i < L.length) : moreJ L lo ((i : Int) + 1) by_ = (moreJ L lo i by_).set i (L.getD i 0 + by_) := by
  refine list_getD_ext (by simp [moreJ_len]) fun j hj => ?_
  rw [moreJ_len] at hj
  rw [getD_set (by rw [moreJ_len]; exact hi), moreJ_at hj, moreJ_at hj]
  by_cases e : j = i
  · subst e
    rw [if_pos (show inJ lo ((j : Int) + 1) j from ⟨h0, by omega⟩), if_pos rfl]
  · rw [if_neg e]
    by_cases h : lo ≤ (j : Int) ∧ (j : Int) < i
    · rw [if_pos (show inJ lo ((i : Int) + 1) j from ⟨h.1, by omega⟩), if_pos (show inJ lo (i : Int) j from h)]
    · rw [if_neg (show ¬ inJ lo ((i : Int) + 1) j from fun k => h ⟨k.1, by have := k.2; omega⟩), if_neg (show ¬ inJ lo (i : Int) j from h)]
theorem moreJ_here {L : List Int} {lo by_ : Int} {i : Nat} (hi : i < L.length) : (moreJ L lo i by_).getD i 0 = L.getD i 0 := by
  rw [moreJ_at hi, if_neg (by unfold inJ; omega)]
theorem goneJ_none (L : List Int) (lo by_ : Int) : goneJ L lo lo by_ = [] := by
  unfold goneJ
  rw [List.filter_eq_nil_iff.2 fun i _ => ?_]
  · rfl
  · simp only [decide_eq_true_iff]
    unfold inJ
    omega
theorem goneJ_step {L : List Int} {lo by_ : Int} {i : Nat} (h0 : lo ≤ i) (hi : i < L.length) : goneJ L lo ((i : Int) + 1) by_ = goneJ L lo i by_ ++ (if L.getD i 0 ≠ 0 ∧ L.getD i 0 + by_ = 0 then [(i : Int)] else []) := by
  unfold goneJ
  obtain ⟨d, hd⟩ : ∃ d, L.length = i + 1 + d := ⟨L.length - (i + 1), by omega⟩
  rw [hd, List.range_add, List.range_succ, List.filter_append, List.filter_append, List.filter_append, List.filter_append]
  have e1 : ∀ x, x ≤ (i : Int) + 1 → ((List.range d).map (i + 1 + ·)).filter (fun j => decide (inJ lo x j ∧ L.getD j 0 ≠ 0 ∧ L.getD j 0 + by_ = 0)) = [] := fun x hx => by
    rw [List.filter_eq_nil_iff]
    intro j hj
    obtain ⟨k, _, rfl⟩ := List.mem_map.1 hj
    simp only [decide_eq_true_iff]
    intro e
    have := e.1.2
    omega
  rw [e1 _ (Int.le_refl _), e1 _ (by omega), List.append_nil, List.append_nil]
  have e2 : [i].filter (fun j => decide (inJ lo (i : Int) j ∧ L.getD j 0 ≠ 0 ∧ L.getD j 0 + by_ = 0)) = [] := by
    rw [List.filter_cons_of_neg (by simp only [decide_eq_true_iff]; intro e; have := e.1.2; omega)]
    rfl
  rw [e2, List.append_nil, List.map_append]
  congr 1
  · congr 1
    refine List.filter_congr fun j hj => ?_
    have hlt := List.mem_range.1 hj
    rw [decide_eq_decide]
    unfold inJ
    constructor
    · rintro ⟨a, b⟩; exact ⟨⟨a.1, by omega⟩, b⟩
    · rintro ⟨a, b⟩; exact ⟨⟨a.1, by omega⟩, b⟩
  · by_cases h : L.getD i 0 ≠ 0 ∧ L.getD i 0 + by_ = 0
    · rw [if_pos h, List.filter_cons_of_pos (by simp only [decide_eq_true_iff]; exact ⟨⟨h0, by omega⟩, h⟩)]
      rfl
    · rw [if_neg h, List.filter_cons_of_neg (by simp only [decide_eq_true_iff]; exact fun e => h e.2)]
      rfl
theorem goneJ_len (L : List Int) (lo hi by_ : Int) : (goneJ L lo hi by_).length ≤ L.length := by
  unfold goneJ
  rw [List.length_map]
  refine Nat.le_trans (List.length_filter_le _ _) ?_
  rw [List.length_range]
  exact Nat.le_refl _

end Go.Proofs.Ytfmihbiongnpnaa
