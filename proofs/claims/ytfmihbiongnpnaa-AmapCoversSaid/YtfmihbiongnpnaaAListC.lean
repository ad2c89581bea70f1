/- Layer 13: what is told as far as is wanted; a drop item by item; the lowest number. Over no program. -/
import Derived.Test.YtfmihbiongnpnaaAListB
namespace Go.Proofs.Ytfmihbiongnpnaa
set_option linter.unusedVariables false

/-- Is more wanted? (Twice the number, as a machine has it.) -/
def moreU (look m2 : Int) (n : Nat) : Prop := look < 0 ∨ (n : Int) < m2
instance (look m2 : Int) (n : Nat) : Decidable (moreU look m2 n) := inferInstanceAs (Decidable (_ ∨ _))
def cutU (look m2 : Int) (u : List (Int × Int)) : List Int := u.foldl (fun l p => if moreU look m2 l.length then l ++ [p.1, p.2] else l) []
section
variable {look m2 : Int} {u v : List (Int × Int)} {x : Int × Int}
theorem cutu_nil : cutU look m2 [] = [] := rfl
theorem cutu_snoc : cutU look m2 (u ++ [x]) = if moreU look m2 (cutU look m2 u).length then cutU look m2 u ++ [x.1, x.2] else cutU look m2 u := by
  unfold cutU
  rw [List.foldl_append]
  rfl
theorem cutu_stop (h : ¬ moreU look m2 (cutU look m2 u).length) : cutU look m2 (u ++ v) = cutU look m2 u := by
  unfold cutU at h ⊢
  rw [List.foldl_append]
  generalize List.foldl _ [] u = l at h ⊢
  induction v with
  | nil => rfl
  | cons y v ih => rw [List.foldl_cons, if_neg h]; exact ih
/-- One used slot more, or none. -/
theorem cutu_used {as : List Int} {n : Nat} : cutU look m2 (usedTo as (n + 1)) = if as.getD n 0 ≠ 0 ∧ moreU look m2 (cutU look m2 (usedTo as n)).length then cutU look m2 (usedTo as n) ++ [(n : Int), as.getD n 0] else cutU look m2 (usedTo as n) := by
  rw [usedTo_succ]
  by_cases h : as.getD n 0 = 0
  · rw [if_neg (by omega), List.append_nil, if_neg (fun k => k.1 h)]
  · rw [if_pos h, cutu_snoc]
    by_cases h2 : moreU look m2 (cutU look m2 (usedTo as n)).length
    · rw [if_pos h2, if_pos ⟨h, h2⟩]
    · rw [if_neg h2, if_neg (fun k => h2 k.2)]
theorem cutu_len : (cutU look m2 u).length ≤ 2 * u.length := by
  suffices h : ∀ (l : List Int), (u.foldl (fun l p => if moreU look m2 l.length then l ++ [p.1, p.2] else l) l).length ≤ l.length + 2 * u.length by
    have := h []
    simpa [cutU] using this
  induction u with
  | nil => intro l; simp
  | cons y u ih =>
    intro l
    rw [List.foldl_cons]
    refine Nat.le_trans (ih _) ?_
    split <;> simp <;> omega
theorem used_len {as : List Int} {n : Nat} : (usedTo as n).length ≤ n := by
  unfold usedTo
  rw [List.length_map]
  exact Nat.le_trans (List.length_filter_le _ _) (by rw [List.length_range]; exact Nat.le_refl _)
end

section
variable {cs as : List Int} {lo : Int} {i : Nat}
/-- A drop, one slot more. -/
theorem drop_here (hi : i < cs.length) : (moreJ cs lo i (-1)).getD i 0 = cs.getD i 0 := moreJ_here hi
theorem drop_in (hi : i < cs.length) : (wipeA as (goneJ cs lo i (-1))).getD i 0 = as.getD i 0 := by
  rw [wipe_at goneJ_pos, if_neg]
  intro h
  have := (goneJ_mem.1 h).2.1.2
  omega
theorem drop_cover (h0 : lo ≤ i) (hi : i < cs.length) : (moreJ cs lo i (-1)).set i (cs.getD i 0 - 1) = moreJ cs lo ((i : Int) + 1) (-1) := by
  rw [moreJ_step h0 hi]
  rfl
theorem drop_stays (h0 : lo ≤ i) (hi : i < cs.length) (h : cs.getD i 0 - 1 ≠ 0) : goneJ cs lo ((i : Int) + 1) (-1) = goneJ cs lo i (-1) := by
  rw [goneJ_step h0 hi, if_neg (by omega), List.append_nil]
theorem drop_goes (h0 : lo ≤ i) (hi : i < cs.length) (h : cs.getD i 0 - 1 = 0) : goneJ cs lo ((i : Int) + 1) (-1) = goneJ cs lo i (-1) ++ [(i : Int)] := by
  rw [goneJ_step h0 hi, if_pos (by omega)]
theorem drop_wiped (h0 : lo ≤ i) (hi : i < cs.length) (h : cs.getD i 0 - 1 = 0) : wipeA as (goneJ cs lo ((i : Int) + 1) (-1)) = (wipeA as (goneJ cs lo i (-1))).set i 0 := by
  rw [drop_goes h0 hi h, wipe_snoc]
  rfl
theorem drop_out (h0 : lo ≤ i) (hi : i < cs.length) (h : cs.getD i 0 - 1 = 0) : outA as (goneJ cs lo ((i : Int) + 1) (-1)) = outA as (goneJ cs lo i (-1)) ++ if as.getD i 0 ≠ 0 then [as.getD i 0] else [] := by
  rw [drop_goes h0 hi h, out_snoc]
  rfl
end

section
variable {L : AmL} {i : Nat} {a : AmV}
theorem first_eq (h1 : ∀ j, j < i → liveA L j = true) (h2 : liveA L i = false) (h3 : i ≤ L.length) : firstA L = i := by
  rcases Nat.lt_trichotomy (firstA L) i with h | h | h
  · have h4 := h1 _ h
    rw [liveA_none (first_free (by omega))] at h4
    cases h4
  · exact h
  · rw [first_live h] at h2
    cases h2
theorem ids_lt (h : liveA L i = false) (hi : i < L.length) : (idsA L).length < L.length := by
  suffices k : ∀ n, i < n → (idsATo L n).length < n from k _ hi
  intro n
  induction n with
  | zero => intro h; omega
  | succ n ih =>
    intro hn
    rw [idsATo_succ, List.length_append]
    by_cases e : i = n
    · subst e
      rw [if_neg (by rw [h]; decide)]
      have := idsATo_le (L := L) (n := i)
      show (idsATo L i).length + 0 < i + 1
      omega
    · have := ih (by omega)
      split <;> simp <;> omega
theorem ids_full (h : ∀ j, j < L.length → liveA L j = true) : (idsA L).length = L.length := idsATo_all h
theorem ids_le : (idsA L).length ≤ L.length := idsATo_le
/-- Rising numbers, each from 1 on. -/
theorem liveA_of (h : ofA L ((i : Int) + 1) = some a) : liveA L i = true := by
  have := (ofA_get h).2.2
  rw [show ((i : Int) + 1 - 1).toNat = i by omega] at this
  exact liveA_some this
end
end Go.Proofs.Ytfmihbiongnpnaa
