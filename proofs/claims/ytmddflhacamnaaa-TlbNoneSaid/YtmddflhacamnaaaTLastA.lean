/- What TlbLast reckons for a key, and that it holds of what is kept. Plain lists. -/
import Derived.Test.YtmddflhacamnaaaTActs
namespace Go.Proofs.Ytmddflhacamnaaa
open Go.ChangeShapes Go.WideShapes Go.ChangeAt Go.RowKit
set_option linter.unusedVariables false

/-- What one thing that is done makes of the number that stands for a key. -/
def lastStep (a v : Int) (L : Int) (j : Nat) (B : TActV) : Int :=
  if 0 ≤ (if B.k = 0 ∧ B.a = a ∧ B.v = v then (j : Int) else L) ∧ (B.k = 1 ∧ B.a = a ∧ B.v = v ∨ B.k = 2 ∧ B.a = a ∨ B.k = 3) then -1
  else if B.k = 0 ∧ B.a = a ∧ B.v = v then (j : Int) else L
def lastOf (As : List TActV) (a v : Int) : Nat → Int
  | 0 => -1
  | j + 1 => match As[j]? with
    | some B => lastStep a v (lastOf As a v j) j B
    | none => lastOf As a v j
theorem lastOf_step {As : List TActV} {a v : Int} {j : Nat} {B : TActV} (h : As[j]? = some B) : lastOf As a v (j + 1) = lastStep a v (lastOf As a v j) j B := by
  show (match As[j]? with | some B => _ | none => _) = _
  rw [h]

section
variable {a v L : Int} {j : Nat} {B : TActV}
theorem ls_put (hk : B.k = 0) (h : B.a = a ∧ B.v = v) : lastStep a v L j B = j := by
  unfold lastStep
  rw [if_pos (c := B.k = 0 ∧ B.a = a ∧ B.v = v) ⟨hk, h⟩, if_neg (by rw [hk]; omega)]
theorem ls_gone (h0 : 0 ≤ L) (hk : B.k = 1 ∧ B.a = a ∧ B.v = v ∨ B.k = 2 ∧ B.a = a ∨ B.k = 3) : lastStep a v L j B = -1 := by
  unfold lastStep
  rw [if_neg (c := B.k = 0 ∧ B.a = a ∧ B.v = v) (by omega), if_pos ⟨h0, hk⟩]
theorem ls_stay (hp : ¬ (B.k = 0 ∧ B.a = a ∧ B.v = v)) (hk : ¬ (B.k = 1 ∧ B.a = a ∧ B.v = v ∨ B.k = 2 ∧ B.a = a ∨ B.k = 3)) : lastStep a v L j B = L := by
  unfold lastStep
  rw [if_neg hp, if_neg (fun h => hk h.2)]
theorem ls_neg (hp : ¬ (B.k = 0 ∧ B.a = a ∧ B.v = v)) (h0 : ¬ 0 ≤ L) : lastStep a v L j B = L := by
  unfold lastStep
  rw [if_neg hp, if_neg (fun h => h0 h.1)]
end

/-- What is done to what is kept. -/
def actL (sz : Int) (xs : List KeptV) (A : TActV) : List KeptV :=
  if A.k = 0 then putL sz xs A.y else if A.k = 1 then dropK (sameK A.a A.v) xs else if A.k = 2 then dropK (fun x => x.a == A.a) xs else if A.k = 3 then [] else xs

def keyP (x : KeptV) : Int × Int := (x.a, x.v)
/-- No key is there twice; each was put last by the one that its number says. -/
structure LastI (As : List TActV) (xs : List KeptV) (i : Nat) : Prop where
  nd : (xs.map keyP).Nodup
  last : ∀ y, y ∈ xs → ∃ (jj : Nat) (B : TActV), lastOf As y.a y.v i = jj ∧ jj < i ∧ As[jj]? = some B ∧ B.fl = y.fl ∧ B.pp = y.pp ∧ B.a = y.a ∧ B.v = y.v

theorem LastI.nil (As : List TActV) (i : Nat) : LastI As [] i := ⟨by simp, by simp⟩
theorem LastI.sub {As : List TActV} {xs zs : List KeptV} {i : Nat} {A : TActV} (h : LastI As xs i) (hA : As[i]? = some A) (hs : zs.Sublist xs)
    (hp : A.k ≠ 0) (hk : ∀ y, y ∈ zs → ¬ (A.k = 1 ∧ A.a = y.a ∧ A.v = y.v ∨ A.k = 2 ∧ A.a = y.a ∨ A.k = 3)) : LastI As zs (i + 1) := by
  refine ⟨h.nd.sublist (hs.map keyP), fun y hy => ?_⟩
  obtain ⟨jj, B, h1, h2, h3⟩ := h.last y (hs.subset hy)
  refine ⟨jj, B, ?_, by omega, h3⟩
  rw [lastOf_step hA, ls_stay (by omega) (hk y hy), h1]

theorem find_idx_none {p : KeptV → Bool} {xs : List KeptV} (h : xs.findIdx? p = none) : ∀ z, z ∈ xs → p z = false := by
  intro z hz
  have := List.findIdx?_eq_none_iff.1 h z hz
  simpa using this

theorem LastI.put {As : List TActV} {xs : List KeptV} {i : Nat} {A : TActV} {sz : Int} (h : LastI As xs i) (hA : As[i]? = some A) (hk : A.k = 0) : LastI As (putL sz xs A.y) (i + 1) := by
  have hnew : ∃ (jj : Nat) (B : TActV), lastOf As A.y.a A.y.v (i + 1) = jj ∧ jj < i + 1 ∧ As[jj]? = some B ∧ B.fl = A.y.fl ∧ B.pp = A.y.pp ∧ B.a = A.y.a ∧ B.v = A.y.v :=
    ⟨i, A, (lastOf_step hA).trans (ls_put hk ⟨rfl, rfl⟩), by omega, hA, rfl, rfl, rfl, rfl⟩
  have hold : ∀ y, y ∈ xs → sameK A.a A.v y = false → ∃ (jj : Nat) (B : TActV), lastOf As y.a y.v (i + 1) = jj ∧ jj < i + 1 ∧ As[jj]? = some B ∧ B.fl = y.fl ∧ B.pp = y.pp ∧ B.a = y.a ∧ B.v = y.v := by
    intro y hy hs
    rw [same_iff] at hs
    have hs' : ¬ (y.a = A.a ∧ y.v = A.v) := by simpa using hs
    obtain ⟨jj, B, h1, h2, h3⟩ := h.last y hy
    exact ⟨jj, B, by rw [lastOf_step hA, ls_stay (fun hh => hs' ⟨hh.2.1.symm, hh.2.2.symm⟩) (by rw [hk]; omega), h1], by omega, h3⟩
  unfold putL
  split
  · rename_i idx hf
    obtain ⟨hlt, hsame, hb⟩ := List.findIdx?_eq_some_iff_getElem.1 hf
    have hkey : keyP A.y = keyP xs[idx] := by
      rw [same_iff] at hsame
      have hh := of_decide_eq_true hsame
      unfold keyP
      rw [hh.1, hh.2]
    have hmap : (xs.set idx A.y).map keyP = xs.map keyP := by
      rw [List.map_set, hkey]
      have : keyP xs[idx] = (xs.map keyP)[idx]'(by simpa using hlt) := by simp
      rw [this, List.set_getElem_self]
    refine ⟨by rw [hmap]; exact h.nd, fun y hy => ?_⟩
    obtain ⟨q, hq, rfl⟩ := List.getElem_of_mem hy
    rw [List.getElem_set]
    split
    · exact hnew
    · rename_i hne
      have hq' : q < xs.length := by simpa using hq
      refine hold _ (List.getElem_mem hq') ?_
      by_cases hs : sameK A.a A.v xs[q] = true
      · exfalso
        rw [same_iff] at hs
        have hh := of_decide_eq_true hs
        have hkq : keyP xs[q] = keyP xs[idx] := by
          rw [← hkey]; unfold keyP; rw [hh.1, hh.2]; rfl
        have h1 : (xs.map keyP)[q]'(by simpa using hq') = (xs.map keyP)[idx]'(by simpa using hlt) := by simpa using hkq
        rcases Nat.lt_or_gt_of_ne hne with hl | hl
        · exact (List.pairwise_iff_getElem.1 h.nd) idx q _ _ hl h1.symm
        · exact (List.pairwise_iff_getElem.1 h.nd) q idx _ _ hl h1
      · simpa using hs
  · rename_i hf
    have hno := find_idx_none hf
    have hall : LastI As (xs ++ [A.y]) (i + 1) := by
      refine ⟨?_, fun y hy => ?_⟩
      · rw [List.map_append, List.nodup_append]
        refine ⟨h.nd, by simp, fun k hk1 k2 hk2 he => ?_⟩
        obtain ⟨z, hz, rfl⟩ := List.mem_map.1 hk1
        simp only [List.map_cons, List.map_nil, List.mem_singleton] at hk2
        subst hk2
        have hs := hno z hz
        rw [same_iff] at hs
        refine of_decide_eq_false hs ?_
        unfold keyP at he
        injection he with h1 h2
        exact ⟨h1, h2⟩
      · rcases List.mem_append.1 hy with hy | hy
        · exact hold y hy (hno y hy)
        · rw [List.mem_singleton.1 hy]; exact hnew
    split
    · exact ⟨hall.nd.sublist ((List.drop_sublist _ _).map keyP), fun y hy => hall.last y (List.mem_of_mem_drop hy)⟩
    · exact hall

theorem LastI.act {As : List TActV} {xs : List KeptV} {i : Nat} {A : TActV} {sz : Int} (h : LastI As xs i) (hA : As[i]? = some A) : LastI As (actL sz xs A) (i + 1) := by
  unfold actL
  split
  · rename_i h0; exact h.put hA h0
  · rename_i h0
    split
    · rename_i h1
      refine h.sub hA (List.filter_sublist) h0 fun y hy => ?_
      have := (List.mem_filter.1 hy).2
      rw [same_iff] at this
      have hs : ¬ (y.a = A.a ∧ y.v = A.v) := fun hh => by simp [hh.1, hh.2] at this
      rintro (hh | hh | hh)
      · exact hs ⟨hh.2.1.symm, hh.2.2.symm⟩
      · omega
      · omega
    · rename_i h1
      split
      · rename_i h2
        refine h.sub hA (List.filter_sublist) h0 fun y hy => ?_
        have := (List.mem_filter.1 hy).2
        have hs : ¬ (y.a = A.a) := by simpa using this
        rintro (hh | hh | hh)
        · omega
        · exact hs hh.2.symm
        · omega
      · rename_i h2
        split
        · exact LastI.nil As _
        · rename_i h3
          exact h.sub hA (List.Sublist.refl _) h0 fun y _ => by omega

/-- What is found for a key that is kept. -/
theorem LastI.found {As : List TActV} {xs : List KeptV} {i : Nat} (h : LastI As xs i) {y : KeptV} (hy : y ∈ xs) :
    ∃ (jj : Nat) (B : TActV), findV xs y.a y.v = .tuple #[.agg #[.int .i64 B.fl, .int .i64 B.pp], .bool true] ∧ lastOf As y.a y.v i = jj ∧ jj < i ∧ As[jj]? = some B ∧ B.a = y.a ∧ B.v = y.v := by
  obtain ⟨z, hz⟩ : ∃ z, xs.find? (sameK y.a y.v) = some z := by
    cases hf : xs.find? (sameK y.a y.v) with
    | some z => exact ⟨z, rfl⟩
    | none =>
      have := List.find?_eq_none.1 hf y hy
      simp [sameK] at this
  have hzs : sameK y.a y.v z = true := List.find?_some hz
  rw [same_iff] at hzs
  have hh := of_decide_eq_true hzs
  obtain ⟨jj, B, h1, h2, h3, h4, h5, h6, h7⟩ := h.last z (List.mem_of_find?_eq_some hz)
  rw [hh.1, hh.2] at h1
  exact ⟨jj, B, by rw [findV_some hz, h4, h5], h1, h2, h3, h6.trans hh.1, h7.trans hh.2⟩
end Go.Proofs.Ytmddflhacamnaaa
