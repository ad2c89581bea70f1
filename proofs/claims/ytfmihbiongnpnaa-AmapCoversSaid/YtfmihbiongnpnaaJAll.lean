/- Layer 11: many adds, in one order and in another; what becomes 0. Over no program. -/
import Derived.Test.YtfmihbiongnpnaaJSum
namespace Go.Proofs.Ytfmihbiongnpnaa

/-- An add. -/
structure JA where
  lo : Int
  hi : Int
  by_ : Int
def stepA (L : List Int) (x : JA) : List Int := moreJ L x.lo x.hi x.by_
/-- An add that may always be: of k items, by 1 to 3. -/
structure JA.Ok (k : Nat) (x : JA) : Prop where
  lo : 0 ≤ x.lo
  lt : x.lo < x.hi
  hi : x.hi ≤ k
  by0 : 1 ≤ x.by_
  by1 : x.by_ ≤ 3
section
variable {L : List Int} {U : List JA} {x : JA} {k : Nat}
theorem stepA_len : (stepA L x).length = L.length := moreJ_len
theorem foldA_len : (U.foldl stepA L).length = L.length := by
  induction U generalizing L with
  | nil => rfl
  | cons x U ih => rw [List.foldl_cons, ih, stepA_len]
theorem stepA_comm {y : JA} : stepA (stepA L x) y = stepA (stepA L y) x := moreJ_comm
theorem foldA_step : U.foldl stepA (stepA L x) = stepA (U.foldl stepA L) x := by
  induction U generalizing L with
  | nil => rfl
  | cons y U ih => rw [List.foldl_cons, List.foldl_cons, stepA_comm, ih]
theorem foldA_rev : U.reverse.foldl stepA L = U.foldl stepA L := by
  induction U generalizing L with
  | nil => rfl
  | cons y U ih => rw [List.reverse_cons, List.foldl_append, List.foldl_cons, List.foldl_cons, List.foldl_nil, foldA_step, ih]
/-- All of them, on k items of count 0. -/
def allA (k : Nat) (U : List JA) : List Int := U.foldl stepA (List.replicate k 0)
theorem allA_len : (allA k U).length = k := by unfold allA; rw [foldA_len, List.length_replicate]
theorem allA_snoc : allA k (U ++ [x]) = stepA (allA k U) x := by unfold allA; rw [List.foldl_append]; rfl
theorem allA_cons : allA k (x :: U) = stepA (allA k U) x := by unfold allA; rw [List.foldl_cons, foldA_step]
theorem allA_rev : allA k U.reverse = allA k U := foldA_rev
theorem zeros_getD (k i : Nat) : (List.replicate k (0 : Int)).getD i 0 = 0 := by
  rw [List.getD_eq_getElem?_getD, List.getElem?_replicate]
  split <;> rfl
theorem allA_bounds (h : ∀ x, x ∈ U → x.Ok k) (i : Nat) (hi : i < k) : 0 ≤ (allA k U).getD i 0 ∧ (allA k U).getD i 0 ≤ 3 * U.length := by
  induction U with
  | nil =>
    show 0 ≤ (List.replicate k (0 : Int)).getD i 0 ∧ (List.replicate k (0 : Int)).getD i 0 ≤ _
    rw [zeros_getD]
    exact ⟨Int.le_refl _, by simp⟩
  | cons x U ih =>
    obtain ⟨h0, h1⟩ := ih fun y hy => h y (List.mem_cons_of_mem _ hy)
    have hx := h x List.mem_cons_self
    have b0 := hx.by0
    have b1 := hx.by1
    rw [allA_cons]
    unfold stepA
    rw [moreJ_at (by rw [allA_len]; exact hi)]
    simp only [List.length_cons]
    split <;> omega
theorem allA_ok (h : ∀ x, x ∈ U → x.Ok k) (hk : k ≤ 4096) (hU : U.length ≤ 1000) : JOk (allA k U) := by
  refine ⟨by rw [allA_len]; exact hk, fun y hy => ?_, fun y hy => ?_⟩
  all_goals
    obtain ⟨i, hi, rfl⟩ := mem_getD hy
    rw [allA_len] at hi
    have := allA_bounds h i hi
    omega
theorem allA_may (h : ∀ x, x ∈ U → x.Ok k) (hU : U.length ≤ 1000) (hx : x.Ok k) : mayJ (allA k U) x.lo x.hi x.by_ := by
  have l0 := hx.lo
  have l1 := hx.lt
  have l2 := hx.hi
  have b0 := hx.by0
  have b1 := hx.by1
  refine ⟨⟨l0, by rw [allA_len]; exact l2, by omega⟩, fun i hi _ => ?_⟩
  rw [allA_len] at hi
  have := allA_bounds h i hi
  omega
/-- Taken away again, the first one first. -/
theorem allA_less : moreJ (allA k (x :: U)) x.lo x.hi (-x.by_) = allA k U := by
  rw [allA_cons]
  exact moreJ_back
theorem allA_mayLess (h : ∀ y, y ∈ U → y.Ok k) (hU : U.length ≤ 1000) (hk : k ≤ 4096) (hx : x.Ok k) : mayJ (allA k (x :: U)) x.lo x.hi (-x.by_) := by
  rw [allA_cons]
  exact mayJ_back (allA_ok h hk hU) (allA_may h hU hx)
theorem addJ_less (h : ∀ y, y ∈ U → y.Ok k) (hU : U.length ≤ 1000) (hk : k ≤ 4096) (hx : x.Ok k) : addJ (allA k (x :: U)) x.lo x.hi (-x.by_) = (goneJ (allA k (x :: U)) x.lo x.hi (-x.by_), 0, allA k U) := by
  unfold addJ
  rw [if_pos (allA_mayLess h hU hk hx), allA_less]
theorem addJ_more (h : ∀ y, y ∈ U → y.Ok k) (hU : U.length ≤ 1000) (hx : x.Ok k) : addJ (allA k U) x.lo x.hi x.by_ = (goneJ (allA k U) x.lo x.hi x.by_, 0, allA k (U ++ [x])) := by
  unfold addJ
  rw [if_pos (allA_may h hU hx), allA_snoc]
  rfl
/-- What is told, item by item: those from lo up to j that have this count. -/
def wantJ (L : List Int) (lo by_ : Int) (j : Nat) : List Int := ((List.range j).filter fun i : Nat => decide (lo ≤ (i : Int) ∧ L.getD i 0 = by_)).map fun i : Nat => (i : Int)
theorem wantJ_succ (lo by_ : Int) (j : Nat) (hj : lo ≤ j) : wantJ L lo by_ (j + 1) = wantJ L lo by_ j ++ (if L.getD j 0 = by_ then [(j : Int)] else []) := by
  unfold wantJ
  rw [List.range_succ, List.filter_append, List.map_append]
  congr 1
  by_cases h : L.getD j 0 = by_
  · rw [if_pos h, List.filter_cons_of_pos (by simp only [decide_eq_true_iff]; exact ⟨hj, h⟩)]
    rfl
  · rw [if_neg h, List.filter_cons_of_neg (by simp only [decide_eq_true_iff]; exact fun e => h e.2)]
    rfl
theorem wantJ_start (lo by_ : Int) (j : Nat) (hj : (j : Int) ≤ lo) : wantJ L lo by_ j = [] := by
  unfold wantJ
  rw [List.filter_eq_nil_iff.2 fun i hi => ?_]
  · rfl
  · have := List.mem_range.1 hi
    simp only [decide_eq_true_iff]
    omega
theorem wantJ_gone (lo hi by_ : Int) (h0 : 1 ≤ by_) (h1 : 0 ≤ hi) (h2 : hi ≤ L.length) : wantJ L lo by_ hi.toNat = goneJ L lo hi (-by_) := by
  unfold wantJ goneJ
  congr 1
  obtain ⟨d, hd⟩ : ∃ d, L.length = hi.toNat + d := ⟨L.length - hi.toNat, by omega⟩
  rw [hd, List.range_add, List.filter_append]
  have e2 : ((List.range d).map (hi.toNat + ·)).filter (fun i => decide (inJ lo hi i ∧ L.getD i 0 ≠ 0 ∧ L.getD i 0 + -by_ = 0)) = [] := by
    rw [List.filter_eq_nil_iff]
    intro i hi2
    obtain ⟨q, _, rfl⟩ := List.mem_map.1 hi2
    simp only [decide_eq_true_iff]
    intro e
    have := e.1.2
    omega
  rw [e2, List.append_nil]
  refine List.filter_congr fun i hi2 => ?_
  have hlt := List.mem_range.1 hi2
  rw [decide_eq_decide]
  constructor
  · rintro ⟨e1, e3⟩
    exact ⟨⟨e1, by omega⟩, by omega, by omega⟩
  · rintro ⟨e1, _, e3⟩
    exact ⟨e1.1, by omega⟩
end
end Go.Proofs.Ytfmihbiongnpnaa
