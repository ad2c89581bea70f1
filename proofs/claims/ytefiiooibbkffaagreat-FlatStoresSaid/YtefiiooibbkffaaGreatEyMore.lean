/- Layer 15, plainly: whether all pages have an entry, where there is space, an entry more, pages cut out. No program. -/
import Derived.Test.YtefiiooibbkffaaGreatEyList
namespace Go.Proofs.YtefiiooibbkffaaGreat
set_option linter.unusedVariables false

theorem findK_first {l : List En} {pg : Int} {q : Nat} {x : En} (h1 : ∀ i y, i < q → l[i]? = some y → y.e ≤ pg) (hx : l[q]? = some x) (h2 : pg < x.e) : findK l pg = q := by
  have hq := (List.getElem?_eq_some_iff.1 hx).1
  rcases Nat.lt_trichotomy (findK l pg) q with h | h | h
  · obtain ⟨y, hy⟩ : ∃ y, l[findK l pg]? = some y := ⟨_, List.getElem?_eq_getElem (by omega)⟩
    have := h1 _ y h hy
    have := findK_at hy
    omega
  · exact h
  · have := findK_low h hx
    omega
theorem findK_end {l : List En} {pg : Int} (h1 : ∀ i y, i < l.length → l[i]? = some y → y.e ≤ pg) : findK l pg = l.length :=
  findK_one (Nat.le_refl _) h1 fun i y hi hy => by have := (List.getElem?_eq_some_iff.1 hy).1; omega
theorem hasB_at {l : List En} {pg : Int} {x : En} (hx : l[findK l pg]? = some x) : hasB l pg = decide (x.s ≤ pg) := by unfold hasB; rw [hx]
theorem hasB_end {l : List En} {pg : Int} (h : findK l pg = l.length) : hasB l pg = false := by
  unfold hasB
  rw [List.getElem?_eq_none (by omega)]
theorem hasB_mem {l : List En} {pg : Int} (h : hasB l pg = true) : ∃ x, x ∈ l ∧ l[findK l pg]? = some x ∧ x.s ≤ pg ∧ pg < x.e := by
  unfold hasB at h
  cases hx : l[findK l pg]? with
  | none => rw [hx] at h; cases h
  | some x =>
    rw [hx] at h
    exact ⟨x, List.mem_of_getElem? hx, rfl, of_decide_eq_true h, findK_at hx⟩
theorem hasB_of {l : List En} {b pg : Int} (h : RF b l) {x : En} (hx : x ∈ l) (h1 : x.s ≤ pg) (h2 : pg < x.e) : ∃ i, findK l pg = i ∧ l[i]? = some x ∧ hasB l pg = true := by
  obtain ⟨i, hi⟩ := List.getElem?_of_mem hx
  have e : findK l pg = i := findK_first (fun j y hj hy => by have := rf_two h hj hy hi; omega) hi h2
  refine ⟨i, e, hi, ?_⟩
  rw [← e] at hi
  rw [hasB_at hi]
  exact decide_eq_true h1

/-! ### have all pages an entry? -/
def goW : Int → List En → Int
  | a, [] => a
  | a, x :: r => if a < x.s then a else goW (max a x.e) r
def wholeB (l : List En) (lo hi : Int) : Bool := decide (hi ≤ goW lo l)
theorem goW_ge : ∀ (l : List En) (a : Int), a ≤ goW a l
  | [], a => Int.le_refl _
  | x :: r, a => by
    unfold goW
    split
    · exact Int.le_refl _
    · have := goW_ge r (max a x.e); omega
theorem goW_no : ∀ {l : List En} {b pg : Int}, RF b l → hasB l pg = false → goW pg l = pg
  | [], _, _, _, _ => rfl
  | y :: r, b, pg, h, hn => by
    obtain ⟨h1, h2, h3⟩ := h
    rw [hasB_cons] at hn
    have hl := h2.lt
    unfold goW
    by_cases k : pg < y.e
    · rw [if_pos k] at hn
      have := of_decide_eq_false hn
      rw [if_pos (by omega)]
    · rw [if_neg k] at hn
      rw [if_neg (by omega), show max pg y.e = pg by omega]
      exact goW_no h3 hn
theorem goW_yes : ∀ {l : List En} {b pg : Int} {x : En}, RF b l → l[findK l pg]? = some x → x.s ≤ pg → goW pg l = goW x.e l
  | [], _, _, _, _, hx, _ => by simp at hx
  | y :: r, b, pg, x, h, hx, hs => by
    obtain ⟨h1, h2, h3⟩ := h
    rw [findK_cons] at hx
    have hl := h2.lt
    by_cases k : pg < y.e
    · rw [if_pos k] at hx
      simp at hx
      subst hx
      unfold goW
      rw [if_neg (by omega), if_neg (by omega), show max pg y.e = y.e by omega, show max y.e y.e = y.e by omega]
    · rw [if_neg k] at hx
      rw [List.getElem?_cons_succ] at hx
      have hm := rf_good h3 x (List.mem_of_getElem? hx)
      have hxl := hm.1.lt
      have ih := goW_yes h3 hx hs
      unfold goW
      rw [if_neg (by omega), if_neg (by omega), show max pg y.e = pg by omega, show max x.e y.e = x.e by omega]
      exact ih
theorem goW_succ {l : List En} {b pg : Int} (h : RF b l) (hh : hasB l pg = true) : goW pg l = goW (pg + 1) l := by
  obtain ⟨x, hm, hx, h1, h2⟩ := hasB_mem hh
  rw [goW_yes h hx h1]
  by_cases k : pg + 1 < x.e
  · obtain ⟨i, hi, hx2, -⟩ := hasB_of h hm (show x.s ≤ pg + 1 by omega) k
    rw [← hi] at hx2
    rw [goW_yes h hx2 (by omega)]
  · rw [show x.e = pg + 1 by omega]
theorem whole_pages {l : List En} {b : Int} (h : RF b l) : ∀ (n : Nat) (lo : Int), wholeB l lo (lo + n) = true ↔ ∀ i : Nat, i < n → hasB l (lo + i) = true
  | 0, lo => by
    unfold wholeB
    have := goW_ge l lo
    constructor
    · intro _ i hi; omega
    · intro _; exact decide_eq_true (by omega)
  | n + 1, lo => by
    have ih := whole_pages h n (lo + 1)
    unfold wholeB at ih ⊢
    rw [decide_eq_true_eq] at ih ⊢
    rw [show lo + 1 + (n : Int) = lo + ((n + 1 : Nat) : Int) by omega] at ih
    cases hh : hasB l lo with
    | true =>
      rw [goW_succ h hh, ih]
      constructor
      · intro k i hi
        rcases Nat.eq_zero_or_pos i with rfl | h0
        · simpa using hh
        · have := k (i - 1) (by omega)
          rwa [show lo + 1 + ((i - 1 : Nat) : Int) = lo + (i : Int) by omega] at this
      · intro k i hi
        have := k (i + 1) (by omega)
        rwa [show lo + ((i + 1 : Nat) : Int) = lo + 1 + (i : Int) by omega] at this
    | false =>
      rw [goW_no h hh]
      constructor
      · intro k; omega
      · intro k
        have := k 0 (by omega)
        simp [hh] at this

/-! ### space -/
def gapL (n : Int) : Int → List En → Int
  | a, [] => a
  | a, x :: r => if x.e ≤ a then gapL n a r else if a ≤ x.s - n then a else gapL n x.e r
def gapE (l : List En) (a n : Int) : Option Int := if 67108864 - n < gapL n a l then none else some (gapL n a l)
def spaceE (l : List En) (hint n : Int) : Option Int := if n < 1 ∨ 67108864 < n then none else match gapE l (max 0 hint) n with | some a => some a | none => gapE l 0 n
theorem gapL_cons (n a : Int) (x : En) (r : List En) : gapL n a (x :: r) = if x.e ≤ a then gapL n a r else if a ≤ x.s - n then a else gapL n x.e r := rfl
theorem gapL_skip : ∀ (l : List En) (n a : Int), gapL n a l = gapL n a (l.drop (findK l a))
  | [], _, _ => by simp
  | x :: r, n, a => by
    rw [findK_cons]
    by_cases k : a < x.e
    · rw [if_pos k]; rfl
    · rw [if_neg k, List.drop_succ_cons, ← gapL_skip r n a]
      show (if x.e ≤ a then gapL n a r else _) = _
      rw [if_pos (by omega)]
theorem gap_free : ∀ {l : List En} {b : Int} (n a : Int), RF b l → a ≤ gapL n a l ∧ ∀ x, x ∈ l → x.e ≤ gapL n a l ∨ gapL n a l + n ≤ x.s
  | [], _, n, a, _ => ⟨Int.le_refl _, by simp⟩
  | y :: r, b, n, a, h => by
    obtain ⟨h1, h2, h3⟩ := h
    unfold gapL
    have hl := h2.lt
    by_cases k1 : y.e ≤ a
    · rw [if_pos k1]
      obtain ⟨g1, g2⟩ := gap_free n a h3
      refine ⟨g1, fun x hx => ?_⟩
      rcases List.mem_cons.1 hx with rfl | hx
      · left; omega
      · exact g2 x hx
    · rw [if_neg k1]
      by_cases k2 : a ≤ y.s - n
      · rw [if_pos k2]
        refine ⟨Int.le_refl _, fun x hx => ?_⟩
        rcases List.mem_cons.1 hx with rfl | hx
        · right; omega
        · have := (rf_good h3 x hx).2
          right; omega
      · rw [if_neg k2]
        obtain ⟨g1, g2⟩ := gap_free n y.e h3
        refine ⟨by omega, fun x hx => ?_⟩
        rcases List.mem_cons.1 hx with rfl | hx
        · left; exact g1
        · exact g2 x hx
theorem space_free {l : List En} {b hint n at' : Int} (h : RF b l) (hs : spaceE l hint n = some at') : 1 ≤ n ∧ n ≤ 67108864 ∧ 0 ≤ at' ∧ at' + n ≤ 67108864 ∧ ∀ x, x ∈ l → x.e ≤ at' ∨ at' + n ≤ x.s := by
  unfold spaceE at hs
  split at hs
  · cases hs
  · rename_i hn
    have key : ∀ a, 0 ≤ a → gapE l a n = some at' → 0 ≤ at' ∧ at' + n ≤ 67108864 ∧ ∀ x, x ∈ l → x.e ≤ at' ∨ at' + n ≤ x.s := by
      intro a ha hg
      unfold gapE at hg
      split at hg
      · cases hg
      · cases hg
        obtain ⟨g1, g2⟩ := gap_free n a h
        exact ⟨by omega, by omega, g2⟩
    refine ⟨by omega, by omega, ?_⟩
    split at hs
    · rename_i a ha
      cases hs
      exact key _ (by omega) ha
    · exact key 0 (Int.le_refl _) hs

/-! ### an entry more -/
def freeB (l : List En) (x : En) : Bool := match l[findK l x.s]? with | some y => decide (x.e ≤ y.s) | none => true
def putE (l : List En) (x : En) : List En := l.take (findK l x.s) ++ x :: l.drop (findK l x.s)
def insE (l : List En) (x : En) : List En × Bool := if (goodB x && freeB l x) = true then (putE l x, true) else (l, false)
theorem free_at {l : List En} {x y : En} (hy : l[findK l x.s]? = some y) : freeB l x = decide (x.e ≤ y.s) := by unfold freeB; rw [hy]
theorem free_end {l : List En} {x : En} (h : findK l x.s = l.length) : freeB l x = true := by unfold freeB; rw [List.getElem?_eq_none (by omega)]
theorem free_iff {l : List En} {b : Int} {x : En} (h : RF b l) (hx : x.s < x.e) : freeB l x = true ↔ ∀ y, y ∈ l → y.e ≤ x.s ∨ x.e ≤ y.s := by
  have hk := findK_le l x.s
  constructor
  · intro hf y hy
    obtain ⟨i, hi⟩ := List.getElem?_of_mem hy
    rcases Nat.lt_or_ge i (findK l x.s) with h1 | h1
    · left; exact findK_low h1 hi
    · right
      have hil := (List.getElem?_eq_some_iff.1 hi).1
      obtain ⟨z, hz⟩ : ∃ z, l[findK l x.s]? = some z := ⟨_, List.getElem?_eq_getElem (by omega)⟩
      rw [free_at hz] at hf
      have := of_decide_eq_true hf
      rcases Nat.lt_or_ge (findK l x.s) i with h2 | h2
      · have := rf_two h h2 hz hi
        have := (rf_at h hz).lt
        omega
      · have e : i = findK l x.s := by omega
        subst e
        rw [hz] at hi; cases hi; omega
  · intro hf
    rcases Nat.lt_or_ge (findK l x.s) l.length with h1 | h1
    · obtain ⟨z, hz⟩ : ∃ z, l[findK l x.s]? = some z := ⟨_, List.getElem?_eq_getElem h1⟩
      rw [free_at hz]
      refine decide_eq_true ?_
      have := findK_at hz
      rcases hf z (List.mem_of_getElem? hz) with h2 | h2 <;> omega
    · exact free_end (by omega)
theorem rf_put {l : List En} {x : En} (h : RF 0 l) (hg : GoodE x) (hf : freeB l x = true) : RF 0 (putE l x) := by
  have hfi := (free_iff h hg.lt).1 hf
  have hp := rf_pair h
  unfold putE
  refine rf_mk (fun y hy => ?_) ?_
  · rcases List.mem_append.1 hy with hy | hy
    · exact rf_good h y (List.mem_of_mem_take hy)
    · rcases List.mem_cons.1 hy with rfl | hy
      · exact ⟨hg, hg.s0⟩
      · exact rf_good h y (List.mem_of_mem_drop hy)
  · rw [List.pairwise_append]
    refine ⟨hp.sublist (List.take_sublist _ _), List.pairwise_cons.2 ⟨fun y hy => ?_, hp.sublist (List.drop_sublist _ _)⟩, fun y hy z hz => ?_⟩
    · obtain ⟨i, hi⟩ := List.getElem?_of_mem hy
      rw [List.getElem?_drop] at hi
      have h1 := findK_high h (pg := x.s) (by omega) hi
      rcases hfi y (List.mem_of_mem_drop hy) with h2 | h2 <;> omega
    · obtain ⟨i, hi⟩ := List.getElem?_of_mem hy
      rw [List.getElem?_take] at hi
      split at hi
      · rename_i hik
        have h1 := findK_low hik hi
        rcases List.mem_cons.1 hz with rfl | hz
        · exact h1
        · obtain ⟨j, hj⟩ := List.getElem?_of_mem hz
          rw [List.getElem?_drop] at hj
          exact rf_two h (by omega) hi hj
      · cases hi
theorem mem_put (l : List En) (x : En) : x ∈ putE l x := by simp [putE]
theorem put_len (l : List En) (x : En) : (putE l x).length = l.length + 1 := by
  unfold putE
  have := findK_le l x.s
  rw [List.length_append, List.length_cons, List.length_take, List.length_drop]
  omega
theorem put_at {l : List En} {x : En} (h : RF 0 (putE l x)) (hl : x.s < x.e) : (putE l x)[findK (putE l x) x.s]? = some x := by
  obtain ⟨i, hi, hx, -⟩ := hasB_of h (mem_put l x) (Int.le_refl _) hl
  rw [hi]; exact hx
/-- Put back between what is ahead of it and what is behind it. -/
theorem put_between {A C : List En} {x : En} {b : Int} (h : RF b (A ++ x :: C)) : putE (A ++ C) x = A ++ x :: C ∧ freeB (A ++ C) x = true := by
  have hp := rf_pair h
  rw [List.pairwise_append] at hp
  obtain ⟨-, h2, h3⟩ := hp
  have h4 := (List.pairwise_cons.1 h2).1
  have hgx := (rf_good h x (by simp)).1.lt
  have hk : findK (A ++ C) x.s = A.length := by
    refine findK_one (by simp) (fun i y hi hy => ?_) (fun i y hi hy => ?_)
    · rw [List.getElem?_append_left hi] at hy
      exact h3 y (List.mem_of_getElem? hy) x (by simp)
    · rw [List.getElem?_append_right hi] at hy
      have hm := List.mem_of_getElem? hy
      have := h4 y hm
      have := (rf_good h y (by simp [hm])).1.lt
      omega
  constructor
  · unfold putE
    rw [hk, List.take_left', List.drop_left'] <;> rfl
  · rw [free_iff (rf_sub h ?_) hgx]
    · intro y hy
      rcases List.mem_append.1 hy with hy | hy
      · left; exact h3 y hy x (by simp)
      · right; exact h4 y hy
    · exact List.Sublist.append (List.Sublist.refl A) (List.sublist_cons_self x C)

/-! ### pages cut out -/
def inB (lo hi : Int) (x : En) : Bool := decide (lo ≤ x.s ∧ x.e ≤ hi)
def bothE (l : List En) (lo hi : Int) : List En := clipE (clipE l lo) hi
def leftE (l : List En) (lo hi : Int) : List En := (bothE l lo hi).filter fun x => !inB lo hi x
def goneE (l : List En) (lo hi : Int) : List En := (bothE l lo hi).filter (inB lo hi)
theorem rf_both {l : List En} {b : Int} (lo hi : Int) (h : RF b l) : RF b (bothE l lo hi) := rf_clip hi (rf_clip lo h)
theorem both_none {l : List En} {lo hi : Int} : ∀ x, x ∈ bothE l lo hi → ¬ (x.s < lo ∧ lo < x.e) ∧ ¬ (x.s < hi ∧ hi < x.e) := fun x hx =>
  ⟨clip_none x (by unfold bothE at hx; rw [clip_clip] at hx; exact hx), clip_none x hx⟩
theorem rf_left {l : List En} {b : Int} (lo hi : Int) (h : RF b l) : RF b (leftE l lo hi) := rf_sub (rf_both lo hi h) List.filter_sublist
theorem rf_gone {l : List En} {b : Int} (lo hi : Int) (h : RF b l) : RF b (goneE l lo hi) := rf_sub (rf_both lo hi h) List.filter_sublist
theorem filter_none {p : En → Bool} {l : List En} (h : ∀ x, x ∈ l → p x = false) : l.filter p = [] := List.filter_eq_nil_iff.2 fun x hx => by simp [h x hx]
theorem filter_all {p : En → Bool} {l : List En} (h : ∀ x, x ∈ l → p x = true) : l.filter p = l := List.filter_eq_self.2 h
/-- As the program cuts. -/
theorem cut_at {c : List En} {b lo hi : Int} (h : RF b c) (hn : ∀ x, x ∈ c → ¬ (x.s < lo ∧ lo < x.e) ∧ ¬ (x.s < hi ∧ hi < x.e)) (k1 k2 : Nat) (e1 : findK c lo = k1) (e2 : max k1 (findK c hi) = k2) :
    c.filter (fun x => !inB lo hi x) = c.take k1 ++ c.drop k2 ∧ c.filter (inB lo hi) = (c.drop k1).take (k2 - k1) ∧ c = c.take k1 ++ ((c.drop k1).take (k2 - k1) ++ c.drop k2) := by
  have hk1 := findK_le c lo
  have hk2 := findK_le c hi
  have ec : c = c.take k1 ++ ((c.drop k1).take (k2 - k1) ++ c.drop k2) := by
    have : c.drop k2 = (c.drop k1).drop (k2 - k1) := by rw [List.drop_drop]; congr 1; omega
    rw [this, List.take_append_drop, List.take_append_drop]
  have hA : ∀ x, x ∈ c.take k1 → inB lo hi x = false := fun x hx => by
    obtain ⟨i, hi'⟩ := List.getElem?_of_mem hx
    rw [List.getElem?_take] at hi'
    split at hi'
    · have h1 := findK_low (pg := lo) (by omega) hi'
      have h2 := (rf_at h hi').lt
      exact decide_eq_false (by omega)
    · cases hi'
  have hB : ∀ x, x ∈ (c.drop k1).take (k2 - k1) → inB lo hi x = true := fun x hx => by
    obtain ⟨i, hi'⟩ := List.getElem?_of_mem hx
    rw [List.getElem?_take] at hi'
    split at hi'
    · rename_i hik
      rw [List.getElem?_drop] at hi'
      have h1 := findK_high h (pg := lo) (by omega) hi'
      have h3 := findK_low (pg := hi) (show k1 + i < findK c hi by omega) hi'
      have h2 := (rf_at h hi').lt
      have h4 := hn x (List.mem_of_getElem? hi')
      exact decide_eq_true (by omega)
    · cases hi'
  have hC : ∀ x, x ∈ c.drop k2 → inB lo hi x = false := fun x hx => by
    obtain ⟨i, hi'⟩ := List.getElem?_of_mem hx
    rw [List.getElem?_drop] at hi'
    have h1 := findK_high h (pg := hi) (by omega) hi'
    exact decide_eq_false (by omega)
  refine ⟨?_, ?_, ec⟩
  · conv => lhs; rw [ec]
    rw [List.filter_append, List.filter_append, filter_all fun x hx => by simp [hA x hx], filter_none (l := (c.drop k1).take (k2 - k1)) fun x hx => by simp [hB x hx], filter_all (l := c.drop k2) fun x hx => by simp [hC x hx], List.nil_append]
  · conv => lhs; rw [ec]
    rw [List.filter_append, List.filter_append, filter_none fun x hx => hA x hx, filter_all fun x hx => hB x hx, filter_none (l := c.drop k2) fun x hx => hC x hx, List.nil_append, List.append_nil]
theorem left_none {l : List En} {b lo hi pg : Int} (h : RF b l) (h1 : lo ≤ pg) (h2 : pg < hi) : hasB (leftE l lo hi) pg = false := by
  cases hh : hasB (leftE l lo hi) pg with
  | false => rfl
  | true =>
    obtain ⟨x, hm, -, k1, k2⟩ := hasB_mem hh
    obtain ⟨m1, m2⟩ := List.mem_filter.1 hm
    have m3 := both_none x m1
    have m4 : inB lo hi x = false := by simpa using m2
    have m5 := of_decide_eq_false m4
    omega

/-! ### how many pages -/
def ov (lo hi : Int) (x : En) : Int := max 0 (min x.e hi - max x.s lo)
def sumOv (lo hi : Int) (l : List En) : Int := (l.map (ov lo hi)).sum
def sumE (l : List En) : Int := (l.map fun x => x.e - x.s).sum
theorem sumE_snoc (l : List En) (x : En) : sumE (l ++ [x]) = sumE l + (x.e - x.s) := by unfold sumE; rw [List.map_append, List.sum_append]; simp
theorem sumE_app (l m : List En) : sumE (l ++ m) = sumE l + sumE m := by unfold sumE; rw [List.map_append, List.sum_append]
theorem sum_one {lo hi : Int} (hlh : lo ≤ hi) (x : En) (hx : x.s < x.e) : sumE (((clip1 lo x).flatMap (clip1 hi)).filter (inB lo hi)) = ov lo hi x := by
  unfold ov
  unfold clip1
  by_cases h1 : x.s < lo ∧ lo < x.e
  · rw [if_pos h1]
    simp only [List.flatMap_cons, List.flatMap_nil, List.append_nil]
    rw [if_neg (show ¬ ((lowE x lo).s < hi ∧ hi < (lowE x lo).e) by simp only [lowE]; omega)]
    by_cases h2 : lo < hi ∧ hi < x.e
    · rw [if_pos (show (fromE x lo).s < hi ∧ hi < (fromE x lo).e by simp only [fromE]; omega)]
      have i1 : inB lo hi (lowE x lo) = false := decide_eq_false (by simp only [lowE]; omega)
      have i2 : inB lo hi (lowE (fromE x lo) hi) = true := decide_eq_true (by simp only [lowE, fromE]; omega)
      have i3 : inB lo hi (fromE (fromE x lo) hi) = false := decide_eq_false (by simp only [fromE]; omega)
      simp [i1, i2, i3, sumE]
      simp only [lowE, fromE]
      omega
    · rw [if_neg (show ¬ ((fromE x lo).s < hi ∧ hi < (fromE x lo).e) by simp only [fromE]; omega)]
      have i1 : inB lo hi (lowE x lo) = false := decide_eq_false (by simp only [lowE]; omega)
      by_cases h3 : x.e ≤ hi
      · have i2 : inB lo hi (fromE x lo) = true := decide_eq_true (by simp only [fromE]; omega)
        simp [i1, i2, sumE]
        simp only [fromE]
        omega
      · have i2 : inB lo hi (fromE x lo) = false := decide_eq_false (by simp only [fromE]; omega)
        simp [i1, i2, sumE]
        omega
  · rw [if_neg h1]
    simp only [List.flatMap_cons, List.flatMap_nil, List.append_nil]
    by_cases h2 : x.s < hi ∧ hi < x.e
    · rw [if_pos h2]
      have i2 : inB lo hi (fromE x hi) = false := decide_eq_false (by simp only [fromE]; omega)
      by_cases h3 : lo ≤ x.s
      · have i1 : inB lo hi (lowE x hi) = true := decide_eq_true (by simp only [lowE]; omega)
        simp [i1, i2, sumE]
        simp only [lowE]
        omega
      · have i1 : inB lo hi (lowE x hi) = false := decide_eq_false (by simp only [lowE]; omega)
        simp [i1, i2, sumE]
        omega
    · rw [if_neg h2]
      by_cases h3 : lo ≤ x.s ∧ x.e ≤ hi
      · have i1 : inB lo hi x = true := decide_eq_true h3
        simp [i1, sumE]
        omega
      · have i1 : inB lo hi x = false := decide_eq_false h3
        simp [i1, sumE]
        omega
theorem sum_gone {lo hi : Int} (hlh : lo ≤ hi) : ∀ (l : List En), (∀ x, x ∈ l → x.s < x.e) → sumE (goneE l lo hi) = sumOv lo hi l
  | [], _ => rfl
  | x :: r, h => by
    have ih := sum_gone hlh r fun y hy => h y (by simp [hy])
    have e : goneE (x :: r) lo hi = ((clip1 lo x).flatMap (clip1 hi)).filter (inB lo hi) ++ goneE r lo hi := by
      unfold goneE bothE
      rw [clip_cons]
      unfold clipE
      rw [List.flatMap_append, List.filter_append]
    rw [e, sumE_app, sum_one hlh x (h x (by simp)), ih]
    rfl
theorem sumOv_up {lo hi : Int} (k : Int) (hk : lo ≤ k) : ∀ (l : List En), (∀ x, x ∈ l → k ≤ x.s) → sumOv lo hi l = sumOv k hi l
  | [], _ => rfl
  | x :: r, h => by
    have ih := sumOv_up k hk (hi := hi) r fun y hy => h y (by simp [hy])
    have h0 := h x (by simp)
    show ov lo hi x + sumOv lo hi r = ov k hi x + sumOv k hi r
    rw [ih]
    have : ov lo hi x = ov k hi x := by unfold ov; omega
    rw [this]
theorem sum_whole : ∀ {l : List En} {b lo hi : Int}, RF b l → lo ≤ hi → sumOv lo hi l ≤ hi - lo ∧ (sumOv lo hi l = hi - lo ↔ hi ≤ goW lo l)
  | [], b, lo, hi, _, hlh => by
    have e : sumOv lo hi [] = 0 := rfl
    have e2 : goW lo [] = lo := rfl
    rw [e, e2]
    omega
  | x :: r, b, lo, hi, h, hlh => by
    obtain ⟨h1, h2, h3⟩ := h
    have hl := h2.lt
    have hr := fun y hy => (rf_good h3 y hy).2
    show ov lo hi x + sumOv lo hi r ≤ hi - lo ∧ (ov lo hi x + sumOv lo hi r = hi - lo ↔ hi ≤ goW lo (x :: r))
    unfold goW
    by_cases k1 : x.e ≤ lo
    · have e : ov lo hi x = 0 := by unfold ov; omega
      rw [e, if_neg (by omega), show max lo x.e = lo by omega, Int.zero_add]
      exact sum_whole h3 hlh
    · by_cases k2 : lo < x.s
      · rw [if_pos k2]
        by_cases k3 : hi ≤ x.s
        · have e : ov lo hi x = 0 := by unfold ov; omega
          have e2 : sumOv lo hi r = sumOv hi hi r := sumOv_up hi hlh r fun y hy => by have := hr y hy; omega
          have e3 := (sum_whole (lo := hi) (hi := hi) h3 (Int.le_refl _)).1
          have e4 : 0 ≤ sumOv hi hi r := by
            unfold sumOv
            clear e2 e3 h3 hr
            induction r with
            | nil => simp
            | cons y r ih => rw [List.map_cons, List.sum_cons]; have : 0 ≤ ov hi hi y := by unfold ov; omega
                             omega
          rw [e, e2]
          omega
        · have e : ov lo hi x = min x.e hi - x.s := by unfold ov; omega
          have e2 : sumOv lo hi r = sumOv (min x.e hi) hi r := sumOv_up _ (by omega) r fun y hy => by have := hr y hy; omega
          have e3 := (sum_whole (lo := min x.e hi) (hi := hi) h3 (by omega)).1
          rw [e, e2]
          omega
      · rw [if_neg k2, show max lo x.e = x.e by omega]
        have e : ov lo hi x = min x.e hi - lo := by unfold ov; omega
        have e2 : sumOv lo hi r = sumOv (min x.e hi) hi r := sumOv_up _ (by omega) r fun y hy => by have := hr y hy; omega
        obtain ⟨e3, e4⟩ := sum_whole (lo := min x.e hi) (hi := hi) h3 (by omega)
        rw [e, e2]
        refine ⟨by omega, ?_⟩
        by_cases k4 : x.e ≤ hi
        · rw [show min x.e hi = x.e by omega] at *
          omega
        · rw [show min x.e hi = hi by omega] at *
          have := goW_ge r x.e
          have := goW_ge r hi
          omega
end Go.Proofs.YtefiiooibbkffaaGreat
