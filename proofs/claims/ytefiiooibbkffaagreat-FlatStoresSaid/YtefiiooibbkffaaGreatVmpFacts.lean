/- Layer 16, plainly: a map as its list of entries, what each call makes of it, and what follows. No program. Layer 16, plainly: the calls of a map, one after the other, and what follows. No program. Layer 16, plainly: what the laws ask of a map's calls. No program. -/
import Derived.Test.YtefiiooibbkffaaGreatEyMore
namespace Go.Proofs.YtefiiooibbkffaaGreat
set_option linter.unusedVariables false
set_option linter.unusedSimpArgs false

/-! ### what a page has, by the entries of a list -/
theorem page_mem : ∀ {l : List En} {pg : Int} {v : En}, pageOf l pg = some v → ∃ x, x ∈ l ∧ x.s ≤ pg ∧ pg < x.e ∧ v = normE x pg
  | [], _, _, h => by simp [pageOf] at h
  | x :: r, pg, v, h => by
    unfold pageOf at h
    by_cases h1 : pg < x.e
    · rw [if_pos h1] at h
      by_cases h2 : x.s ≤ pg
      · rw [if_pos h2] at h
        exact ⟨x, by simp, h2, h1, (Option.some.inj h).symm⟩
      · rw [if_neg h2] at h
        cases h
    · rw [if_neg h1] at h
      obtain ⟨y, hy, k⟩ := page_mem h
      exact ⟨y, by simp [hy], k⟩
theorem page_none {l : List En} {pg : Int} (h : ∀ x, x ∈ l → ¬ (x.s ≤ pg ∧ pg < x.e)) : pageOf l pg = none := by
  cases e : pageOf l pg with
  | none => rfl
  | some v =>
    obtain ⟨x, hx, h1, h2, -⟩ := page_mem e
    exact (h x hx ⟨h1, h2⟩).elim
theorem page_some {l : List En} {b pg : Int} (h : RF b l) {x : En} (hx : x ∈ l) (h1 : x.s ≤ pg) (h2 : pg < x.e) : pageOf l pg = some (normE x pg) := by
  obtain ⟨i, e, hi, -⟩ := hasB_of h hx h1 h2
  rw [pageOf_find, e, hi]
  simp [h1]
theorem page_empty {l : List En} {b pg : Int} (h : RF b l) (he : pageOf l pg = none) : ∀ x, x ∈ l → ¬ (x.s ≤ pg ∧ pg < x.e) := fun x hx ⟨h1, h2⟩ => by
  rw [page_some h hx h1 h2] at he
  cases he
theorem page_both (l : List En) (lo hi pg : Int) : pageOf (bothE l lo hi) pg = pageOf l pg := by unfold bothE; rw [page_clip, page_clip]
/-- An entry of a list clipped at both ends lies within the range if one page of it does. -/
theorem both_in {l : List En} {lo hi pg : Int} {x : En} (hx : x ∈ bothE l lo hi) (h1 : x.s ≤ pg) (h2 : pg < x.e) : inB lo hi x = decide (lo ≤ pg ∧ pg < hi) := by
  have h3 := both_none x hx
  unfold inB
  rw [decide_eq_decide]
  omega
theorem page_left {l : List En} {b : Int} (lo hi pg : Int) (h : RF b l) : pageOf (leftE l lo hi) pg = if lo ≤ pg ∧ pg < hi then none else pageOf l pg := by
  by_cases hin : lo ≤ pg ∧ pg < hi
  · rw [if_pos hin]
    refine page_none fun x hx ⟨h1, h2⟩ => ?_
    obtain ⟨hb, hn⟩ := List.mem_filter.1 hx
    rw [both_in hb h1 h2, decide_eq_true hin] at hn
    cases hn
  · rw [if_neg hin]
    cases e : pageOf l pg with
    | none =>
      rw [← page_both l lo hi] at e
      exact page_none fun x hx => page_empty (rf_both lo hi h) e x (List.mem_filter.1 hx).1
    | some v =>
      rw [← page_both l lo hi] at e
      obtain ⟨x, hx, h1, h2, rfl⟩ := page_mem e
      refine page_some (rf_left lo hi h) (List.mem_filter.2 ⟨hx, ?_⟩) h1 h2
      rw [both_in hx h1 h2, decide_eq_false hin]
      rfl
theorem page_gone {l : List En} {b : Int} (lo hi pg : Int) (h : RF b l) : pageOf (goneE l lo hi) pg = if lo ≤ pg ∧ pg < hi then pageOf l pg else none := by
  by_cases hin : lo ≤ pg ∧ pg < hi
  · rw [if_pos hin]
    cases e : pageOf l pg with
    | none =>
      rw [← page_both l lo hi] at e
      exact page_none fun x hx => page_empty (rf_both lo hi h) e x (List.mem_filter.1 hx).1
    | some v =>
      rw [← page_both l lo hi] at e
      obtain ⟨x, hx, h1, h2, rfl⟩ := page_mem e
      refine page_some (rf_gone lo hi h) (List.mem_filter.2 ⟨hx, ?_⟩) h1 h2
      rw [both_in hx h1 h2, decide_eq_true hin]
  · rw [if_neg hin]
    refine page_none fun x hx ⟨h1, h2⟩ => ?_
    obtain ⟨hb, hn⟩ := List.mem_filter.1 hx
    rw [both_in hb h1 h2, decide_eq_false hin] at hn
    cases hn
theorem mem_put_iff {l : List En} {x y : En} : y ∈ putE l x ↔ y = x ∨ y ∈ l := by
  unfold putE
  constructor
  · intro h
    rcases List.mem_append.1 h with h | h
    · exact .inr (List.mem_of_mem_take h)
    · rcases List.mem_cons.1 h with h | h
      · exact .inl h
      · exact .inr (List.mem_of_mem_drop h)
  · rintro (rfl | h)
    · simp
    · rw [← List.take_append_drop (findK l x.s) l] at h
      rcases List.mem_append.1 h with h | h
      · exact List.mem_append.2 (.inl h)
      · exact List.mem_append.2 (.inr (List.mem_cons_of_mem _ h))
theorem page_put {l : List En} {x : En} (h : RF 0 l) (hg : GoodE x) (hf : freeB l x = true) (pg : Int) : pageOf (putE l x) pg = if x.s ≤ pg ∧ pg < x.e then some (normE x pg) else pageOf l pg := by
  have hr := rf_put h hg hf
  by_cases hin : x.s ≤ pg ∧ pg < x.e
  · rw [if_pos hin]
    exact page_some hr (mem_put l x) hin.1 hin.2
  · rw [if_neg hin]
    cases e : pageOf l pg with
    | none =>
      refine page_none fun y hy => ?_
      rcases mem_put_iff.1 hy with rfl | hy
      · exact hin
      · exact page_empty h e y hy
    | some v =>
      obtain ⟨y, hy, h1, h2, rfl⟩ := page_mem e
      exact page_some hr (mem_put_iff.2 (.inr hy)) h1 h2

/-! ### what a call changes -/
/-- What a change leaves of an entry. -/
structure Stays (g : En → En) : Prop where
  s : ∀ x, (g x).s = x.s
  e : ∀ x, (g x).e = x.e
  norm : ∀ x pg, normE (g x) pg = g (normE x pg)
theorem rf_map {g : En → En} : ∀ {l : List En} {b : Int}, RF b l → (∀ x, x ∈ l → GoodE (g x) ∧ (g x).s = x.s ∧ (g x).e = x.e) → RF b (l.map g)
  | [], _, _, _ => trivial
  | x :: r, b, h, hg => by
    obtain ⟨h1, h2, h3⟩ := h
    obtain ⟨k1, k2, k3⟩ := hg x (by simp)
    refine ⟨by rw [k2]; exact h1, k1, ?_⟩
    rw [k3]
    exact rf_map h3 fun y hy => hg y (by simp [hy])
/-- What one of the four calls sets: 2 the rights, 3 who has it, 4 the advice, 5 whether it is wired. -/
def setV (k : Int) (v : Int) (on : Bool) (x : En) : En :=
  if k = 2 then { x with p := v } else if k = 3 then { x with i := v } else if k = 4 then { x with a := v } else { x with wi := on }
theorem set_stays (k v : Int) (on : Bool) : Stays (setV k v on) := by
  refine ⟨fun x => ?_, fun x => ?_, fun x pg => ?_⟩ <;> unfold setV <;> split <;> (try rfl) <;> split <;> (try rfl) <;> split <;> rfl
def inE (g : En → En) (lo hi : Int) (x : En) : En := if inB lo hi x = true then g x else x
def chgE (g : En → En) (l : List En) (lo hi : Int) : List En := (bothE l lo hi).map (inE g lo hi)
theorem rf_chg {g : En → En} (hs : Stays g) {l : List En} {b lo hi : Int} (h : RF b l) (hg : ∀ x, x ∈ bothE l lo hi → inB lo hi x = true → GoodE x → GoodE (g x)) : RF b (chgE g l lo hi) := by
  refine rf_map (rf_both lo hi h) fun x hx => ?_
  have hgx := (rf_good (rf_both lo hi h) x hx).1
  unfold inE
  split
  · rename_i k
    exact ⟨hg x hx k hgx, hs.s x, hs.e x⟩
  · exact ⟨hgx, rfl, rfl⟩
theorem page_chg {g : En → En} (hs : Stays g) {l : List En} {b lo hi : Int} (h : RF b l) (hr : RF b (chgE g l lo hi)) (pg : Int) : pageOf (chgE g l lo hi) pg = if lo ≤ pg ∧ pg < hi then (pageOf l pg).map g else pageOf l pg := by
  have hse : ∀ x, (inE g lo hi x).s = x.s ∧ (inE g lo hi x).e = x.e := fun x => by
    unfold inE
    split
    · exact ⟨hs.s x, hs.e x⟩
    · exact ⟨rfl, rfl⟩
  cases e : pageOf l pg with
  | none =>
    have hn : pageOf (chgE g l lo hi) pg = none := by
      rw [← page_both l lo hi] at e
      refine page_none fun y hy => ?_
      obtain ⟨x, hx, rfl⟩ := List.mem_map.1 hy
      rw [(hse x).1, (hse x).2]
      exact page_empty (rf_both lo hi h) e x hx
    rw [hn]
    split <;> rfl
  | some v =>
    rw [← page_both l lo hi] at e
    obtain ⟨x, hx, h1, h2, rfl⟩ := page_mem e
    rw [page_some hr (List.mem_map.2 ⟨x, hx, rfl⟩) (by rw [(hse x).1]; exact h1) (by rw [(hse x).2]; exact h2)]
    unfold inE
    rw [both_in hx h1 h2]
    by_cases hin : lo ≤ pg ∧ pg < hi
    · rw [if_pos hin, decide_eq_true hin, if_pos rfl, hs.norm]
      rfl
    · rw [if_neg hin, decide_eq_false hin]
      rfl
theorem both_len {l : List En} {b : Int} (lo hi : Int) (h : RF b l) : (bothE l lo hi).length ≤ l.length + 2 := by
  have h1 := (clip_len_le lo h).2
  have h2 := (clip_len_le hi (rf_clip lo h)).2
  unfold bothE
  omega
theorem chg_len {g : En → En} {l : List En} {b : Int} (lo hi : Int) (h : RF b l) : (chgE g l lo hi).length ≤ l.length + 2 := by
  unfold chgE
  rw [List.length_map]
  exact both_len lo hi h
/-- A change of nothing keeps all but the clips: merged, it is what it was. -/
theorem chg_same {g : En → En} {l : List En} {lo hi : Int} (h : ∀ x, x ∈ bothE l lo hi → inB lo hi x = true → g x = x) : mergeE (chgE g l lo hi) = mergeE l := by
  have e : chgE g l lo hi = bothE l lo hi := by
    unfold chgE
    rw [List.map_congr_left (g := id) fun x hx => by
      unfold inE
      split
      · rename_i k
        exact h x hx k
      · rfl]
    simp
  rw [e]
  unfold bothE
  rw [merge_clip, merge_clip]
end Go.Proofs.YtefiiooibbkffaaGreat

namespace Go.Proofs.YtefiiooibbkffaaGreat
set_option linter.unusedVariables false
set_option linter.unusedSimpArgs false

/-- The entries of a map: they may be, and are merged. -/
structure MapL (l : List En) : Prop where
  rf : RF 0 l
  mg : mergeE l = l
theorem mapL_nil : MapL [] := ⟨trivial, rfl⟩
theorem mapL_merge {l : List En} (h : RF 0 l) : MapL (mergeE l) := ⟨rf_merge h, merge_merge l⟩
def rangeV (lo n : Int) : Bool := decide (0 ≤ lo ∧ 1 ≤ n ∧ n ≤ 4096 ∧ lo ≤ 67108864 - n)
theorem range_iff {lo n : Int} : rangeV lo n = true ↔ 0 ≤ lo ∧ 1 ≤ n ∧ n ≤ 4096 ∧ lo ≤ 67108864 - n := by unfold rangeV; exact decide_eq_true_iff
/-- Stands at a page, as long as it is. -/
def moveE (x : En) (a : Int) : En := { x with s := a, e := a + (x.e - x.s) }
def sizedB (x : En) : Bool := decide (0 ≤ x.s ∧ x.s < x.e ∧ x.e - x.s ≤ 4096)
/-- May be mapped (and, if its place is given, there). -/
def mayB (addr : Int) (x : En) (fixed : Bool) : Bool := sizedB x && (!fixed || rangeV addr (x.e - x.s)) && goodB (moveE x 0)
structure Did where
  l : List En
  n : Int
  gone : List En
  err : Int
def mapV (l : List En) (addr : Int) (x : En) (fixed : Bool) : Did :=
  if mayB addr x fixed = true then
    if fixed = true then ⟨mergeE (putE (leftE l addr (addr + (x.e - x.s))) (moveE x addr)), addr, goneE l addr (addr + (x.e - x.s)), 0⟩
    else match spaceE l addr (x.e - x.s) with
      | some a => ⟨mergeE (putE l (moveE x a)), a, [], 0⟩
      | none => ⟨l, 0, [], 5⟩
  else ⟨l, 0, [], 2⟩
def unmapV (l : List En) (lo n : Int) : Did := if rangeV lo n = true then ⟨mergeE (leftE l lo (lo + n)), 0, goneE l lo (lo + n), 0⟩ else ⟨l, 0, [], 2⟩
/-- Rights that all entries of a range may have. -/
def mayP (l : List En) (lo hi p : Int) : Bool := l.all fun x => !decide (x.s < hi ∧ lo < x.e) || decide (p.toNat &&& x.m.toNat = p.toNat)
def protV (l : List En) (lo n p : Int) : Did :=
  if rangeV lo n = true ∧ 0 ≤ p ∧ p ≤ 7 then
    if wholeB l lo (lo + n) = true then
      if mayP l lo (lo + n) p = true then ⟨mergeE (chgE (setV 2 p false) l lo (lo + n)), 0, [], 0⟩ else ⟨l, 0, [], 3⟩
    else ⟨l, 0, [], 5⟩
  else ⟨l, 0, [], 2⟩
/-- The three others: what it is, its value, the most that it may be. -/
def otherV (l : List En) (lo n k v most : Int) (on : Bool) : Did :=
  if rangeV lo n = true ∧ 0 ≤ v ∧ v ≤ most then
    if wholeB l lo (lo + n) = true then ⟨mergeE (chgE (setV k v on) l lo (lo + n)), 0, [], 0⟩ else ⟨l, 0, [], 5⟩
  else ⟨l, 0, [], 2⟩
def unwire (x : En) : En := { x with wi := false }
def childL (l : List En) : List En := (l.filter fun x => decide (x.i ≠ 2)).map unwire
def forkV (l : List En) : List En := mergeE (childL l)
structure VAct where
  k : Int
  lo : Int
  n : Int
  how : Int
  x : En
  on : Bool
def stepV (l : List En) (a : VAct) : Did :=
  if a.k = 0 then mapV l a.lo a.x a.on
  else if a.k = 1 then unmapV l a.lo a.n
  else if a.k = 2 then protV l a.lo a.n a.how
  else if a.k = 3 then otherV l a.lo a.n 3 a.how 2 false
  else if a.k = 4 then otherV l a.lo a.n 4 a.how 4 false
  else if a.k = 5 then otherV l a.lo a.n 5 0 1 a.on
  else if a.k = 6 then ⟨forkV l, 0, [], 0⟩
  else ⟨l, 0, [], 0⟩
def foldV (l : List En) (as : List VAct) : List En := as.foldl (fun m a => (stepV m a).l) l
/-- What it was all along: an act's list, where its arms are what they were. -/
theorem sized_iff {x : En} : sizedB x = true ↔ 0 ≤ x.s ∧ x.s < x.e ∧ x.e - x.s ≤ 4096 := by unfold sizedB; exact decide_eq_true_iff
theorem may_parts {addr : Int} {x : En} {fixed : Bool} (h : mayB addr x fixed = true) : (0 ≤ x.s ∧ x.s < x.e ∧ x.e - x.s ≤ 4096) ∧ (fixed = true → rangeV addr (x.e - x.s) = true) ∧ GoodE (moveE x 0) := by
  unfold mayB at h
  simp only [Bool.and_eq_true] at h
  obtain ⟨⟨h1, h2⟩, h3⟩ := h
  refine ⟨sized_iff.1 h1, fun hf => ?_, (goodB_iff _).1 h3⟩
  rw [hf] at h2
  simpa using h2
theorem good_move {x : En} {a : Int} (h : GoodE (moveE x 0)) (h1 : 0 ≤ a) (h2 : a + (x.e - x.s) ≤ 67108864) : GoodE (moveE x a) := by
  obtain ⟨g1, g2, g3, g4, g5, g6, g7, g8, g9, g10, g11, g12⟩ := h
  simp only [moveE] at *
  exact ⟨h1, by simp only; omega, h2, g4, g5, g6, g7, g8, g9, g10, g11, fun hf => by have := g12 hf; simp only; omega⟩
theorem free_left {l : List En} {x : En} {a : Int} (h : RF 0 l) (hg : GoodE (moveE x a)) : freeB (leftE l a (a + (x.e - x.s))) (moveE x a) = true := by
  refine (free_iff (rf_left _ _ h) hg.lt).2 fun y hy => ?_
  have hgy := (rf_good (rf_left _ _ h) y hy).1.lt
  obtain ⟨hb, hn⟩ := List.mem_filter.1 hy
  have h3 := both_none y hb
  have h4 : ¬ (a ≤ y.s ∧ y.e ≤ a + (x.e - x.s)) := by
    intro hc
    rw [show inB a (a + (x.e - x.s)) y = true from decide_eq_true hc] at hn
    cases hn
  have hlt := hg.lt
  simp only [moveE] at *
  omega
theorem free_space {l : List En} {x : En} {a hint : Int} (h : RF 0 l) (hx : x.s < x.e) (hs : spaceE l hint (x.e - x.s) = some a) : 0 ≤ a ∧ a + (x.e - x.s) ≤ 67108864 ∧ freeB l (moveE x a) = true := by
  obtain ⟨h1, h2, h3, h4, h5⟩ := space_free h hs
  refine ⟨h3, h4, (free_iff h (show a < a + (x.e - x.s) by omega)).2 h5⟩
theorem fits_set {x : En} {p : Int} (hx : GoodE x) (h0 : 0 ≤ p) (h7 : p ≤ 7) (hp : p.toNat &&& x.m.toNat = p.toNat) : fitsB p x.m = true := by
  have h1 := hx.pm
  unfold fitsB at *
  simp only [Bool.and_eq_true, decide_eq_true_eq] at *
  exact ⟨⟨h0, h7, h1.1.2.2.1, h1.1.2.2.2⟩, hp⟩
theorem both_mem : ∀ {l : List En} {pg : Int} {y : En}, y ∈ clipE l pg → ∃ x, x ∈ l ∧ y.m = x.m ∧ x.s ≤ y.s ∧ y.e ≤ x.e := fun {l pg y} hy => by
  unfold clipE at hy
  obtain ⟨x, hx, hy⟩ := List.mem_flatMap.1 hy
  unfold clip1 at hy
  split at hy
  · rename_i hc
    simp at hy
    rcases hy with rfl | rfl
    · exact ⟨x, hx, rfl, Int.le_refl _, by simp only [lowE]; omega⟩
    · exact ⟨x, hx, rfl, by simp only [fromE]; omega, Int.le_refl _⟩
  · simp at hy
    subst hy
    exact ⟨y, hx, rfl, Int.le_refl _, Int.le_refl _⟩
/-- Each act leaves a list that may be a map's. -/
theorem rf_prot {l : List En} {lo n p : Int} (h : RF 0 l) (hr : rangeV lo n = true) (h0 : 0 ≤ p) (h7 : p ≤ 7) (hm : mayP l lo (lo + n) p = true) : RF 0 (chgE (setV 2 p false) l lo (lo + n)) := by
  refine rf_chg (set_stays 2 p false) h fun y hy hin hg => ?_
  obtain ⟨z, hz, e1, s1, t1⟩ := both_mem hy
  obtain ⟨x, hx, e2, s2, t2⟩ := both_mem hz
  have h1 := List.all_eq_true.1 hm x hx
  have h2 := of_decide_eq_true (show decide (lo ≤ y.s ∧ y.e ≤ lo + n) = true from hin)
  have hlt := hg.lt
  rw [decide_eq_true (show x.s < lo + n ∧ lo < x.e by omega)] at h1
  simp only [Bool.not_true, Bool.false_or, decide_eq_true_eq] at h1
  rw [← e2, ← e1] at h1
  have h3 := fits_set hg h0 h7 h1
  obtain ⟨g1, g2, g3, g4, g5, g6, g7, g8, g9, g10, g11, g12⟩ := hg
  exact ⟨g1, g2, g3, g4, g5, h3, g7, g8, g9, g10, g11, g12⟩
theorem rf_other {l : List En} {lo n k v most : Int} {on : Bool} (h : RF 0 l) (h0 : 0 ≤ v) (h1 : v ≤ most) (hk : (k = 3 ∧ most ≤ 2) ∨ (k = 4 ∧ most ≤ 4) ∨ k = 5) : RF 0 (chgE (setV k v on) l lo (lo + n)) := by
  refine rf_chg (set_stays k v on) h fun y hy hin hg => ?_
  obtain ⟨g1, g2, g3, g4, g5, g6, g7, g8, g9, g10, g11, g12⟩ := hg
  rcases hk with ⟨rfl, h2⟩ | ⟨rfl, h2⟩ | rfl
  · exact ⟨g1, g2, g3, g4, g5, g6, h0, by show v ≤ 2; omega, g9, g10, g11, g12⟩
  · exact ⟨g1, g2, g3, g4, g5, g6, g7, g8, h0, by show v ≤ 4; omega, g11, g12⟩
  · exact ⟨g1, g2, g3, g4, g5, g6, g7, g8, g9, g10, g11, g12⟩
theorem rf_child {l : List En} {b : Int} (h : RF b l) : RF b (childL l) := by
  refine rf_map (rf_sub h List.filter_sublist) fun x hx => ?_
  obtain ⟨g1, g2, g3, g4, g5, g6, g7, g8, g9, g10, g11, g12⟩ := (rf_good h x (List.mem_filter.1 hx).1).1
  exact ⟨⟨g1, g2, g3, g4, g5, g6, g7, g8, g9, g10, g11, g12⟩, rfl, rfl⟩
theorem left_len' {l : List En} {b : Int} (lo hi : Int) (h : RF b l) : (leftE l lo hi).length ≤ l.length + 2 := by
  have h1 := both_len lo hi h
  have h2 := List.length_filter_le (fun x => !inB lo hi x) (bothE l lo hi)
  unfold leftE
  omega
theorem gone_len' {l : List En} {b : Int} (lo hi : Int) (h : RF b l) : (goneE l lo hi).length ≤ l.length + 2 := by
  have h1 := both_len lo hi h
  have h2 := List.length_filter_le (inB lo hi) (bothE l lo hi)
  unfold goneE
  omega
theorem map_did {l : List En} (h : MapL l) (addr : Int) (x : En) (fixed : Bool) : MapL (mapV l addr x fixed).l ∧ (mapV l addr x fixed).l.length ≤ l.length + 3 ∧ (mapV l addr x fixed).gone.length ≤ l.length + 2 ∧ RF 0 (mapV l addr x fixed).gone ∧ ((mapV l addr x fixed).err ≠ 0 → mapV l addr x fixed = ⟨l, 0, [], (mapV l addr x fixed).err⟩) := by
  unfold mapV
  split
  · rename_i hm
    obtain ⟨⟨k1, k2, k3⟩, k4, k5⟩ := may_parts hm
    split
    · rename_i hf
      obtain ⟨r1, r2, r3, r4⟩ := range_iff.1 (k4 hf)
      have hg := good_move k5 r1 (a := addr) (by omega)
      have hfr := free_left h.rf hg
      have hp := rf_put (rf_left _ _ h.rf) hg hfr
      have h1 := merge_len (putE (leftE l addr (addr + (x.e - x.s))) (moveE x addr))
      rw [put_len] at h1
      have h2 := left_len' addr (addr + (x.e - x.s)) h.rf
      exact ⟨mapL_merge hp, by simp only; omega, gone_len' _ _ h.rf, rf_gone _ _ h.rf, fun e => (e rfl).elim⟩
    · split
      · rename_i a ha
        obtain ⟨q1, q2, q3⟩ := free_space h.rf k2 ha
        have hg := good_move k5 q1 q2
        have h1 := merge_len (putE l (moveE x a))
        rw [put_len] at h1
        exact ⟨mapL_merge (rf_put h.rf hg q3), by simp only; omega, by simp, trivial, fun e => (e rfl).elim⟩
      · exact ⟨h, by simp only; omega, by simp, trivial, fun _ => rfl⟩
  · exact ⟨h, by simp only; omega, by simp, trivial, fun _ => rfl⟩
theorem unmap_did {l : List En} (h : MapL l) (lo n : Int) : MapL (unmapV l lo n).l ∧ (unmapV l lo n).l.length ≤ l.length + 3 ∧ (unmapV l lo n).gone.length ≤ l.length + 2 ∧ RF 0 (unmapV l lo n).gone ∧ ((unmapV l lo n).err ≠ 0 → unmapV l lo n = ⟨l, 0, [], (unmapV l lo n).err⟩) := by
  unfold unmapV
  split
  · have h1 := merge_len (leftE l lo (lo + n))
    have h2 := left_len' lo (lo + n) h.rf
    exact ⟨mapL_merge (rf_left _ _ h.rf), by simp only; omega, gone_len' _ _ h.rf, rf_gone _ _ h.rf, fun e => (e rfl).elim⟩
  · exact ⟨h, by simp only; omega, by simp, trivial, fun _ => rfl⟩
theorem prot_did {l : List En} (h : MapL l) (lo n p : Int) : MapL (protV l lo n p).l ∧ (protV l lo n p).l.length ≤ l.length + 3 ∧ (protV l lo n p).gone.length ≤ l.length + 2 ∧ RF 0 (protV l lo n p).gone ∧ ((protV l lo n p).err ≠ 0 → protV l lo n p = ⟨l, 0, [], (protV l lo n p).err⟩) := by
  unfold protV
  split
  · rename_i hr
    split
    · split
      · rename_i hm
        have h1 := merge_len (chgE (setV 2 p false) l lo (lo + n))
        have h2 := chg_len (g := setV 2 p false) lo (lo + n) h.rf
        exact ⟨mapL_merge (rf_prot h.rf hr.1 hr.2.1 hr.2.2 hm), by simp only; omega, by simp, trivial, fun e => (e rfl).elim⟩
      · exact ⟨h, by simp only; omega, by simp, trivial, fun _ => rfl⟩
    · exact ⟨h, by simp only; omega, by simp, trivial, fun _ => rfl⟩
  · exact ⟨h, by simp only; omega, by simp, trivial, fun _ => rfl⟩
theorem other_did {l : List En} (h : MapL l) (lo n k v most : Int) (on : Bool) (hk : (k = 3 ∧ most ≤ 2) ∨ (k = 4 ∧ most ≤ 4) ∨ k = 5) : MapL (otherV l lo n k v most on).l ∧ (otherV l lo n k v most on).l.length ≤ l.length + 3 ∧ (otherV l lo n k v most on).gone.length ≤ l.length + 2 ∧ RF 0 (otherV l lo n k v most on).gone ∧ ((otherV l lo n k v most on).err ≠ 0 → otherV l lo n k v most on = ⟨l, 0, [], (otherV l lo n k v most on).err⟩) := by
  unfold otherV
  split
  · rename_i hr
    split
    · have h1 := merge_len (chgE (setV k v on) l lo (lo + n))
      have h2 := chg_len (g := setV k v on) lo (lo + n) h.rf
      exact ⟨mapL_merge (rf_other h.rf hr.2.1 hr.2.2 hk), by simp only; omega, by simp, trivial, fun e => (e rfl).elim⟩
    · exact ⟨h, by simp only; omega, by simp, trivial, fun _ => rfl⟩
  · exact ⟨h, by simp only; omega, by simp, trivial, fun _ => rfl⟩
theorem child_len (l : List En) : (childL l).length ≤ l.length := by
  unfold childL
  rw [List.length_map]
  exact List.length_filter_le _ _
theorem fork_len (l : List En) : (forkV l).length ≤ l.length := Nat.le_trans (merge_len _) (child_len l)
theorem mapL_fork {l : List En} (h : MapL l) : MapL (forkV l) := mapL_merge (rf_child h.rf)
theorem step_did {l : List En} (h : MapL l) (a : VAct) : MapL (stepV l a).l ∧ (stepV l a).l.length ≤ l.length + 3 ∧ (stepV l a).gone.length ≤ l.length + 2 ∧ RF 0 (stepV l a).gone ∧ ((stepV l a).err ≠ 0 → stepV l a = ⟨l, 0, [], (stepV l a).err⟩) := by
  unfold stepV
  split
  · exact map_did h _ _ _
  · split
    · exact unmap_did h _ _
    · split
      · exact prot_did h _ _ _
      · split
        · exact other_did h _ _ _ _ _ _ (.inl ⟨rfl, Int.le_refl _⟩)
        · split
          · exact other_did h _ _ _ _ _ _ (.inr (.inl ⟨rfl, Int.le_refl _⟩))
          · split
            · exact other_did h _ _ _ _ _ _ (.inr (.inr rfl))
            · split
              · have := fork_len l
                exact ⟨mapL_fork h, by simp only; omega, by simp, trivial, fun e => (e rfl).elim⟩
              · exact ⟨h, by simp only; omega, by simp, trivial, fun _ => rfl⟩
theorem fold_did : ∀ (as : List VAct) {l : List En}, MapL l → MapL (foldV l as) ∧ (foldV l as).length ≤ l.length + 3 * as.length
  | [], l, h => ⟨h, by simp [foldV]⟩
  | a :: r, l, h => by
    obtain ⟨h1, h2, -⟩ := step_did h a
    obtain ⟨h3, h4⟩ := fold_did r h1
    refine ⟨h3, ?_⟩
    have e : foldV l (a :: r) = foldV (stepV l a).l r := rfl
    rw [e]
    simp only [List.length_cons]
    omega
theorem fold_take16 {as : List VAct} {q : Nat} {a : VAct} (l : List En) (ha : as[q]? = some a) : foldV l (as.take (q + 1)) = (stepV (foldV l (as.take q)) a).l := by
  have e : as.take (q + 1) = as.take q ++ [a] := by rw [List.take_add_one, ha]; rfl
  unfold foldV
  rw [e, List.foldl_append]
  rfl
end Go.Proofs.YtefiiooibbkffaaGreat

namespace Go.Proofs.YtefiiooibbkffaaGreat
set_option linter.unusedVariables false
set_option linter.unusedSimpArgs false

/-- The entry that has a page. -/
def atV (l : List En) (pg : Int) : Option En := match l[findK l pg]? with | some x => if x.s ≤ pg then some x else none | none => none
theorem at_page (l : List En) (pg : Int) : pageOf l pg = (atV l pg).map fun x => normE x pg := by
  rw [pageOf_find]
  unfold atV
  cases l[findK l pg]? with
  | none => rfl
  | some x => by_cases h : x.s ≤ pg <;> simp [h]
theorem at_has (l : List En) (pg : Int) : hasB l pg = (atV l pg).isSome := by
  unfold hasB atV
  cases l[findK l pg]? with
  | none => rfl
  | some x => by_cases h : x.s ≤ pg <;> simp [h]
theorem at_mem {l : List En} {pg : Int} {x : En} (h : atV l pg = some x) : l[findK l pg]? = some x ∧ x.s ≤ pg ∧ pg < x.e := by
  unfold atV at h
  cases e : l[findK l pg]? with
  | none => rw [e] at h; cases h
  | some y =>
    rw [e] at h
    by_cases k : y.s ≤ pg
    · simp only [k, if_true] at h
      cases h
      exact ⟨rfl, k, findK_at e⟩
    · simp only [k, if_false] at h
      cases h
theorem at_none_iff {l : List En} {pg : Int} : atV l pg = none ↔ hasB l pg = false := by
  rw [at_has]
  cases atV l pg <;> simp
/-- Two entries that have the same for a page are the same but for their ends. -/
theorem norm_same {x y : En} {pg : Int} (h : normE x pg = normE y pg) : { x with s := y.s, e := y.e, o := y.o } = y := by
  obtain ⟨s, e, f, o, sh, p, m, i, a, wi⟩ := x
  obtain ⟨s', e', f', o', sh', p', m', i', a', wi'⟩ := y
  simp only [normE, En.mk.injEq] at h ⊢
  simp_all
theorem norm_off {x y : En} {pg : Int} (h : normE x pg = normE y pg) : x.f = y.f ∧ x.sh = y.sh ∧ x.p = y.p ∧ x.m = y.m ∧ x.i = y.i ∧ x.a = y.a ∧ x.wi = y.wi ∧ (0 < x.f → x.o - x.s = y.o - y.s) := by
  obtain ⟨s, e, f, o, sh, p, m, i, a, wi⟩ := x
  obtain ⟨s', e', f', o', sh', p', m', i', a', wi'⟩ := y
  simp only [normE, En.mk.injEq] at h ⊢
  obtain ⟨-, -, rfl, h1, rfl, rfl, rfl, rfl, rfl, rfl⟩ := h
  refine ⟨rfl, rfl, rfl, rfl, rfl, rfl, rfl, fun hf => ?_⟩
  rw [if_pos hf, if_pos hf] at h1
  omega
/-! ### what each call makes of a page -/
theorem page_unmap {l : List En} (h : MapL l) {lo n : Int} (hr : rangeV lo n = true) (pg : Int) : pageOf (unmapV l lo n).l pg = if lo ≤ pg ∧ pg < lo + n then none else pageOf l pg := by
  unfold unmapV
  rw [if_pos hr]
  simp only
  rw [page_merge (rf_left lo (lo + n) h.rf), page_left lo (lo + n) pg h.rf]
theorem page_set {l : List En} (h : MapL l) {lo n k v : Int} {on : Bool} (hr : RF 0 (chgE (setV k v on) l lo (lo + n))) (pg : Int) : pageOf (mergeE (chgE (setV k v on) l lo (lo + n))) pg = if lo ≤ pg ∧ pg < lo + n then (pageOf l pg).map (setV k v on) else pageOf l pg := by
  rw [page_merge hr, page_chg (set_stays k v on) h.rf hr]
theorem page_child {l : List En} {b : Int} (h : RF b l) (pg : Int) : pageOf (childL l) pg = match pageOf l pg with | some v => if v.i ≠ 2 then some (unwire v) else none | none => none := by
  have hr := rf_child h
  cases e : pageOf l pg with
  | none =>
    refine page_none fun y hy => ?_
    obtain ⟨x, hx, rfl⟩ := List.mem_map.1 hy
    exact page_empty h e x (List.mem_filter.1 hx).1
  | some v =>
    obtain ⟨x, hx, h1, h2, rfl⟩ := page_mem e
    by_cases hi : x.i ≠ 2
    · simp only
      rw [if_pos (show (normE x pg).i ≠ 2 from hi)]
      exact page_some hr (List.mem_map.2 ⟨x, List.mem_filter.2 ⟨hx, decide_eq_true hi⟩, rfl⟩) h1 h2
    · simp only
      rw [if_neg (show ¬ (normE x pg).i ≠ 2 from hi)]
      refine page_none fun y hy => ?_
      obtain ⟨z, hz, rfl⟩ := List.mem_map.1 hy
      obtain ⟨hz, hi2⟩ := List.mem_filter.1 hz
      intro ⟨k1, k2⟩
      have e2 := page_some h hz k1 k2
      rw [e] at e2
      have e3 := congrArg En.i (Option.some.inj e2)
      exact hi (by rw [show x.i = z.i from e3]; exact of_decide_eq_true hi2)
theorem page_fork {l : List En} (h : MapL l) (pg : Int) : pageOf (forkV l) pg = match pageOf l pg with | some v => if v.i ≠ 2 then some (unwire v) else none | none => none := by
  unfold forkV
  rw [page_merge (rf_child h.rf), page_child h.rf]
/-- A page of a child. -/
theorem fork_at {l : List En} (h : MapL l) (pg : Int) : match atV l pg with
    | none => atV (forkV l) pg = none
    | some x => if x.i = 2 then atV (forkV l) pg = none else ∃ y, atV (forkV l) pg = some y ∧ y.wi = false ∧ y.p = x.p ∧ y.m = x.m ∧ y.f = x.f ∧ y.sh = x.sh ∧ y.i = x.i ∧ (0 < x.f → y.o - y.s = x.o - x.s) := by
  have h1 := page_fork h pg
  rw [at_page l pg, at_page (forkV l) pg] at h1
  cases e : atV l pg with
  | none =>
    rw [e] at h1
    cases e2 : atV (forkV l) pg with
    | none => rfl
    | some y => rw [e2] at h1; cases h1
  | some x =>
    rw [e] at h1
    simp only [Option.map_some] at h1
    by_cases hi : x.i = 2
    · rw [if_neg (show ¬ (normE x pg).i ≠ 2 from fun k => k hi)] at h1
      simp only [hi, if_true]
      cases e2 : atV (forkV l) pg with
      | none => rfl
      | some y => rw [e2] at h1; cases h1
    · rw [if_pos (show (normE x pg).i ≠ 2 from hi)] at h1
      simp only [hi, if_false]
      cases e2 : atV (forkV l) pg with
      | none => rw [e2] at h1; cases h1
      | some y =>
        rw [e2] at h1
        have h2 : normE y pg = unwire (normE x pg) := Option.some.inj h1
        have h3 : normE y pg = normE (unwire x) pg := h2
        obtain ⟨k1, k2, k3, k4, k5, k6, k7, k8⟩ := norm_off h3
        exact ⟨y, rfl, k7, k3, k4, k1, k2, k5, fun hf => k8 (by rw [k1]; exact hf)⟩
theorem whole_same {l m : List En} (hl : RF 0 l) (hm : RF 0 m) {lo : Int} {n : Nat} (h : ∀ pg, lo ≤ pg → pg < lo + n → hasB l pg = hasB m pg) : wholeB l lo (lo + n) = wholeB m lo (lo + n) := by
  have key : wholeB l lo (lo + n) = true ↔ wholeB m lo (lo + n) = true := by
    rw [whole_pages hl, whole_pages hm]
    constructor
    · intro k i hi
      rw [← h (lo + i) (by omega) (by omega)]
      exact k i hi
    · intro k i hi
      rw [h (lo + i) (by omega) (by omega)]
      exact k i hi
  cases h1 : wholeB l lo (lo + n) with
  | true => exact (key.1 h1).symm
  | false =>
    cases h2 : wholeB m lo (lo + n) with
    | false => rfl
    | true => rw [key.2 h2] at h1; cases h1
theorem gone_nil {l : List En} (h : RF 0 l) {lo hi : Int} (hn : ∀ pg, lo ≤ pg → pg < hi → pageOf l pg = none) : goneE l lo hi = [] := by
  refine List.filter_eq_nil_iff.2 fun x hx hin => ?_
  have h2 := of_decide_eq_true (show decide (lo ≤ x.s ∧ x.e ≤ hi) = true from hin)
  have hlt := (rf_good (rf_both lo hi h) x hx).1.lt
  have h3 := page_some (rf_both lo hi h) hx (Int.le_refl _) hlt
  rw [page_both, hn x.s (by omega) (by omega)] at h3
  cases h3
/-- A change of a range whose pages all have entries leaves all of them their entries. -/
theorem set_whole {l : List En} (h : MapL l) {lo k v : Int} {n : Nat} {on : Bool} (hr : RF 0 (chgE (setV k v on) l lo (lo + n))) : wholeB (mergeE (chgE (setV k v on) l lo (lo + n))) lo (lo + n) = wholeB l lo (lo + n) := by
  refine whole_same (rf_merge hr) h.rf fun pg h1 h2 => ?_
  rw [hasB_page, hasB_page, page_set h hr, if_pos ⟨h1, h2⟩]
  cases pageOf l pg <;> rfl
theorem mayP_zero (l : List En) (lo hi : Int) : mayP l lo hi 0 = true := by
  unfold mayP
  rw [List.all_eq_true]
  intro x _
  simp
/-- What is mapped stands there, all of it. -/
theorem page_map16 {l : List En} (h : MapL l) {addr : Int} {x : En} {fixed : Bool} (he : (mapV l addr x fixed).err = 0) : ∃ a, (mapV l addr x fixed).n = a ∧ 0 ≤ a ∧ a + (x.e - x.s) ≤ 67108864 ∧ 0 ≤ x.s ∧ x.s < x.e ∧ x.e - x.s ≤ 4096 ∧ GoodE (moveE x a) ∧ (fixed = true → a = addr) ∧ (fixed = false → (mapV l addr x fixed).gone = []) ∧ (∀ pg, pageOf (mapV l addr x fixed).l pg = if a ≤ pg ∧ pg < a + (x.e - x.s) then some (normE (moveE x a) pg) else pageOf l pg) ∧ (∀ pg, a ≤ pg → pg < a + (x.e - x.s) → pageOf (mapV l addr x fixed).gone pg = pageOf l pg ∧ (fixed = false → pageOf l pg = none)) := by
  unfold mapV at he ⊢
  split at he
  · rename_i hm
    rw [if_pos hm]
    obtain ⟨⟨k1, k2, k3⟩, k4, k5⟩ := may_parts hm
    split at he
    · rename_i hf
      rw [if_pos hf]
      obtain ⟨r1, r2, r3, r4⟩ := range_iff.1 (k4 hf)
      have hg := good_move k5 r1 (a := addr) (by omega)
      have hfr := free_left h.rf hg
      have hl := rf_left addr (addr + (x.e - x.s)) h.rf
      refine ⟨addr, rfl, r1, by omega, k1, k2, k3, hg, fun _ => rfl, fun e => (Bool.noConfusion (hf.symm.trans e)), fun pg => ?_, fun pg p1 p2 => ⟨?_, fun e => (Bool.noConfusion (hf.symm.trans e))⟩⟩
      · simp only
        rw [page_merge (rf_put hl hg hfr), page_put hl hg hfr, page_left addr (addr + (x.e - x.s)) pg h.rf]
        by_cases hin : addr ≤ pg ∧ pg < addr + (x.e - x.s)
        · rw [if_pos (show (moveE x addr).s ≤ pg ∧ pg < (moveE x addr).e from hin)]
          simp only [if_pos hin]
        · rw [if_neg hin, if_neg (show ¬ ((moveE x addr).s ≤ pg ∧ pg < (moveE x addr).e) from hin), if_neg hin]
      · simp only
        rw [page_gone addr (addr + (x.e - x.s)) pg h.rf, if_pos ⟨p1, p2⟩]
    · rename_i hf
      rw [if_neg hf]
      split at he
      · rename_i a ha
        obtain ⟨q1, q2, q3⟩ := free_space h.rf k2 ha
        have hg := good_move k5 q1 q2
        have hn : ∀ pg, a ≤ pg → pg < a + (x.e - x.s) → pageOf l pg = none := fun pg p1 p2 => page_none fun y hy ⟨y1, y2⟩ => by
          have := (free_iff h.rf hg.lt).1 q3 y hy
          simp only [moveE] at this
          omega
        refine ⟨a, rfl, q1, q2, k1, k2, k3, hg, fun e => (hf e).elim, fun _ => rfl, fun pg => ?_, fun pg p1 p2 => ⟨?_, fun _ => hn pg p1 p2⟩⟩
        · simp only
          rw [page_merge (rf_put h.rf hg q3), page_put h.rf hg q3]
          rfl
        · simp only
          rw [hn pg p1 p2]
          rfl
      · cases he
  · cases he
end Go.Proofs.YtefiiooibbkffaaGreat
