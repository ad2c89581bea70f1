/- Layer 15, plainly: entries and lists of them, what each call answers, and what follows. No program. -/
import Derived.Test.YtefiiooibbkffaaGreatPBits
namespace Go.Proofs.YtefiiooibbkffaaGreat
set_option linter.unusedVariables false

structure En where
  s : Int
  e : Int
  f : Int
  o : Int
  sh : Bool
  p : Int
  m : Int
  i : Int
  a : Int
  wi : Bool
  deriving DecidableEq
def zeroE : En := ⟨0, 0, 0, 0, false, 0, 0, 0, 0, false⟩
/-- Its rights are a machine's numbers. -/
structure OkE (x : En) : Prop where
  p : okI x.p
  m : okI x.m
/-- Rights within those that may be. -/
def fitsB (p m : Int) : Bool := decide (0 ≤ p ∧ p ≤ 7 ∧ 0 ≤ m ∧ m ≤ 7) && decide (p.toNat &&& m.toNat = p.toNat)
structure GoodE (x : En) : Prop where
  s0 : 0 ≤ x.s
  lt : x.s < x.e
  e1 : x.e ≤ 67108864
  f0 : 0 ≤ x.f
  o0 : 0 ≤ x.o
  pm : fitsB x.p x.m = true
  i0 : 0 ≤ x.i
  i1 : x.i ≤ 2
  a0 : 0 ≤ x.a
  a1 : x.a ≤ 4
  oz : x.f = 0 → x.o = 0
  oe : 0 < x.f → x.o ≤ 4096 - (x.e - x.s)
def goodB (x : En) : Bool := decide (0 ≤ x.s ∧ x.s < x.e ∧ x.e ≤ 67108864 ∧ 0 ≤ x.f ∧ 0 ≤ x.o) && fitsB x.p x.m && decide (0 ≤ x.i ∧ x.i ≤ 2 ∧ 0 ≤ x.a ∧ x.a ≤ 4 ∧ (x.f = 0 → x.o = 0) ∧ (0 < x.f → x.o ≤ 4096 - (x.e - x.s)))
theorem goodB_iff (x : En) : goodB x = true ↔ GoodE x := by
  unfold goodB
  simp only [Bool.and_eq_true, decide_eq_true_eq]
  constructor
  · rintro ⟨⟨⟨h1, h2, h3, h4, h5⟩, h6⟩, h7, h8, h9, h10, h11, h12⟩
    exact ⟨h1, h2, h3, h4, h5, h6, h7, h8, h9, h10, h11, h12⟩
  · rintro ⟨h1, h2, h3, h4, h5, h6, h7, h8, h9, h10, h11, h12⟩
    exact ⟨⟨⟨h1, h2, h3, h4, h5⟩, h6⟩, h7, h8, h9, h10, h11, h12⟩
theorem goodB_no {x : En} (h : ¬ GoodE x) : goodB x = false := by
  cases e : goodB x with
  | false => rfl
  | true => exact (h ((goodB_iff x).1 e)).elim

theorem GoodE.ok {x : En} (h : GoodE x) : OkE x := by
  have h1 := h.pm
  unfold fitsB at h1
  simp only [Bool.and_eq_true, decide_eq_true_eq] at h1
  obtain ⟨⟨a, b, c, d⟩, -⟩ := h1
  exact ⟨⟨by omega, by omega⟩, ⟨by omega, by omega⟩⟩

/-! ### lists that may be -/
def RF : Int → List En → Prop
  | _, [] => True
  | b, x :: r => b ≤ x.s ∧ GoodE x ∧ RF x.e r
def rfB : Int → List En → Bool
  | _, [] => true
  | b, x :: r => goodB x && decide (b ≤ x.s) && rfB x.e r
def rightB (l : List En) : Bool := rfB 0 l
theorem rfB_iff : ∀ (l : List En) (b : Int), rfB b l = true ↔ RF b l
  | [], _ => by simp [rfB, RF]
  | x :: r, b => by
    unfold rfB RF
    simp only [Bool.and_eq_true, decide_eq_true_eq, rfB_iff r, goodB_iff]
    constructor
    · rintro ⟨⟨h1, h2⟩, h3⟩; exact ⟨h2, h1, h3⟩
    · rintro ⟨h1, h2, h3⟩; exact ⟨⟨h2, h1⟩, h3⟩
theorem right_iff (l : List En) : rightB l = true ↔ RF 0 l := rfB_iff l 0
theorem rf_good : ∀ {l : List En} {b : Int}, RF b l → ∀ x, x ∈ l → GoodE x ∧ b ≤ x.s
  | [], _, _, x, hx => by simp at hx
  | y :: r, b, h, x, hx => by
    unfold RF at h
    obtain ⟨h1, h2, h3⟩ := h
    rcases List.mem_cons.1 hx with rfl | hx
    · exact ⟨h2, h1⟩
    · obtain ⟨g1, g2⟩ := rf_good h3 x hx
      exact ⟨g1, by have := h2.lt; omega⟩
theorem rf_pair : ∀ {l : List En} {b : Int}, RF b l → l.Pairwise (fun x y => x.e ≤ y.s)
  | [], _, _ => List.Pairwise.nil
  | y :: r, b, h => by
    unfold RF at h
    obtain ⟨h1, h2, h3⟩ := h
    exact List.Pairwise.cons (fun z hz => (rf_good h3 z hz).2) (rf_pair h3)
theorem rf_mk : ∀ {l : List En} {b : Int}, (∀ x, x ∈ l → GoodE x ∧ b ≤ x.s) → l.Pairwise (fun x y => x.e ≤ y.s) → RF b l
  | [], _, _, _ => trivial
  | y :: r, b, h, hp => by
    obtain ⟨hp1, hp2⟩ := List.pairwise_cons.1 hp
    exact ⟨(h y (by simp)).2, (h y (by simp)).1, rf_mk (fun x hx => ⟨(h x (by simp [hx])).1, hp1 x hx⟩) hp2⟩
theorem rf_sub {l m : List En} {b : Int} (h : RF b l) (hs : m.Sublist l) : RF b m :=
  rf_mk (fun x hx => rf_good h x (hs.subset hx)) ((rf_pair h).sublist hs)
theorem rf_down {l : List En} {a b : Int} (h : RF b l) (ha : a ≤ b) : RF a l :=
  rf_mk (fun x hx => ⟨(rf_good h x hx).1, by have := (rf_good h x hx).2; omega⟩) (rf_pair h)
theorem rf_at {l : List En} {b : Int} (h : RF b l) {i : Nat} {x : En} (hx : l[i]? = some x) : GoodE x := (rf_good h x (List.mem_of_getElem? hx)).1
theorem rf_two {l : List En} {b : Int} (h : RF b l) {i j : Nat} {x y : En} (hij : i < j) (hx : l[i]? = some x) (hy : l[j]? = some y) : x.e ≤ y.s := by
  obtain ⟨hi, rfl⟩ := List.getElem?_eq_some_iff.1 hx
  obtain ⟨hj, rfl⟩ := List.getElem?_eq_some_iff.1 hy
  exact List.pairwise_iff_getElem.1 (rf_pair h) i j hi hj hij

/-! ### the entry of a page -/
def findK (l : List En) (pg : Int) : Nat := l.findIdx fun x => decide (pg < x.e)
def hasB (l : List En) (pg : Int) : Bool := match l[findK l pg]? with | some x => decide (x.s ≤ pg) | none => false
theorem findK_le (l : List En) (pg : Int) : findK l pg ≤ l.length := List.findIdx_le_length
theorem findK_low {l : List En} {pg : Int} {i : Nat} {x : En} (hi : i < findK l pg) (hx : l[i]? = some x) : x.e ≤ pg := by
  obtain ⟨h, rfl⟩ := List.getElem?_eq_some_iff.1 hx
  have := List.not_of_lt_findIdx hi
  simpa using this
theorem findK_at {l : List En} {pg : Int} {x : En} (hx : l[findK l pg]? = some x) : pg < x.e := by
  obtain ⟨h, rfl⟩ := List.getElem?_eq_some_iff.1 hx
  have := List.findIdx_getElem (w := h)
  exact of_decide_eq_true this
theorem findK_high {l : List En} {b pg : Int} (h : RF b l) {i : Nat} {x : En} (hi : findK l pg ≤ i) (hx : l[i]? = some x) : pg < x.e := by
  have hil := (List.getElem?_eq_some_iff.1 hx).1
  obtain ⟨y, hy⟩ : ∃ y, l[findK l pg]? = some y := ⟨_, List.getElem?_eq_getElem (by omega)⟩
  have h1 := findK_at hy
  rcases Nat.lt_or_ge (findK l pg) i with h2 | h2
  · have := rf_two h h2 hy hx
    have := (rf_at h hx).lt
    omega
  · have e : i = findK l pg := by omega
    subst e
    rw [hy] at hx; cases hx; exact h1
theorem findK_one {l : List En} {pg : Int} {k : Nat} (hk : k ≤ l.length) (h1 : ∀ i x, i < k → l[i]? = some x → x.e ≤ pg) (h2 : ∀ i x, k ≤ i → l[i]? = some x → pg < x.e) : findK l pg = k := by
  rcases Nat.lt_trichotomy (findK l pg) k with h | h | h
  · obtain ⟨x, hx⟩ : ∃ x, l[findK l pg]? = some x := ⟨_, List.getElem?_eq_getElem (by omega)⟩
    have := h1 _ x h hx
    have := findK_at hx
    omega
  · exact h
  · obtain ⟨x, hx⟩ : ∃ x, l[k]? = some x := ⟨_, List.getElem?_eq_getElem (by have := findK_le l pg; omega)⟩
    have := h2 _ x (Nat.le_refl _) hx
    have := findK_low h hx
    omega
theorem findK_cons (x : En) (r : List En) (pg : Int) : findK (x :: r) pg = if pg < x.e then 0 else findK r pg + 1 := by
  unfold findK
  rw [List.findIdx_cons]
  by_cases h : pg < x.e <;> simp [h]
theorem hasB_cons (x : En) (r : List En) (pg : Int) : hasB (x :: r) pg = if pg < x.e then decide (x.s ≤ pg) else hasB r pg := by
  unfold hasB
  rw [findK_cons]
  by_cases h : pg < x.e <;> simp [h]
/-- What a page has, whatever its entry's ends. -/
def normE (x : En) (pg : Int) : En := { x with s := 0, e := 0, o := if 0 < x.f then x.o + (pg - x.s) else x.o }
def pageOf : List En → Int → Option En
  | [], _ => none
  | x :: r, pg => if pg < x.e then (if x.s ≤ pg then some (normE x pg) else none) else pageOf r pg
theorem pageOf_find : ∀ (l : List En) (pg : Int), pageOf l pg = match l[findK l pg]? with | some x => if x.s ≤ pg then some (normE x pg) else none | none => none
  | [], _ => by simp [pageOf]
  | x :: r, pg => by
    unfold pageOf
    rw [findK_cons, pageOf_find r pg]
    by_cases h : pg < x.e <;> simp [h]
theorem hasB_page (l : List En) (pg : Int) : hasB l pg = (pageOf l pg).isSome := by
  rw [pageOf_find]
  unfold hasB
  cases l[findK l pg]? with
  | none => rfl
  | some x => by_cases h : x.s ≤ pg <;> simp [h]

/-! ### clipping -/
def fromE (x : En) (pg : Int) : En := { x with s := pg, o := if 0 < x.f then x.o + (pg - x.s) else x.o }
def lowE (x : En) (pg : Int) : En := { x with e := pg }
def clip1 (pg : Int) (x : En) : List En := if x.s < pg ∧ pg < x.e then [lowE x pg, fromE x pg] else [x]
def clipE (l : List En) (pg : Int) : List En := l.flatMap (clip1 pg)
theorem good_low {x : En} {pg : Int} (h : GoodE x) (h1 : x.s < pg) (h2 : pg < x.e) : GoodE (lowE x pg) := by
  obtain ⟨g1, g2, g3, g4, g5, g6, g7, g8, g9, g10, g11, g12⟩ := h
  exact ⟨g1, h1, by simp only [lowE]; omega, g4, g5, g6, g7, g8, g9, g10, g11, fun hf => by have := g12 hf; simp only [lowE]; omega⟩
theorem good_from {x : En} {pg : Int} (h : GoodE x) (h1 : x.s < pg) (h2 : pg < x.e) : GoodE (fromE x pg) := by
  obtain ⟨g1, g2, g3, g4, g5, g6, g7, g8, g9, g10, g11, g12⟩ := h
  refine ⟨by simp only [fromE]; omega, h2, g3, g4, ?_, g6, g7, g8, g9, g10, ?_, ?_⟩
  · simp only [fromE]; split <;> omega
  · intro hf
    have hf : x.f = 0 := hf
    have := g11 hf
    simp only [fromE]; rw [if_neg (by omega)]; exact this
  · intro hf
    have hf : 0 < x.f := hf
    have := g12 hf
    simp only [fromE]; rw [if_pos hf]; omega
theorem clip_cons (x : En) (r : List En) (pg : Int) : clipE (x :: r) pg = clip1 pg x ++ clipE r pg := by simp [clipE]
theorem rf_clip : ∀ {l : List En} {b : Int} (pg : Int), RF b l → RF b (clipE l pg)
  | [], _, _, _ => trivial
  | x :: r, b, pg, h => by
    obtain ⟨h1, h2, h3⟩ := h
    have ih := rf_clip pg h3
    rw [clip_cons]
    unfold clip1
    split
    · rename_i hc
      exact ⟨h1, good_low h2 hc.1 hc.2, Int.le_refl _, good_from h2 hc.1 hc.2, ih⟩
    · exact ⟨h1, h2, ih⟩
theorem clip_same {l : List En} {pg : Int} (h : ∀ x, x ∈ l → ¬ (x.s < pg ∧ pg < x.e)) : clipE l pg = l := by
  induction l with
  | nil => rfl
  | cons x r ih =>
    rw [clip_cons, ih fun y hy => h y (by simp [hy])]
    unfold clip1
    rw [if_neg (h x (by simp))]
    rfl
theorem clip_none {l : List En} {pg : Int} : ∀ x, x ∈ clipE l pg → ¬ (x.s < pg ∧ pg < x.e) := by
  intro x hx hc
  unfold clipE at hx
  obtain ⟨y, hy, hx⟩ := List.mem_flatMap.1 hx
  unfold clip1 at hx
  split at hx
  · simp at hx
    rcases hx with rfl | rfl
    · simp only [lowE] at hc; omega
    · simp only [fromE] at hc; omega
  · simp at hx
    subst hx
    contradiction
theorem page_clip : ∀ (l : List En) (at' pg : Int), pageOf (clipE l at') pg = pageOf l pg
  | [], _, _ => rfl
  | x :: r, at', pg => by
    rw [clip_cons]
    unfold clip1
    split
    · rename_i hc
      obtain ⟨h1, h2⟩ := hc
      simp only [List.cons_append, List.nil_append, pageOf, page_clip r at' pg]
      by_cases k1 : pg < at'
      · rw [if_pos (show pg < (lowE x at').e from k1), if_pos (show pg < x.e by omega)]
        rfl
      · rw [if_neg (show ¬ pg < (lowE x at').e from k1)]
        by_cases k2 : pg < x.e
        · rw [if_pos (show pg < (fromE x at').e from k2), if_pos k2, if_pos (show (fromE x at').s ≤ pg by simp only [fromE]; omega), if_pos (show x.s ≤ pg by omega)]
          congr 1
          unfold normE fromE
          simp only
          by_cases hf : 0 < x.f
          · simp only [if_pos hf]
            congr 1
            omega
          · simp only [if_neg hf]
        · rw [if_neg (show ¬ pg < (fromE x at').e from k2), if_neg k2]
    · simp only [List.cons_append, List.nil_append, pageOf, page_clip r at' pg]
theorem clip1_clip1 (a b : Int) (x : En) : (clip1 a x).flatMap (clip1 b) = (clip1 b x).flatMap (clip1 a) := by
  have key : ∀ a b : Int, a < b → (clip1 a x).flatMap (clip1 b) = (clip1 b x).flatMap (clip1 a) := by
    intro a b hab
    unfold clip1
    by_cases h1 : x.s < a ∧ a < x.e
    · by_cases h2 : x.s < b ∧ b < x.e
      · rw [if_pos h1, if_pos h2]
        simp only [List.flatMap_cons, List.flatMap_nil, List.append_nil]
        rw [if_neg (show ¬ ((lowE x a).s < b ∧ b < (lowE x a).e) by simp only [lowE]; omega), if_pos (show (fromE x a).s < b ∧ b < (fromE x a).e by simp only [fromE]; omega), if_pos (show (lowE x b).s < a ∧ a < (lowE x b).e by simp only [lowE]; omega), if_neg (show ¬ ((fromE x b).s < a ∧ a < (fromE x b).e) by simp only [fromE]; omega)]
        simp only [List.cons_append, List.nil_append]
        unfold lowE fromE
        simp only
        by_cases hf : 0 < x.f
        · simp only [if_pos hf]
          rw [show x.o + (a - x.s) + (b - a) = x.o + (b - x.s) by omega]
        · simp only [if_neg hf]
      · rw [if_pos h1, if_neg h2]
        simp only [List.flatMap_cons, List.flatMap_nil, List.append_nil]
        rw [if_neg (show ¬ ((lowE x a).s < b ∧ b < (lowE x a).e) by simp only [lowE]; omega), if_neg (show ¬ ((fromE x a).s < b ∧ b < (fromE x a).e) by simp only [fromE]; omega), if_pos h1]
        rfl
    · rw [if_neg h1]
      simp only [List.flatMap_cons, List.flatMap_nil, List.append_nil]
      by_cases h2 : x.s < b ∧ b < x.e
      · rw [if_pos h2]
        simp only [List.flatMap_cons, List.flatMap_nil, List.append_nil]
        rw [if_neg (show ¬ ((lowE x b).s < a ∧ a < (lowE x b).e) by simp only [lowE]; omega), if_neg (show ¬ ((fromE x b).s < a ∧ a < (fromE x b).e) by simp only [fromE]; omega)]
        rfl
      · rw [if_neg h2]
        simp only [List.flatMap_cons, List.flatMap_nil, List.append_nil]
        rw [if_neg h1]
  rcases Int.lt_trichotomy a b with h | h | h
  · exact key a b h
  · rw [h]
  · exact (key b a h).symm
theorem clip_clip (l : List En) (a b : Int) : clipE (clipE l a) b = clipE (clipE l b) a := by
  unfold clipE
  rw [List.flatMap_assoc, List.flatMap_assoc]
  congr 1
  funext x
  exact clip1_clip1 a b x
theorem clip_len_le : ∀ {l : List En} {b : Int} (pg : Int), RF b l → l.length ≤ (clipE l pg).length ∧ (clipE l pg).length ≤ l.length + 1
  | [], _, _, _ => by simp [clipE]
  | x :: r, b, pg, h => by
    obtain ⟨h1, h2, h3⟩ := h
    rw [clip_cons]
    unfold clip1
    split
    · rename_i hc
      rw [clip_same fun y hy => by have := (rf_good h3 y hy).2; omega]
      simp
    · have ih := clip_len_le pg h3
      simp
      omega
/-- As the program clips: at the place that Find tells. -/
theorem clip_at {l : List En} {b pg : Int} (h : RF b l) {x : En} (hx : l[findK l pg]? = some x) (hs : x.s < pg) : clipE l pg = l.take (findK l pg) ++ [lowE x pg, fromE x pg] ++ l.drop (findK l pg + 1) := by
  have hlt := (List.getElem?_eq_some_iff.1 hx).1
  have he := findK_at hx
  have e1 : l = l.take (findK l pg) ++ x :: l.drop (findK l pg + 1) := by
    have e2 : l.drop (findK l pg) = x :: l.drop (findK l pg + 1) := by rw [List.drop_eq_getElem_cons hlt, (List.getElem?_eq_some_iff.1 hx).2]
    rw [← e2, List.take_append_drop]
  conv => lhs; rw [e1]
  unfold clipE
  rw [List.flatMap_append, List.flatMap_cons]
  have k1 : (l.take (findK l pg)).flatMap (clip1 pg) = l.take (findK l pg) := clip_same fun y hy => by
    obtain ⟨i, hi⟩ := List.getElem?_of_mem hy
    rw [List.getElem?_take] at hi
    split at hi
    · rename_i hik
      have := findK_low hik hi
      omega
    · cases hi
  have k2 : (l.drop (findK l pg + 1)).flatMap (clip1 pg) = l.drop (findK l pg + 1) := clip_same fun y hy => by
    obtain ⟨i, hi⟩ := List.getElem?_of_mem hy
    rw [List.getElem?_drop] at hi
    have := rf_two h (show findK l pg < findK l pg + 1 + i by omega) hx hi
    omega
  rw [k1, k2]
  unfold clip1
  rw [if_pos ⟨hs, he⟩, List.append_assoc]
theorem clip_no {l : List En} {b pg : Int} (h : RF b l) (hx : ∀ x, l[findK l pg]? = some x → pg ≤ x.s) : clipE l pg = l := by
  refine clip_same fun y hy hc => ?_
  obtain ⟨i, hi⟩ := List.getElem?_of_mem hy
  have hk := findK_le l pg
  have hil := (List.getElem?_eq_some_iff.1 hi).1
  rcases Nat.lt_or_ge i (findK l pg) with h1 | h1
  · have := findK_low h1 hi; omega
  · obtain ⟨z, hz⟩ : ∃ z, l[findK l pg]? = some z := ⟨_, List.getElem?_eq_getElem (by omega)⟩
    have h3 := hx z hz
    rcases Nat.lt_or_ge (findK l pg) i with h2 | h2
    · have := rf_two h h2 hz hi
      have := (rf_at h hz).lt
      omega
    · have e : i = findK l pg := by omega
      subst e
      rw [hz] at hi; cases hi
      omega

/-! ### merging -/
def goesB (a b : En) : Bool := decide ({ fromE a a.e with e := b.e } = b)
def longE (y : En) (e : Int) : En := { y with e := e }
def mrg : En → List En → List En
  | y, [] => [y]
  | y, x :: r => if goesB y x = true then mrg (longE y x.e) r else y :: mrg x r
def mergeE : List En → List En
  | [] => []
  | x :: r => mrg x r
theorem goes_iff {a b : En} : goesB a b = true ↔ b.s = a.e ∧ b.f = a.f ∧ b.o = (if 0 < a.f then a.o + (a.e - a.s) else a.o) ∧ b.sh = a.sh ∧ b.p = a.p ∧ b.m = a.m ∧ b.i = a.i ∧ b.a = a.a ∧ b.wi = a.wi := by
  unfold goesB
  rw [decide_eq_true_eq]
  constructor
  · intro h
    rw [← h]
    exact ⟨rfl, rfl, rfl, rfl, rfl, rfl, rfl, rfl, rfl⟩
  · obtain ⟨b1, b2, b3, b4, b5, b6, b7, b8, b9, b10⟩ := b
    simp only
    rintro ⟨rfl, rfl, rfl, rfl, rfl, rfl, rfl, rfl, rfl⟩
    rfl
theorem goes_long (a b : En) (e : Int) : goesB a (longE b e) = goesB a b := by
  have : goesB a (longE b e) = true ↔ goesB a b = true := by rw [goes_iff, goes_iff]; exact Iff.rfl
  cases h : goesB a b with
  | true => exact this.2 h
  | false =>
    cases h2 : goesB a (longE b e) with
    | false => rfl
    | true => rw [this.1 h2] at h; cases h
theorem goes_low (a b : En) (e : Int) : goesB a (lowE b e) = goesB a b := goes_long a b e
theorem rf_mrg : ∀ {r : List En} {y : En} {b : Int}, RF b (y :: r) → RF b (mrg y r)
  | [], y, b, h => h
  | x :: r, y, b, h => by
    obtain ⟨h1, h2, h3, h4, h5⟩ := h
    unfold mrg
    split
    · rename_i hg
      obtain ⟨e1, e2, e3, -⟩ := goes_iff.1 hg
      refine rf_mrg ⟨h1, ?_, h5⟩
      have l1 := h2.lt
      have l2 := h4.lt
      refine ⟨h2.s0, by simp only [longE]; omega, h4.e1, h2.f0, h2.o0, h2.pm, h2.i0, h2.i1, h2.a0, h2.a1, h2.oz, fun hf => ?_⟩
      have hf : 0 < y.f := hf
      have := h4.oe (by omega)
      rw [if_pos hf] at e3
      simp only [longE]
      omega
    · exact ⟨h1, h2, rf_mrg ⟨h3, h4, h5⟩⟩
theorem rf_merge {l : List En} {b : Int} (h : RF b l) : RF b (mergeE l) := by
  cases l with
  | nil => exact h
  | cons x r => exact rf_mrg h
theorem page_mrg : ∀ {r : List En} {y : En} {b : Int} (pg : Int), RF b (y :: r) → pageOf (mrg y r) pg = pageOf (y :: r) pg
  | [], y, b, pg, h => rfl
  | x :: r, y, b, pg, h => by
    have h0 := h
    obtain ⟨h1, h2, h3, h4, h5⟩ := h
    unfold mrg
    split
    · rename_i hg
      obtain ⟨e1, e2, e3, e4, e5, e6, e7, e8, e9⟩ := goes_iff.1 hg
      have hr : RF b (longE y x.e :: r) := by
        have l1 := h2.lt
        have l2 := h4.lt
        refine ⟨h1, ⟨h2.s0, by simp only [longE]; omega, h4.e1, h2.f0, h2.o0, h2.pm, h2.i0, h2.i1, h2.a0, h2.a1, h2.oz, fun hf => ?_⟩, h5⟩
        have hf : 0 < y.f := hf
        have := h4.oe (by omega)
        rw [if_pos hf] at e3
        simp only [longE]
        omega
      rw [page_mrg pg hr]
      have l1 := h2.lt
      have l2 := h4.lt
      simp only [pageOf]
      by_cases k1 : pg < y.e
      · rw [if_pos k1, if_pos (show pg < (longE y x.e).e by simp only [longE]; omega)]
        rfl
      · rw [if_neg k1]
        by_cases k2 : pg < x.e
        · rw [if_pos (show pg < (longE y x.e).e from k2), if_pos k2, if_pos (show (longE y x.e).s ≤ pg by simp only [longE]; omega), if_pos (show x.s ≤ pg by omega)]
          congr 1
          unfold normE longE
          simp only [e1, e2, e3, e4, e5, e6, e7, e8, e9]
          by_cases hf : 0 < y.f
          · simp only [if_pos hf]
            congr 1
            omega
          · simp only [if_neg hf]
        · rw [if_neg (show ¬ pg < (longE y x.e).e from k2), if_neg k2]
    · have ih := page_mrg pg (show RF y.e (x :: r) from ⟨h3, h4, h5⟩)
      show (if pg < y.e then _ else pageOf (mrg x r) pg) = _
      rw [ih]
      rfl
theorem page_merge {l : List En} {b : Int} (h : RF b l) (pg : Int) : pageOf (mergeE l) pg = pageOf l pg := by
  cases l with
  | nil => rfl
  | cons x r => exact page_mrg pg h
theorem goes_parts (x : En) (pg : Int) : goesB (lowE x pg) (fromE x pg) = true := goes_iff.2 ⟨rfl, rfl, rfl, rfl, rfl, rfl, rfl, rfl, rfl⟩
theorem goes_on {y x : En} (pg : Int) (h : goesB y x = true) : goesB (longE y pg) (fromE x pg) = true := by
  obtain ⟨e1, e2, e3, e4, e5, e6, e7, e8, e9⟩ := goes_iff.1 h
  refine goes_iff.2 ⟨rfl, e2, ?_, e4, e5, e6, e7, e8, e9⟩
  show (if 0 < x.f then x.o + (pg - x.s) else x.o) = if 0 < y.f then y.o + (pg - y.s) else y.o
  rw [e1, e2, e3]
  by_cases hf : 0 < y.f
  · simp only [if_pos hf]; omega
  · simp only [if_neg hf]
theorem mrg_clip : ∀ (r : List En) (y : En) (pg : Int), mrg y (clipE r pg) = mrg y r
  | [], _, _ => rfl
  | x :: r, y, pg => by
    rw [clip_cons]
    unfold clip1
    split
    · simp only [List.cons_append, List.nil_append, mrg]
      rw [goes_low]
      have hx : longE (lowE x pg) (fromE x pg).e = x := rfl
      have hp := goes_parts x pg
      by_cases hg : goesB y x = true
      · have h2 : goesB (longE y (lowE x pg).e) (fromE x pg) = true := goes_on pg hg
        rw [if_pos hg, if_pos hg, if_pos h2]
        exact mrg_clip r _ pg
      · rw [if_neg hg, if_neg hg, if_pos hp, hx, mrg_clip r x pg]
    · simp only [List.cons_append, List.nil_append, mrg]
      rw [mrg_clip r _ pg, mrg_clip r x pg]
theorem merge_clip (l : List En) (pg : Int) : mergeE (clipE l pg) = mergeE l := by
  cases l with
  | nil => rfl
  | cons x r =>
    rw [clip_cons]
    unfold clip1
    split
    · simp only [List.cons_append, List.nil_append, mergeE, mrg]
      rw [if_pos (goes_parts x pg)]
      exact mrg_clip r x pg
    · exact mrg_clip r x pg
/-- No two side by side could be one. -/
def Parted : En → List En → Prop
  | _, [] => True
  | y, x :: r => goesB y x = false ∧ Parted x r
theorem mrg_parted : ∀ {r : List En} {y : En}, Parted y r → mrg y r = y :: r
  | [], _, _ => rfl
  | x :: r, y, h => by
    unfold mrg
    rw [if_neg (by rw [h.1]; simp), mrg_parted h.2]
theorem parted_mrg : ∀ (r : List En) (y : En), ∃ e t, mrg y r = longE y e :: t ∧ Parted (longE y e) t
  | [], y => ⟨y.e, [], rfl, trivial⟩
  | x :: r, y => by
    unfold mrg
    split
    · obtain ⟨e, t, h1, h2⟩ := parted_mrg r (longE y x.e)
      exact ⟨e, t, h1, h2⟩
    · rename_i hg
      obtain ⟨e, t, h1, h2⟩ := parted_mrg r x
      refine ⟨y.e, mrg x r, rfl, ?_⟩
      rw [h1]
      refine ⟨?_, h2⟩
      rw [goes_long]
      have hg : ¬ goesB (longE y y.e) x = true := hg
      simpa using hg
theorem merge_merge (l : List En) : mergeE (mergeE l) = mergeE l := by
  cases l with
  | nil => rfl
  | cons x r =>
    obtain ⟨e, t, h1, h2⟩ := parted_mrg r x
    show mergeE (mrg x r) = mrg x r
    rw [h1]
    exact mrg_parted h2
/-- As the program goes. -/
def stepM (acc : List En) (x : En) : List En := match acc.getLast? with | some y => if goesB y x = true then acc.dropLast ++ [longE y x.e] else acc ++ [x] | none => [x]
theorem stepM_nil (x : En) : stepM [] x = [x] := rfl
theorem stepM_on {A : List En} {y x : En} (h : goesB y x = true) : stepM (A ++ [y]) x = A ++ [longE y x.e] := by unfold stepM; simp [h]
theorem stepM_new {A : List En} {y x : En} (h : goesB y x = false) : stepM (A ++ [y]) x = A ++ [y] ++ [x] := by unfold stepM; simp [h]
theorem fold_mrg : ∀ (r A : List En) (y : En), r.foldl stepM (A ++ [y]) = A ++ mrg y r
  | [], _, _ => rfl
  | x :: r, A, y => by
    rw [List.foldl_cons]
    unfold mrg
    cases h : goesB y x with
    | true => rw [stepM_on h, fold_mrg r A]; rfl
    | false => rw [stepM_new h, fold_mrg r (A ++ [y])]; simp
theorem fold_merge (l : List En) : l.foldl stepM [] = mergeE l := by
  cases l with
  | nil => rfl
  | cons x r => exact fold_mrg r [] x
theorem fold_take {l : List En} {q : Nat} {x : En} (hx : l[q]? = some x) : (l.take (q + 1)).foldl stepM [] = stepM ((l.take q).foldl stepM []) x := by
  rw [List.take_add_one, hx, List.foldl_append]; rfl
theorem stepM_len (acc : List En) (x : En) : (stepM acc x).length ≤ acc.length + 1 := by
  rcases List.eq_nil_or_concat acc with rfl | ⟨A, y, rfl⟩
  · simp [stepM]
  · rw [List.concat_eq_append]
    cases h : goesB y x with
    | true => rw [stepM_on h]; simp
    | false => rw [stepM_new h]; simp
theorem fold_len : ∀ (r acc : List En), (r.foldl stepM acc).length ≤ acc.length + r.length
  | [], _ => by simp
  | x :: r, acc => by
    have := fold_len r (stepM acc x)
    have := stepM_len acc x
    simp only [List.foldl_cons, List.length_cons]
    omega
theorem merge_len (l : List En) : (mergeE l).length ≤ l.length := by
  have := fold_len l []
  rw [fold_merge] at this
  simpa using this
end Go.Proofs.YtefiiooibbkffaaGreat
