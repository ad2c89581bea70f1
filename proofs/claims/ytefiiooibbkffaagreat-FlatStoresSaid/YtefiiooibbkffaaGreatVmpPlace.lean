/- Layer 16, plainly: a list changed in the stretch near a range, and merged there alone, is what the whole list would be. No program. Layer 16, plainly: what the landed map makes of its list is what the document says. No program. -/
import Derived.Test.YtefiiooibbkffaaGreatVmpFacts
namespace Go.Proofs.YtefiiooibbkffaaGreat
set_option linter.unusedVariables false
set_option linter.unusedSimpArgs false

/-! ### merged lists -/
theorem parted_at : ∀ {r : List En} {y : En}, Parted y r → ∀ (i : Nat) (a b : En), (y :: r)[i]? = some a → (y :: r)[i + 1]? = some b → goesB a b = false
  | [], y, _, i, a, b, _, h2 => by simp at h2
  | x :: r, y, h, 0, a, b, h1, h2 => by
    simp at h1 h2
    subst h1 h2
    exact h.1
  | x :: r, y, h, i + 1, a, b, h1, h2 => parted_at h.2 i a b (by simpa using h1) (by simpa using h2)
theorem merged_at {L : List En} (h : mergeE L = L) (i : Nat) (a b : En) (h1 : L[i]? = some a) (h2 : L[i + 1]? = some b) : goesB a b = false := by
  cases L with
  | nil => simp at h1
  | cons y r =>
    obtain ⟨e, t, h3, h4⟩ := parted_mrg r y
    have h5 : mrg y r = y :: r := h
    rw [h3] at h5
    injection h5 with h6 h7
    rw [h6, h7] at h4
    exact parted_at h4 i a b h1 h2
theorem parted_mk : ∀ {r : List En} {y : En}, (∀ (i : Nat) (a b : En), (y :: r)[i]? = some a → (y :: r)[i + 1]? = some b → goesB a b = false) → Parted y r
  | [], _, _ => trivial
  | x :: r, y, h => ⟨h 0 y x rfl rfl, parted_mk fun i a b h1 h2 => h (i + 1) a b (by simpa using h1) (by simpa using h2)⟩
theorem merged_mk {L : List En} (h : ∀ (i : Nat) (a b : En), L[i]? = some a → L[i + 1]? = some b → goesB a b = false) : mergeE L = L := by
  cases L with
  | nil => rfl
  | cons y r => exact mrg_parted (parted_mk h)
theorem merged_take {L : List En} (h : mergeE L = L) (k : Nat) : mergeE (L.take k) = L.take k := merged_mk fun i a b h1 h2 => merged_at h i a b (by
    rw [List.getElem?_take] at h1
    split at h1
    · exact h1
    · cases h1) (by
    rw [List.getElem?_take] at h2
    split at h2
    · exact h2
    · cases h2)
theorem merged_drop {L : List En} (h : mergeE L = L) (k : Nat) : mergeE (L.drop k) = L.drop k := merged_mk fun i a b h1 h2 => by
  rw [List.getElem?_drop] at h1 h2
  exact merged_at h (k + i) a b h1 (by rw [← h2]; congr 1)
/-- One list behind another: the first one's merging goes on where its last entry goes on. -/
theorem merge_app_new (A : List En) (x : En) (X : List En) (hA : mergeE A = A) (h : ∀ y, A.getLast? = some y → goesB y x = false) : mergeE (A ++ x :: X) = A ++ mergeE (x :: X) := by
  rw [← fold_merge, List.foldl_append, fold_merge, hA]
  rcases List.eq_nil_or_concat A with rfl | ⟨A', y, rfl⟩
  · rw [fold_merge]
    rfl
  · simp only [List.concat_eq_append] at h hA ⊢
    rw [fold_mrg]
    have hy := h y (by simp)
    show A' ++ (if goesB y x = true then mrg (longE y x.e) X else y :: mrg x X) = _
    rw [hy]
    simp [mergeE]
theorem merge_app {A X : List En} (hA : mergeE A = A) (h : ∀ y x, A.getLast? = some y → X.head? = some x → goesB y x = false) : mergeE (A ++ X) = A ++ mergeE X := by
  cases X with
  | nil => rw [List.append_nil, hA, show mergeE ([] : List En) = [] from rfl, List.append_nil]
  | cons x X => exact merge_app_new A x X hA fun y hy => h y x hy rfl
/-- The last entry of what is merged goes on as the last one of what was there. -/
theorem mrg_last : ∀ (r : List En) (y : En), ∃ z, (mrg y r).getLast? = some z ∧ ∃ x, (y :: r).getLast? = some x ∧ z.e = x.e ∧ ∀ b, goesB z b = goesB x b
  | [], y => ⟨y, rfl, y, rfl, rfl, fun _ => rfl⟩
  | x :: r, y => by
    show ∃ z, (if goesB y x = true then mrg (longE y x.e) r else y :: mrg x r).getLast? = some z ∧ _
    by_cases h : goesB y x = true
    · rw [if_pos h]
      obtain ⟨z, h1, q, h2, h3, h4⟩ := mrg_last r (longE y x.e)
      refine ⟨z, h1, ?_⟩
      cases r with
      | nil =>
        simp at h2
        subst h2
        refine ⟨x, by simp, h3, fun b => (h4 b).trans ?_⟩
        obtain ⟨g1, g2, g3, g4, g5, g6, g7, g8, g9⟩ := goes_iff.1 h
        cases e1 : goesB x b with
        | true =>
          obtain ⟨k1, k2, k3, k4, k5, k6, k7, k8, k9⟩ := goes_iff.1 e1
          refine goes_iff.2 ⟨k1, k2.trans g2, ?_, k4.trans g4, k5.trans g5, k6.trans g6, k7.trans g7, k8.trans g8, k9.trans g9⟩
          show b.o = if 0 < y.f then y.o + (x.e - y.s) else y.o
          rw [k3, g2]
          by_cases hf : 0 < y.f
          · rw [if_pos hf] at g3 ⊢
            rw [if_pos hf]
            omega
          · rw [if_neg hf] at g3 ⊢
            rw [if_neg hf]
            exact g3
        | false =>
          cases e2 : goesB (longE y x.e) b with
          | false => rfl
          | true =>
            obtain ⟨k1, k2, k3, k4, k5, k6, k7, k8, k9⟩ := goes_iff.1 e2
            have : goesB x b = true := by
              refine goes_iff.2 ⟨k1, k2.trans g2.symm, ?_, k4.trans g4.symm, k5.trans g5.symm, k6.trans g6.symm, k7.trans g7.symm, k8.trans g8.symm, k9.trans g9.symm⟩
              have k3' : b.o = if 0 < y.f then y.o + (x.e - y.s) else y.o := k3
              rw [k3', g2]
              by_cases hf : 0 < y.f
              · rw [if_pos hf] at g3 ⊢
                rw [if_pos hf]
                omega
              · rw [if_neg hf] at g3 ⊢
                rw [if_neg hf]
                exact g3.symm
            rw [e1] at this
            cases this
      | cons x2 r2 =>
        refine ⟨q, ?_, h3, h4⟩
        rw [List.getLast?_cons_cons] at h2 ⊢
        rw [List.getLast?_cons_cons]
        exact h2
    · rw [if_neg h]
      obtain ⟨z, h1, q, h2, h3, h4⟩ := mrg_last r x
      refine ⟨z, ?_, q, ?_, h3, h4⟩
      · cases e : mrg x r with
        | nil => rw [e] at h1; cases h1
        | cons a t => rw [List.getLast?_cons_cons, ← e]; exact h1
      · rw [List.getLast?_cons_cons]
        exact h2
theorem merge_last {X : List En} {z : En} (h : (mergeE X).getLast? = some z) : ∃ x, X.getLast? = some x ∧ z.e = x.e ∧ ∀ b, goesB z b = goesB x b := by
  cases X with
  | nil => cases h
  | cons y r =>
    obtain ⟨z', h1, x, h2, h3, h4⟩ := mrg_last r y
    have : z = z' := Option.some.inj (h.symm.trans h1)
    subst this
    exact ⟨x, h2, h3, h4⟩
/-- A stretch merged by itself, where it goes on neither way. -/
theorem merge_mid {A X B : List En} (hA : mergeE A = A) (hB : mergeE B = B) (h1 : ∀ y x, A.getLast? = some y → X.head? = some x → goesB y x = false) (h2 : ∀ x b, X.getLast? = some x → B.head? = some b → goesB x b = false)
    (h3 : ∀ y b, A.getLast? = some y → B.head? = some b → goesB y b = false) : mergeE (A ++ X ++ B) = A ++ mergeE X ++ B := by
  have hAX : mergeE (A ++ X) = A ++ mergeE X := merge_app hA h1
  cases B with
  | nil => rw [List.append_nil, List.append_nil, hAX]
  | cons b B =>
    rw [← fold_merge, List.foldl_append, fold_merge, hAX]
    rcases List.eq_nil_or_concat (A ++ mergeE X) with e | ⟨Q, z, e⟩
    · rw [e, fold_merge, hB]
      rfl
    · rw [e, List.concat_eq_append, fold_mrg]
      have hz : goesB z b = false := by
        have hl : (A ++ mergeE X).getLast? = some z := by rw [e, List.concat_eq_append]; simp
        cases hm : mergeE X with
        | nil =>
          rw [hm, List.append_nil] at hl
          exact h3 z b hl rfl
        | cons a t =>
          have hq : (A ++ mergeE X).getLast? = (mergeE X).getLast? := by
            rw [hm, List.getLast?_append]
            cases h5 : (a :: t).getLast? with
            | none => simp at h5
            | some q => rfl
          rw [hq] at hl
          obtain ⟨x, k1, -, k2⟩ := merge_last hl
          rw [k2]
          exact h2 x b k1 rfl
      show Q ++ (if goesB z b = true then mrg (longE z b.e) B else z :: mrg b B) = _
      rw [hz, if_neg (by simp)]
      have hB' : mrg b B = b :: B := hB
      rw [hB']
      simp

/-! ### the stretch near a range -/
def nearF (L : List En) (lo : Int) : Nat := findK L (lo - 1)
def nearB (L : List En) (hi : Int) : Nat := if hasB L hi = true then findK L hi + 1 else findK L hi
def midE (L : List En) (lo hi : Int) : List En := (L.drop (nearF L lo)).take (nearB L hi - nearF L lo)
theorem findK_mono (L : List En) {a b : Int} (h : a ≤ b) : findK L a ≤ findK L b := by
  refine Nat.le_of_not_lt fun hlt => ?_
  obtain ⟨x, hx⟩ : ∃ x, L[findK L b]? = some x := ⟨_, List.getElem?_eq_getElem (Nat.lt_of_lt_of_le hlt (findK_le L a))⟩
  have h1 := findK_low hlt hx
  have h2 := findK_at hx
  omega
theorem near_le (L : List En) {lo hi : Int} (h : lo ≤ hi) : nearF L lo ≤ nearB L hi ∧ nearB L hi ≤ L.length := by
  have h1 := findK_mono L (show lo - 1 ≤ hi by omega)
  unfold nearF nearB
  split
  · rename_i hh
    obtain ⟨x, -, hx, -⟩ := hasB_mem hh
    have := (List.getElem?_eq_some_iff.1 hx).1
    omega
  · exact ⟨h1, findK_le L hi⟩
theorem near_split (L : List En) {lo hi : Int} (h : lo ≤ hi) : L = L.take (nearF L lo) ++ midE L lo hi ++ L.drop (nearB L hi) := by
  have h1 := (near_le L h).1
  unfold midE
  rw [List.append_assoc]
  have e : List.drop (nearB L hi) L = List.drop (nearB L hi - nearF L lo) (List.drop (nearF L lo) L) := by rw [List.drop_drop]; congr 1; omega
  rw [e, List.take_append_drop, List.take_append_drop]
theorem near_low {L : List En} {lo : Int} {y : En} (hy : y ∈ L.take (nearF L lo)) : y.e ≤ lo - 1 := by
  obtain ⟨i, hi⟩ := List.getElem?_of_mem hy
  rw [List.getElem?_take] at hi
  split at hi
  · exact findK_low (by assumption) hi
  · cases hi
theorem near_high {L : List En} {b0 hi : Int} (h : RF b0 L) {y : En} (hy : y ∈ L.drop (nearB L hi)) : hi < y.s := by
  obtain ⟨i, hi'⟩ := List.getElem?_of_mem hy
  rw [List.getElem?_drop] at hi'
  unfold nearB at hi'
  split at hi'
  · rename_i hh
    obtain ⟨x, -, hx, -, h2⟩ := hasB_mem hh
    have := rf_two h (show findK L hi < findK L hi + 1 + i by omega) hx hi'
    omega
  · rename_i hh
    cases i with
    | zero =>
      have hx : L[findK L hi]? = some y := hi'
      rw [hasB_at hx] at hh
      simp at hh
      exact hh
    | succ i =>
      obtain ⟨x, hx⟩ : ∃ x, L[findK L hi]? = some x := ⟨_, List.getElem?_eq_getElem (by have := (List.getElem?_eq_some_iff.1 hi').1; omega)⟩
      have h1 := findK_at hx
      have := rf_two h (show findK L hi < findK L hi + (i + 1) by omega) hx hi'
      omega
theorem clip_app (A B : List En) (p : Int) : clipE (A ++ B) p = clipE A p ++ clipE B p := by unfold clipE; rw [List.flatMap_append]
theorem rf_mid {L : List En} {b0 lo hi : Int} (h : RF b0 L) : RF b0 (midE L lo hi) := rf_sub h ((List.take_sublist _ _).trans (List.drop_sublist _ _))
theorem both_near {L : List En} {b0 lo hi : Int} (h : RF b0 L) (hlh : lo < hi) : bothE L lo hi = L.take (nearF L lo) ++ bothE (midE L lo hi) lo hi ++ L.drop (nearB L hi) := by
  have hA : ∀ p, lo ≤ p → clipE (L.take (nearF L lo)) p = L.take (nearF L lo) := fun p hp => clip_same fun x hx => by have := near_low hx; omega
  have hB : ∀ p, p ≤ hi → clipE (L.drop (nearB L hi)) p = L.drop (nearB L hi) := fun p hp => clip_same fun x hx => by have := near_high h hx; omega
  unfold bothE
  conv => lhs; rw [near_split L (Int.le_of_lt hlh)]
  rw [clip_app, clip_app, clip_app, clip_app, hA lo (Int.le_refl _), hA hi (by omega), hB lo (by omega), hB hi (Int.le_refl _)]
theorem low_out {L : List En} {b0 lo hi : Int} (h : RF b0 L) {y : En} (hy : y ∈ L.take (nearF L lo)) : inB lo hi y = false := by
  have h1 := near_low hy
  have h2 := (rf_good h y (List.mem_of_mem_take hy)).1.lt
  exact decide_eq_false (by omega)
theorem high_out {L : List En} {b0 lo hi : Int} (h : RF b0 L) {y : En} (hy : y ∈ L.drop (nearB L hi)) : inB lo hi y = false := by
  have h1 := near_high h hy
  have h2 := (rf_good h y (List.mem_of_mem_drop hy)).1.lt
  exact decide_eq_false (by omega)
theorem left_near {L : List En} {b0 lo hi : Int} (h : RF b0 L) (hlh : lo < hi) : leftE L lo hi = L.take (nearF L lo) ++ leftE (midE L lo hi) lo hi ++ L.drop (nearB L hi) := by
  unfold leftE
  rw [both_near h hlh, List.filter_append, List.filter_append, filter_all fun x hx => by rw [low_out h hx]; rfl, filter_all (l := L.drop _) fun x hx => by rw [high_out h hx]; rfl]
theorem gone_near {L : List En} {b0 lo hi : Int} (h : RF b0 L) (hlh : lo < hi) : goneE (midE L lo hi) lo hi = goneE L lo hi := by
  unfold goneE
  rw [both_near h hlh, List.filter_append, List.filter_append, filter_none fun x hx => low_out h hx, filter_none (l := L.drop _) fun x hx => high_out h hx, List.append_nil, List.nil_append]
/-- Where an entry of a clipped list comes from. -/
theorem clip_from {l : List En} {p : Int} {x : En} (hx : x ∈ clipE l p) : x ∈ l ∨ ∃ m, m ∈ l ∧ m.s < p ∧ p < m.e ∧ (x = lowE m p ∨ x = fromE m p) := by
  unfold clipE at hx
  obtain ⟨m, hm, hx⟩ := List.mem_flatMap.1 hx
  unfold clip1 at hx
  split at hx
  · rename_i hc
    simp at hx
    exact .inr ⟨m, hm, hc.1, hc.2, hx⟩
  · simp at hx
    subst hx
    exact .inl hm
theorem goes_from (m b : En) (p : Int) : goesB (fromE m p) b = goesB m b := by
  have key : goesB (fromE m p) b = true ↔ goesB m b = true := by
    rw [goes_iff, goes_iff]
    simp only [fromE]
    by_cases hf : 0 < m.f
    · simp only [hf, if_true]
      constructor
      · rintro ⟨h1, h2, h3, h4⟩
        exact ⟨h1, h2, by omega, h4⟩
      · rintro ⟨h1, h2, h3, h4⟩
        exact ⟨h1, h2, by omega, h4⟩
    · simp only [hf, if_false]
  cases h1 : goesB (fromE m p) b with
  | true => rw [key.1 h1]
  | false =>
    cases h2 : goesB m b with
    | false => rfl
    | true => rw [key.2 h2] at h1; cases h1
/-- An entry of a list clipped at both ends that begins ahead of the range begins where one of the list does. -/
theorem both_begin {l : List En} {lo hi : Int} (hlh : lo < hi) {x : En} (hx : x ∈ bothE l lo hi) (hs : x.s < lo) : ∃ m, m ∈ l ∧ m.s = x.s ∧ ∀ y, goesB y x = goesB y m := by
  unfold bothE at hx
  have one : ∀ q, q ∈ clipE l lo → q.s < lo → ∃ m, m ∈ l ∧ m.s = q.s ∧ ∀ y, goesB y q = goesB y m := fun q hq hqs => by
    rcases clip_from hq with h | ⟨m, hm, h1, h2, rfl | rfl⟩
    · exact ⟨q, h, rfl, fun _ => rfl⟩
    · exact ⟨m, hm, rfl, fun y => goes_low y m lo⟩
    · simp only [fromE] at hqs
      omega
  rcases clip_from hx with h | ⟨m, hm, h1, h2, rfl | rfl⟩
  · exact one x h hs
  · obtain ⟨m2, k1, k2, k3⟩ := one m hm hs
    exact ⟨m2, k1, k2, fun y => (goes_low y m hi).trans (k3 y)⟩
  · simp only [fromE] at hs
    omega
/-- .. and one that ends behind it ends where one of the list does. -/
theorem both_end {l : List En} {lo hi : Int} (hlh : lo < hi) {x : En} (hx : x ∈ bothE l lo hi) (hs : hi < x.e) : ∃ m, m ∈ l ∧ m.e = x.e ∧ ∀ y, goesB x y = goesB m y := by
  unfold bothE at hx
  have one : ∀ q, q ∈ clipE l lo → hi < q.e → ∃ m, m ∈ l ∧ m.e = q.e ∧ ∀ y, goesB q y = goesB m y := fun q hq hqs => by
    rcases clip_from hq with h | ⟨m, hm, h1, h2, rfl | rfl⟩
    · exact ⟨q, h, rfl, fun _ => rfl⟩
    · simp only [lowE] at hqs
      omega
    · exact ⟨m, hm, rfl, fun y => goes_from m y lo⟩
  rcases clip_from hx with h | ⟨m, hm, h1, h2, rfl | rfl⟩
  · exact one x h hs
  · simp only [lowE] at hs
    omega
  · obtain ⟨m2, k1, k2, k3⟩ := one m hm hs
    exact ⟨m2, k1, k2, fun y => (goes_from m y hi).trans (k3 y)⟩
/-- Whatever comes in the place of a range, of entries within it: merging the stretch near it is merging all. -/
theorem near_merge {L X : List En} (h : MapL L) {lo hi : Int} (hlh : lo < hi) (hX : ∀ x, x ∈ X → x ∈ bothE (midE L lo hi) lo hi ∨ (lo ≤ x.s ∧ x.e ≤ hi)) :
    mergeE (L.take (nearF L lo) ++ X ++ L.drop (nearB L hi)) = L.take (nearF L lo) ++ mergeE X ++ L.drop (nearB L hi) := by
  obtain ⟨hfb, hbl⟩ := near_le L (Int.le_of_lt hlh)
  have hmid : ∀ m, m ∈ midE L lo hi → ∃ q, nearF L lo ≤ q ∧ q < nearB L hi ∧ L[q]? = some m := fun m hm => by
    obtain ⟨i, hi'⟩ := List.getElem?_of_mem hm
    unfold midE at hi'
    rw [List.getElem?_take] at hi'
    split at hi'
    · rw [List.getElem?_drop] at hi'
      exact ⟨nearF L lo + i, by omega, by omega, hi'⟩
    · cases hi'
  have hlast : ∀ y, (L.take (nearF L lo)).getLast? = some y → y.e ≤ lo - 1 ∧ 0 < nearF L lo ∧ L[nearF L lo - 1]? = some y := fun y hy => by
    have h1 := near_low (List.mem_of_getLast? hy)
    rw [List.getLast?_eq_getElem?, List.getElem?_take, List.length_take] at hy
    split at hy
    · rw [Nat.min_eq_left (by omega)] at hy
      exact ⟨h1, by omega, hy⟩
    · cases hy
  have hhead : ∀ b, (L.drop (nearB L hi)).head? = some b → hi < b.s ∧ L[nearB L hi]? = some b := fun b hb => by
    have h1 := near_high h.rf (List.mem_of_mem_head? hb)
    rw [List.head?_drop] at hb
    exact ⟨h1, hb⟩
  refine merge_mid (merged_take h.mg _) (merged_drop h.mg _) (fun y x hy hx => ?_) (fun x b hx hb => ?_) fun y b hy hb => ?_
  · obtain ⟨y1, y2, y3⟩ := hlast y hy
    cases hg : goesB y x with
    | false => rfl
    | true =>
      have hs := (goes_iff.1 hg).1
      have hxs : x.s < lo := by omega
      rcases hX x (List.mem_of_mem_head? hx) with hxb | hxb
      · obtain ⟨m, m1, m2, m3⟩ := both_begin hlh hxb hxs
        obtain ⟨q, q1, q2, q3⟩ := hmid m m1
        by_cases hq : q = nearF L lo
        · subst hq
          have := merged_at h.mg (nearF L lo - 1) y m y3 (by rw [show nearF L lo - 1 + 1 = nearF L lo by omega]; exact q3)
          rw [m3, this] at hg
          cases hg
        · obtain ⟨a, ha⟩ : ∃ a, L[nearF L lo]? = some a := ⟨_, List.getElem?_eq_getElem (by omega)⟩
          have k1 := rf_two h.rf (show nearF L lo - 1 < nearF L lo by omega) y3 ha
          have k2 := rf_two h.rf (show nearF L lo < q by omega) ha q3
          have k3 := (rf_at h.rf ha).lt
          omega
      · omega
  · obtain ⟨b1, b2⟩ := hhead b hb
    cases hg : goesB x b with
    | false => rfl
    | true =>
      have hs := (goes_iff.1 hg).1
      have hxe : hi < x.e := by omega
      rcases hX x (List.mem_of_getLast? hx) with hxb | hxb
      · obtain ⟨m, m1, m2, m3⟩ := both_end hlh hxb hxe
        obtain ⟨q, q1, q2, q3⟩ := hmid m m1
        by_cases hq : q + 1 = nearB L hi
        · have := merged_at h.mg q m b q3 (by rw [hq]; exact b2)
          rw [m3, this] at hg
          cases hg
        · obtain ⟨a, ha⟩ : ∃ a, L[q + 1]? = some a := ⟨_, List.getElem?_eq_getElem (by omega)⟩
          have k1 := rf_two h.rf (show q < q + 1 by omega) q3 ha
          have k2 := rf_two h.rf (show q + 1 < nearB L hi by omega) ha b2
          have k3 := (rf_at h.rf ha).lt
          omega
      · omega
  · obtain ⟨y1, -, -⟩ := hlast y hy
    obtain ⟨b1, -⟩ := hhead b hb
    cases hg : goesB y b with
    | false => rfl
    | true =>
      have hs := (goes_iff.1 hg).1
      omega
end Go.Proofs.YtefiiooibbkffaaGreat

namespace Go.Proofs.YtefiiooibbkffaaGreat
set_option linter.unusedVariables false
set_option linter.unusedSimpArgs false

theorem findK_app {P Q : List En} {pg : Int} (h1 : ∀ x, x ∈ P → x.e ≤ pg) (h2 : ∀ x, x ∈ Q → pg < x.e) : findK (P ++ Q) pg = P.length := by
  refine findK_one (by simp) (fun i x hi hx => ?_) fun i x hi hx => ?_
  · rw [List.getElem?_append_left hi] at hx
    exact h1 x (List.mem_of_getElem? hx)
  · rw [List.getElem?_append_right hi] at hx
    exact h2 x (List.mem_of_getElem? hx)
/-- A clipped list, cut: what is ahead of the range, in it, and behind it. -/
theorem mid_parts {L : List En} {b0 lo hi : Int} (h : RF b0 L) (hlh : lo < hi) : ∃ P G S, bothE L lo hi = P ++ G ++ S ∧ leftE L lo hi = P ++ S ∧ goneE L lo hi = G ∧ (∀ x, x ∈ P → x.e ≤ lo) ∧ (∀ x, x ∈ G → lo ≤ x.s ∧ x.e ≤ hi) ∧ (∀ x, x ∈ S → hi ≤ x.s) := by
  have hr := rf_both lo hi h
  have hn := both_none (l := L) (lo := lo) (hi := hi)
  obtain ⟨c, hc⟩ : ∃ c, bothE L lo hi = c := ⟨_, rfl⟩
  obtain ⟨k1, hk1⟩ : ∃ k1, findK c lo = k1 := ⟨_, rfl⟩
  obtain ⟨k3, hk3⟩ : ∃ k3, max k1 (findK c hi) = k3 := ⟨_, rfl⟩
  have hk13 : k1 ≤ k3 := by omega
  rw [hc] at hr hn
  obtain ⟨q1, q2, -⟩ := cut_at hr hn k1 k3 hk1 hk3
  refine ⟨c.take k1, (c.drop k1).take (k3 - k1), c.drop k3, ?_, by unfold leftE; rw [hc]; exact q1, by unfold goneE; rw [hc]; exact q2, fun x hx => ?_, fun x hx => ?_, fun x hx => ?_⟩
  · rw [hc]
    have e : c.drop k3 = (c.drop k1).drop (k3 - k1) := by rw [List.drop_drop]; congr 1; omega
    rw [e, List.append_assoc, List.take_append_drop, List.take_append_drop]
  · obtain ⟨i, hi'⟩ := List.getElem?_of_mem hx
    rw [List.getElem?_take] at hi'
    split at hi'
    · exact findK_low (by rw [hk1]; assumption) hi'
    · cases hi'
  · rw [← q2] at hx
    exact of_decide_eq_true (List.mem_filter.1 hx).2
  · obtain ⟨i, hi'⟩ := List.getElem?_of_mem hx
    rw [List.getElem?_drop] at hi'
    have h1 := findK_high hr (show findK c hi ≤ k3 + i by omega) hi'
    have h2 := (hn x (List.mem_of_mem_drop hx)).2
    omega
/-- What the landed map lays in a range's place. -/
def placeL (L : List En) (lo hi : Int) (F : List En) : List En :=
  L.take (nearF L lo) ++ mergeE ((leftE (midE L lo hi) lo hi).take (findK (leftE (midE L lo hi) lo hi) lo) ++ F ++ (leftE (midE L lo hi) lo hi).drop (findK (leftE (midE L lo hi) lo hi) lo)) ++ L.drop (nearB L hi)
theorem place_parts {L : List En} (h : MapL L) {lo hi : Int} (hlh : lo < hi) : ∃ P G S, bothE (midE L lo hi) lo hi = P ++ G ++ S ∧ goneE L lo hi = G ∧ leftE L lo hi = L.take (nearF L lo) ++ (P ++ S) ++ L.drop (nearB L hi) ∧ leftE (midE L lo hi) lo hi = P ++ S ∧ findK (P ++ S) lo = P.length ∧ findK (leftE L lo hi) lo = (L.take (nearF L lo) ++ P).length ∧ (∀ x, x ∈ P → x.e ≤ lo) ∧ (∀ x, x ∈ G → lo ≤ x.s ∧ x.e ≤ hi) ∧ (∀ x, x ∈ S → hi ≤ x.s) := by
  obtain ⟨P, G, S, h1, h2, h3, h4, h5, h6⟩ := mid_parts (rf_mid (lo := lo) (hi := hi) h.rf) hlh
  have hl := left_near h.rf hlh
  rw [h2] at hl
  have hS : ∀ x, x ∈ S → lo < x.e := fun x hx => by
    have k1 := h6 x hx
    have k2 := (rf_good (rf_both lo hi (rf_mid (lo := lo) (hi := hi) h.rf)) x (by rw [h1]; exact List.mem_append.2 (.inr hx))).1.lt
    omega
  refine ⟨P, G, S, h1, by rw [← gone_near h.rf hlh, h3], hl, h2, findK_app h4 hS, ?_, h4, h5, h6⟩
  rw [hl]
  have e : L.take (nearF L lo) ++ (P ++ S) ++ L.drop (nearB L hi) = (L.take (nearF L lo) ++ P) ++ (S ++ L.drop (nearB L hi)) := by simp
  rw [e]
  refine findK_app (fun x hx => ?_) fun x hx => ?_
  · rcases List.mem_append.1 hx with hx | hx
    · have := near_low hx
      omega
    · exact h4 x hx
  · rcases List.mem_append.1 hx with hx | hx
    · exact hS x hx
    · have k1 := near_high h.rf hx
      have k2 := (rf_good h.rf x (List.mem_of_mem_drop hx)).1.lt
      omega
theorem place_as {L F : List En} (h : MapL L) {lo hi : Int} (hlh : lo < hi) (hF : ∀ x, x ∈ F → lo ≤ x.s ∧ x.e ≤ hi) {P G S : List En} (h1 : bothE (midE L lo hi) lo hi = P ++ G ++ S) (h2 : leftE (midE L lo hi) lo hi = P ++ S) (h3 : findK (P ++ S) lo = P.length) :
    placeL L lo hi F = mergeE (L.take (nearF L lo) ++ (P ++ F ++ S) ++ L.drop (nearB L hi)) := by
  unfold placeL
  rw [h2, h3, List.take_left, List.drop_left]
  refine (near_merge h hlh fun x hx => ?_).symm
  rw [h1]
  rcases List.mem_append.1 hx with hx | hx
  · rcases List.mem_append.1 hx with hx | hx
    · exact .inl (by simp [hx])
    · exact .inr (hF x hx)
  · exact .inl (by simp [hx])
theorem place_unmap {L : List En} (h : MapL L) {lo hi : Int} (hlh : lo < hi) : placeL L lo hi [] = mergeE (leftE L lo hi) := by
  obtain ⟨P, G, S, h1, h2, h3, h4, h5, -⟩ := place_parts h hlh
  rw [place_as h hlh (fun x hx => by cases hx) h1 h4 h5, h3, List.append_nil]
theorem place_put {L : List En} (h : MapL L) {lo hi : Int} (hlh : lo < hi) {x : En} (hs : x.s = lo) (he : x.e = hi) : placeL L lo hi [x] = mergeE (putE (leftE L lo hi) x) := by
  obtain ⟨P, G, S, h1, h2, h3, h4, h5, h6, -⟩ := place_parts h hlh
  rw [place_as h hlh (fun y hy => by simp at hy; subst hy; omega) h1 h4 h5]
  congr 1
  unfold putE
  rw [hs, h6, h3]
  have e : L.take (nearF L lo) ++ (P ++ S) ++ L.drop (nearB L hi) = (L.take (nearF L lo) ++ P) ++ (S ++ L.drop (nearB L hi)) := by simp
  rw [e, List.take_left, List.drop_left]
  simp
theorem map_same {g : En → En} {l : List En} (h : ∀ x, x ∈ l → g x = x) : l.map g = l := by
  rw [List.map_congr_left (g := id) fun x hx => h x hx]
  simp
theorem place_chg {L : List En} (h : MapL L) {lo hi : Int} (hlh : lo < hi) {g : En → En} (hg : ∀ x, (g x).s = x.s ∧ (g x).e = x.e) : placeL L lo hi ((goneE L lo hi).map g) = mergeE (chgE g L lo hi) := by
  obtain ⟨P, G, S, h1, h2, h3, h4, h5, h6, k1, k2, k3⟩ := place_parts h hlh
  rw [place_as h hlh (fun y hy => by
    obtain ⟨x, hx, rfl⟩ := List.mem_map.1 hy
    rw [(hg x).1, (hg x).2]
    exact k2 x (by rw [← h2]; exact hx)) h1 h4 h5]
  congr 1
  unfold chgE
  rw [both_near h.rf hlh, h1, List.map_append, List.map_append, List.map_append, List.map_append, h2]
  have hr := rf_both lo hi (rf_mid (lo := lo) (hi := hi) h.rf)
  rw [h1] at hr
  have out : ∀ x, inB lo hi x = false → inE g lo hi x = x := fun x hx => by unfold inE; rw [hx]; rfl
  rw [map_same fun x hx => out x (low_out h.rf hx), map_same (l := L.drop _) fun x hx => out x (high_out h.rf hx)]
  rw [map_same (l := P) fun x hx => out x (decide_eq_false (by
    have q1 := k1 x hx
    have q2 := (rf_good hr x (by simp [hx])).1.lt
    omega)), map_same (l := S) fun x hx => out x (decide_eq_false (by
    have q1 := k3 x hx
    have q2 := (rf_good hr x (by simp [hx])).1.lt
    omega))]
  have hG : G.map (inE g lo hi) = G.map g := List.map_congr_left fun x hx => by
    unfold inE
    rw [if_pos (show inB lo hi x = true from decide_eq_true (k2 x hx))]
  rw [hG]
/-- Where nothing stands nothing goes, and nothing is clipped. -/
theorem free_same {L : List En} {b0 lo hi : Int} (h : RF b0 L) (hlh : lo < hi) (hf : ∀ y, y ∈ L → y.e ≤ lo ∨ hi ≤ y.s) : leftE L lo hi = L ∧ goneE L lo hi = [] := by
  have hb : bothE L lo hi = L := by
    unfold bothE
    have h1 : clipE L lo = L := clip_same fun x hx => by have := hf x hx; omega
    have h2 : clipE L hi = L := clip_same fun x hx => by have := hf x hx; omega
    rw [h1, h2]
  have hin : ∀ x, x ∈ L → inB lo hi x = false := fun x hx => decide_eq_false (by
    have h1 := hf x hx
    have h2 := (rf_good h x hx).1.lt
    omega)
  unfold leftE goneE
  rw [hb]
  exact ⟨filter_all fun x hx => by rw [hin x hx]; rfl, filter_none hin⟩
theorem whole_gone {L : List En} (h : RF 0 L) {lo : Int} {n : Nat} : wholeB (goneE L lo (lo + n)) lo (lo + n) = wholeB L lo (lo + n) :=
  whole_same (rf_gone _ _ h) h fun pg h1 h2 => by rw [hasB_page, hasB_page, page_gone lo (lo + n) pg h, if_pos ⟨h1, h2⟩]
/-- Whether all entries of a range may have some rights, asked of what was cut out. -/
def fitOne (p : Int) (x : En) : Bool := decide (p.toNat &&& x.m.toNat = p.toNat)
theorem mayP_gone {L : List En} (h : RF 0 L) {lo hi p : Int} (hlh : lo < hi) : mayP L lo hi p = (goneE L lo hi).all (fitOne p) := by
  have key : mayP L lo hi p = true ↔ (goneE L lo hi).all (fitOne p) = true := by
    unfold mayP
    rw [List.all_eq_true, List.all_eq_true]
    constructor
    · intro k y hy
      obtain ⟨hy, hin⟩ := List.mem_filter.1 hy
      obtain ⟨z, hz, e1, s1, t1⟩ := both_mem hy
      obtain ⟨x, hx, e2, s2, t2⟩ := both_mem hz
      have h2 := of_decide_eq_true (show decide (lo ≤ y.s ∧ y.e ≤ hi) = true from hin)
      have hlt := (rf_good (rf_both lo hi h) y hy).1.lt
      have h1 := k x hx
      rw [decide_eq_true (show x.s < hi ∧ lo < x.e by omega)] at h1
      unfold fitOne
      rw [e1, e2]
      simpa using h1
    · intro k x hx
      by_cases ho : x.s < hi ∧ lo < x.e
      · have hlt := (rf_good h x hx).1.lt
        have hp := page_some h hx (pg := max x.s lo) (by omega) (by omega)
        have hq := page_gone lo hi (max x.s lo) h
        rw [if_pos (by omega), hp] at hq
        obtain ⟨z, hz, z1, z2, z3⟩ := page_mem hq
        have h1 := k z hz
        have h2 : x.m = z.m := (norm_off z3).2.2.2.1
        unfold fitOne at h1
        rw [← h2] at h1
        rw [h1]
        simp
      · rw [decide_eq_false ho]
        rfl
  cases h1 : mayP L lo hi p with
  | true => exact (key.1 h1).symm
  | false =>
    cases h2 : (goneE L lo hi).all (fitOne p) with
    | false => rfl
    | true => rw [key.2 h2] at h1; cases h1
end Go.Proofs.YtefiiooibbkffaaGreat
