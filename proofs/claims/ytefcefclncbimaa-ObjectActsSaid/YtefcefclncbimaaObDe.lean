/- Package object (landed): between: a range over the map, and the sort of what it tells. -/
import Derived.Test.YtefcefclncbimaaObDd
import Derived.Test.YtefcefclncbimaaObLay
import Derived.Maps.RangeWalk
namespace Go.Proofs.Ytefcefclncbimaa
open Go.ChangeShapes Go.WideShapes Go.ChangeAt Go.RowKit Go.Deep Go.Sort Go.Shelf
set_option linter.unusedVariables false

instance : Inhabited PgV := ⟨zeroP⟩
abbrev plT : TypeId := 96
theorem info_pl : (Try.prog.info? 96).map (fun i => (i.zero, i.size, i.bytes)) = some (some (.agg #[.int .i64 0, .int .i64 0, .int .i64 0, .bool false]), 4, 32) := by kernel_rfl
abbrev LMk := MkOf atCells 4 96
/-- 'append(l, x)', behind the block in which x is laid. -/
theorem wpList_plpush {ops : Array Oper} {rest : List Oper} {o : Oper} {a : Act} {Q : Exit → Act → World → Prop} (w : World) (hgd : o.guard = none) (s x : Operand)
    (ho : o.op = .call { callee := .builtin .append, args := #[s, x], argTypes := #[92, 92] }) (base : Nat) (v : Value) (xs : PgL) (n f z : Int) (d : Bool) (hs : a.eval s = v) (h : OwnOf atCells 4 96 w base v xs) (H c : Nat)
    (hx : a.eval x = .slice (some ⟨H, 0, none⟩) 1 c) (hH : w.heap.size = H) (hl : xs.length ≤ 1000000) (hbase : base ≤ H)
    (hK : ∀ g cap w', OwnOf atCells 4 96 w' base (.slice (some ⟨g, 0, none⟩) (xs.length + 1) cap) (xs ++ [(n, ⟨f, z, d⟩)]) → (w.alloc (.cells #[.int .i64 n, .int .i64 f, .int .i64 z, .bool d] 96)).grownBy w' v.ownBlock → wpList Try.prog ops Q rest (a.put o.dst (.slice (some ⟨g, 0, none⟩) (xs.length + 1) cap)) w') :
    wpList Try.prog ops Q (o :: rest) a (w.alloc (.cells #[.int .i64 n, .int .i64 f, .int .i64 z, .bool d] 96)) := by
  obtain ⟨i0, hi, hz0, hz1, hz2⟩ := info_parts info_pl
  subst hH
  refine wpList_append_lies _ hgd s x 92 ho base 96 i0 (.agg #[.int .i64 0, .int .i64 0, .int .i64 0, .bool false]) 4 32 Try.underlying92 hi hz0 hz1 hz2 rfl (by decide) v xs.length (xs.flatMap atCells) hs (World.ownsRow.alloc h _) ⟨w.heap.size, 0, none⟩ 1 c (atCells (n, ⟨f, z, d⟩)) hx rfl ?_ ?_ (by omega) (by unfold maxLen; omega) (by omega) (by simp; omega) (w.heap.size + 1) (by simp) ?_
  · exact World.news_of_block (heap_alloc_new w _)
  · intro u hu; simp [atCells] at hu; rcases hu with rfl | rfl | rfl | rfl <;> rfl
  · intro g cap w' hown hgrow hat hlt
    refine hK g cap w' ?_ hgrow
    unfold OwnOf
    simp only [List.length_append, List.length_cons, List.length_nil, List.flatMap_append, List.flatMap_cons, List.flatMap_nil, List.append_nil]
    exact hown

/-! ### the comparison -/
theorem isNaN_int (x : Int) (w : World) : Calls Try.prog 51 #[.int .i64 x] w fun e w' => e = .returned (.bool false) ∧ w' = w := by
  go_enter Try.func51, Try.ntmps51
  go_wp2_with fail
  go_ret
  exact ⟨by simp, rfl⟩
theorem compare_int (x y : Int) (w : World) : Calls Try.prog 46 #[.int .i64 x, .int .i64 y] w fun e w' => e = .returned (.int .i64 (Lib.compareInt x y)) ∧ w' = w := by
  have hN := isNaN_int
  have HN := Lib.hid hN
  clear hN
  rcases Int.lt_trichotomy x y with h | h | h
  · rw [show Lib.compareInt x y = -1 by unfold Lib.compareInt; simp [h]]
    have d0 : decide (x < y) = true := decide_eq_true h
    clear h
    go_enter Try.func46, Try.ntmps46
    go_wp2_with (go_at_call 51; refine (HN.out _ _).mono ?_; rintro e w' ⟨rfl, e2⟩; subst w')
    go_ret
    exact ⟨rfl, rfl⟩
  · subst h
    rw [show Lib.compareInt x x = 0 by unfold Lib.compareInt; simp]
    go_enter Try.func46, Try.ntmps46
    go_wp2_with (go_at_call 51; refine (HN.out _ _).mono ?_; rintro e w' ⟨rfl, e2⟩; subst w')
    go_ret
    exact ⟨rfl, rfl⟩
  · rw [show Lib.compareInt x y = 1 by unfold Lib.compareInt; simp [h]; omega]
    have d0 : decide (x < y) = false := decide_eq_false (by omega)
    have d1 : decide (x > y) = true := decide_eq_true h
    clear h
    go_enter Try.func46, Try.ntmps46
    go_wp2_with (go_at_call 51; refine (HN.out _ _).mono ?_; rintro e w' ⟨rfl, e2⟩; subst w')
    go_ret
    exact ⟨rfl, rfl⟩
def cfP (x y : Int × PgV) : Int := Lib.compareInt x.1 y.1
theorem closure_pl (x y : Int × PgV) (W : World) : Calls Try.prog 45 #[.agg (atCells x).toArray, .agg (atCells y).toArray] W fun e w' => e = .returned (.int .i64 (cfP x y)) ∧ ∃ q os', w' = grow (W.drewN q) os' := by
  obtain ⟨xn, xf, xs, xd⟩ := x
  obtain ⟨yn, yf, ys, yd⟩ := y
  have hcon := fun W' => compare_int xn yn W'
  have HC := Lib.hid hcon
  clear hcon
  unfold cfP atCells
  simp only
  generalize Lib.compareInt xn yn = r at *
  go_enter Try.func45, Try.ntmps45
  go_wp2_with (go_at_call 46; refine (HC.out _).mono ?_; rintro e w' ⟨rfl, rfl⟩)
  go_ret
  exact ⟨rfl, 0, _, by rw [alloc_eq_grow, alloc_eq_grow, grow_grow]; rfl⟩
theorem lt_pl (x y : Int × PgV) : ltOf cfP x y = decide (x.1 < y.1) := by
  unfold ltOf cfP Lib.compareInt
  by_cases h1 : x.1 < y.1
  · simp [h1]
  · by_cases h2 : y.1 < x.1 <;> simp [h1, h2]
theorem swo_pl : SWO (ltOf cfP) where
  irrefl x := by rw [lt_pl]; simp
  trans x y z h1 h2 := by rw [lt_pl] at *; simp at *; omega
  ntrans x y z h1 h2 := by rw [lt_pl] at *; simp at *; omega

/-! ### rows, in the sort's terms -/
theorem getLB {α : Type} [Inhabited α] {l : List α} {i : Nat} {u : α} (h : l[i]? = some u) : l[i]! = u := by rw [List.getElem!_eq_getElem?_getD, h]; rfl
theorem getA {α : Type} [Inhabited α] {d : Array α} {i : Nat} (h : i < d.size) : d[i]! = d[i] := getElem!_pos d i h
theorem getB {xs : PgL} {i : Nat} {y : Int × PgV} (h : xs[i]? = some y) : xs.toArray[i]! = y := by
  have hl := (List.getElem?_eq_some_iff.1 h).1
  rw [getElem!_pos _ _ (by simpa using hl)]
  have := (List.getElem?_eq_some_iff.1 h).2
  simpa using this
theorem holds_own {w : World} {base g c : Nat} {t : TypeId} {xs : PgL} (h : OwnOf atCells 4 t w base (.slice (some ⟨g, 0, none⟩) xs.length c) xs) : HoldsK atCells 4 w g 0 xs.toArray := by
  intro j hj
  have hj4 : j < xs.length * 4 := by simpa using hj
  obtain ⟨y, hy⟩ : ∃ y, xs[j / 4]? = some y := ⟨_, List.getElem?_eq_getElem (by omega)⟩
  obtain ⟨u, hu⟩ : ∃ u, (atCells y)[j % 4]? = some u := ⟨_, List.getElem?_eq_getElem (by rw [at_len]; omega)⟩
  refine ⟨?_, OwnOf.frozen h _⟩
  have h1 := OwnOf.at at_len h hy hu
  rw [show j / 4 * 4 + j % 4 = j by omega] at h1
  rw [Nat.zero_add, h1, get_flatK _ _ _ _ (by simpa using hj4), getB hy]
  rw [getLB hu]
  rfl
theorem row_held {w : World} {g c : Nat} {d : Array (Int × PgV)} (h : HoldsK atCells 4 w g 0 d) (hg : g < w.heap.size) : RowOf atCells 4 w (.slice (some ⟨g, 0, none⟩) d.toList.length c) d.toList := by
  refine ⟨by rw [flat_len atCells 4 at_len], .inr ⟨g, 0, c, rfl, hg, fun j u hu => ?_⟩⟩
  have hl := (List.getElem?_eq_some_iff.1 hu).1
  rw [flat_len atCells 4 at_len] at hl
  obtain ⟨y, hy⟩ : ∃ y, d.toList[j / 4]? = some y := ⟨_, List.getElem?_eq_getElem (by omega)⟩
  obtain ⟨v, hv⟩ : ∃ v, (atCells y)[j % 4]? = some v := ⟨_, List.getElem?_eq_getElem (by rw [at_len]; omega)⟩
  have h1 := flat_at atCells 4 at_len d.toList (j / 4) y hy (j % 4) v hv
  rw [show j / 4 * 4 + j % 4 = j by omega, hu] at h1
  cases h1
  have h2 := (h j (by simp; simpa using hl)).1
  rw [get_flatK _ _ _ _ (by simpa using hl), show d[j / 4]! = y by have := getB hy; simpa using this] at h2
  rw [Nat.zero_add] at h2 ⊢
  rw [h2, getLB hv]
  rfl
theorem grown_sorted (w : World) (g n : Nat) (d : Array (Int × PgV)) (os : Array Obj) : w.grownBy (sortWorldK atCells 4 w g 0 n d os) (some g) := by
  refine ⟨rfl, rfl, rfl, size_sortWorldK_c atCells 4 w g 0 n d os, fun k hk hr => ?_⟩
  have hne : g ≠ k := fun e => hr (by rw [e])
  show (w.heap.modify g _ ++ os)[k]? = _
  rw [Array.getElem?_append_left (by simpa using hk), Array.getElem?_modify, if_neg hne]
theorem sorted_is {l Z : PgL} {d' : Array (Int × PgV)} (hl : l.Pairwise fun a b => a.1 < b.1) (hZ : Z.Perm l) (hp : PermIn 0 Z.toArray.size Z.toArray d') (hs : SortedIn (ltOf cfP) 0 Z.toArray.size d') : d'.toList = l := by
  obtain ⟨hsz, -, hperm⟩ := hp
  have e1 : (d'.extract 0 Z.toArray.size).toList = d'.toList := by rw [← hsz]; simp
  have e2 : (Z.toArray.extract 0 Z.toArray.size).toList = Z := by simp
  rw [e1, e2] at hperm
  have hnd : (d'.toList.map (·.1)).Nodup := ((hperm.trans hZ).map _).nodup_iff.2 (List.pairwise_map.2 (hl.imp fun h => by omega))
  refine up_unique ?_ hl (hperm.trans hZ)
  rw [List.pairwise_iff_getElem]
  intro i j hi hj hij
  have hi' : i < d'.size := by simpa using hi
  have hj' : j < d'.size := by simpa using hj
  have h1 := hs i j (Nat.zero_le _) hij (by rw [← hsz]; exact hj')
  rw [lt_pl, getA hi', getA hj'] at h1
  have h1 : ¬ (d'[j].1 < d'[i].1) := by simpa using h1
  have h2 := List.pairwise_iff_getElem.1 hnd i j (by simpa using hi) (by simpa using hj) hij
  simp at h2 ⊢
  omega

/-! ### what has come so far -/
def gotO (l : PgL) (lo hi : Int) (left : Lit → Bool) : PgL := l.filter fun n => !left (.int .i64 n.1) && decide (lo ≤ n.1 ∧ n.1 < hi)
section
variable {l : PgL} {lo hi : Int} {left : Lit → Bool} {x : Int} {a : PgV}
theorem got_none (h : ∀ n, n ∈ l → left (.int .i64 n.1) = true) : gotO l lo hi left = [] := List.filter_eq_nil_iff.2 fun n hn => by simp [h n hn]
theorem got_all (h : ∀ kl, left kl = false) : gotO l lo hi left = cutO l lo hi := List.filter_congr fun n _ => by simp [h]
theorem got_len : (gotO l lo hi left).length ≤ l.length := List.length_filter_le _ _
theorem list_flip {p q : Int × PgV → Bool} {n : Int × PgV} (hd : (l.map (·.1)).Nodup) (hm : n ∈ l) (hp : p n = true) (hq : q n = false) (h : ∀ m, m ∈ l → m.1 ≠ n.1 → p m = q m) : (l.filter p).Perm (n :: l.filter q) := by
  induction l with
  | nil => cases hm
  | cons y l ih =>
    rw [List.map_cons, List.nodup_cons] at hd
    by_cases e : y.1 = n.1
    · have hno : ∀ m, m ∈ l → m.1 ≠ n.1 := fun m hmm e2 => hd.1 (by rw [e, ← e2]; exact List.mem_map.2 ⟨m, hmm, rfl⟩)
      have hy : y = n := by
        rcases List.mem_cons.1 hm with h1 | h1
        · exact h1.symm
        · exact absurd rfl (hno n h1)
      subst hy
      rw [List.filter_cons_of_pos hp, List.filter_cons_of_neg (by simp [hq]), List.filter_congr fun m hmm => h m (List.mem_cons_of_mem _ hmm) (hno m hmm)]
    · have hm2 : n ∈ l := by
        rcases List.mem_cons.1 hm with h1 | h1
        · exact absurd (by rw [h1]) e
        · exact h1
      have ih := ih hd.2 hm2 fun m hmm => h m (List.mem_cons_of_mem _ hmm)
      have hy := h y (by simp) e
      by_cases hb : q y = true
      · rw [List.filter_cons_of_pos (hy.trans hb), List.filter_cons_of_pos hb]
        exact (ih.cons y).trans (List.Perm.swap _ _ _)
      · rw [List.filter_cons_of_neg (by rw [hy]; exact hb), List.filter_cons_of_neg hb]
        exact ih
theorem left_self (hx : okI x) : (left (.int .i64 x) && !(Lit.int .i64 x).sameKey (.int .i64 x)) = false := by rw [WideAt.sameKey_self (int_lit hx)]; simp
theorem left_other {y : Int} (h : y ≠ x) : (left (.int .i64 y) && !(Lit.int .i64 y).sameKey (.int .i64 x)) = left (.int .i64 y) := by
  cases hb : (Lit.int .i64 y).sameKey (.int .i64 x) with
  | false => simp
  | true => exact absurd (same_int hb) h
theorem got_in (hd : (l.map (·.1)).Nodup) (hm : (x, a) ∈ l) (hx : okI x) (hl : left (.int .i64 x) = true) (hr : lo ≤ x ∧ x < hi) : (gotO l lo hi fun z => left z && !z.sameKey (.int .i64 x)).Perm ((x, a) :: gotO l lo hi left) := by
  refine list_flip hd hm ?_ (by simp [hl]) fun m hmm hne => ?_
  · show (!(left (.int .i64 x) && !(Lit.int .i64 x).sameKey (.int .i64 x)) && decide (lo ≤ x ∧ x < hi)) = true
    rw [left_self hx]; simp [hr]
  · show (!(left (.int .i64 m.1) && !(Lit.int .i64 m.1).sameKey (.int .i64 x)) && _) = _
    rw [left_other hne]
theorem got_out (hr : ¬ (lo ≤ x ∧ x < hi)) : gotO l lo hi (fun z => left z && !z.sameKey (.int .i64 x)) = gotO l lo hi left := by
  refine List.filter_congr fun m _ => ?_
  by_cases e : m.1 = x
  · have : decide (lo ≤ m.1 ∧ m.1 < hi) = false := decide_eq_false (by rw [e]; exact hr)
    rw [this]; simp
  · show (!(left (.int .i64 m.1) && !(Lit.int .i64 m.1).sameKey (.int .i64 x)) && _) = _
    rw [left_other e]
end
end Go.Proofs.Ytefcefclncbimaa
