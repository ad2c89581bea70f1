/- Layer 17: pages in sum, and the greatest file, of the lists that calls make. -/
import Derived.Test.YtefiiooibbkffaaGreatVmpFacts
namespace Go.Proofs.YtefiiooibbkffaaGreat
open Go.RowKit
set_option linter.unusedVariables false
set_option linter.unusedSimpArgs false

theorem sumE_cons (x : En) (l : List En) : sumE (x :: l) = (x.e - x.s) + sumE l := by unfold sumE; rw [List.map_cons, List.sum_cons]
theorem sumE_nil : sumE [] = 0 := rfl
theorem sum_clip1 (pg : Int) (x : En) : sumE (clip1 pg x) = x.e - x.s := by
  unfold clip1
  split
  · rw [sumE_cons, sumE_cons, sumE_nil]
    simp only [lowE, fromE]
    omega
  · rw [sumE_cons, sumE_nil]; omega
theorem sum_clip (pg : Int) : ∀ l : List En, sumE (clipE l pg) = sumE l
  | [] => rfl
  | x :: r => by
    have ih := sum_clip pg r
    unfold clipE at ih ⊢
    rw [List.flatMap_cons, sumE_app, sum_clip1, ih, sumE_cons]
theorem sum_both (l : List En) (lo hi : Int) : sumE (bothE l lo hi) = sumE l := by unfold bothE; rw [sum_clip, sum_clip]
theorem sum_mrg : ∀ (r : List En) (y : En), sumE (mrg y r) = (y.e - y.s) + sumE r
  | [], y => by unfold mrg; rw [sumE_cons]
  | x :: r, y => by
    unfold mrg
    split
    · next h =>
      rw [sum_mrg r, sumE_cons]
      have h2 := (goes_iff.1 h).1
      simp only [longE]
      omega
    · rw [sumE_cons, sum_mrg r, sumE_cons]
theorem sum_merge (l : List En) : sumE (mergeE l) = sumE l := by
  cases l with
  | nil => rfl
  | cons x r => show sumE (mrg x r) = _; rw [sum_mrg, sumE_cons]
theorem sum_filter (p : En → Bool) : ∀ l : List En, (∀ x, x ∈ l → x.s ≤ x.e) → sumE (l.filter p) ≤ sumE l
  | [], _ => Int.le_refl _
  | x :: r, h => by
    have ih := sum_filter p r fun y hy => h y (List.mem_cons_of_mem _ hy)
    have h1 := h x (by simp)
    rw [List.filter_cons]
    split
    · rw [sumE_cons, sumE_cons]; omega
    · rw [sumE_cons]; omega
theorem sum_put (l : List En) (x : En) : sumE (putE l x) = sumE l + (x.e - x.s) := by
  unfold putE
  rw [sumE_app, sumE_cons]
  have h := sumE_app (l.take (findK l x.s)) (l.drop (findK l x.s))
  rw [List.take_append_drop] at h
  omega
theorem sum_map {g : En → En} (hg : ∀ x, (g x).s = x.s ∧ (g x).e = x.e) : ∀ l : List En, sumE (l.map g) = sumE l
  | [] => rfl
  | x :: r => by rw [List.map_cons, sumE_cons, sumE_cons, sum_map hg r, (hg x).1, (hg x).2]
theorem sum_chg (k v : Int) (on : Bool) (l : List En) (lo hi : Int) : sumE (chgE (setV k v on) l lo hi) = sumE l := by
  unfold chgE
  rw [sum_map (fun x => ?_), sum_both]
  unfold inE
  split
  · exact ⟨(set_stays k v on).s x, (set_stays k v on).e x⟩
  · exact ⟨rfl, rfl⟩
theorem rf_le {l : List En} {b : Int} (h : RF b l) : ∀ x, x ∈ l → x.s ≤ x.e := fun x hx => by have := (rf_good h x hx).1.lt; omega
theorem sum_left {l : List En} (h : RF 0 l) (lo hi : Int) : sumE (leftE l lo hi) ≤ sumE l := by
  unfold leftE
  rw [← sum_both l lo hi]
  exact sum_filter _ _ (rf_le (rf_both lo hi h))
theorem len_sum : ∀ (l : List En) {b : Int}, RF b l → (l.length : Int) ≤ sumE l
  | [], _, _ => by simp [sumE]
  | x :: r, b, h => by
    have hx := (rf_good h x (by simp)).1.lt
    unfold RF at h
    have ih := len_sum r h.2.2
    rw [sumE_cons, List.length_cons]
    omega
/-- No file is beyond. -/
def FB (B : Int) (l : List En) : Prop := ∀ x, x ∈ l → x.f ≤ B
theorem fb_clip {B : Int} {l : List En} (h : FB B l) (pg : Int) : FB B (clipE l pg) := fun x hx => by
  unfold clipE at hx
  obtain ⟨y, hy, hxy⟩ := List.mem_flatMap.1 hx
  have := h y hy
  unfold clip1 at hxy
  split at hxy
  · rcases List.mem_cons.1 hxy with rfl | hxy
    · exact this
    · rw [List.mem_singleton] at hxy; subst hxy; exact this
  · rw [List.mem_singleton] at hxy; subst hxy; exact this
theorem fb_both {B : Int} {l : List En} (h : FB B l) (lo hi : Int) : FB B (bothE l lo hi) := fb_clip (fb_clip h lo) hi
theorem fb_sub {B : Int} {l m : List En} (h : FB B l) (hs : ∀ x, x ∈ m → x ∈ l) : FB B m := fun x hx => h x (hs x hx)
theorem fb_left {B : Int} {l : List En} (h : FB B l) (lo hi : Int) : FB B (leftE l lo hi) := fb_sub (fb_both h lo hi) fun x hx => (List.mem_filter.1 hx).1
theorem fb_gone {B : Int} {l : List En} (h : FB B l) (lo hi : Int) : FB B (goneE l lo hi) := fb_sub (fb_both h lo hi) fun x hx => (List.mem_filter.1 hx).1
theorem fb_mrg {B : Int} : ∀ (r : List En) (y : En), y.f ≤ B → FB B r → FB B (mrg y r)
  | [], y, hy, _ => fun x hx => by unfold mrg at hx; rw [List.mem_singleton] at hx; subst hx; exact hy
  | z :: r, y, hy, h => by
    unfold mrg
    split
    · exact fb_mrg r _ hy fun x hx => h x (List.mem_cons_of_mem _ hx)
    · intro x hx
      rcases List.mem_cons.1 hx with rfl | hx
      · exact hy
      · exact fb_mrg r z (h z (by simp)) (fun x hx => h x (List.mem_cons_of_mem _ hx)) x hx
theorem fb_merge {B : Int} {l : List En} (h : FB B l) : FB B (mergeE l) := by
  cases l with
  | nil => exact h
  | cons x r => exact fb_mrg r x (h x (by simp)) fun y hy => h y (List.mem_cons_of_mem _ hy)
theorem fb_put {B : Int} {l : List En} (h : FB B l) {x : En} (hx : x.f ≤ B) : FB B (putE l x) := fun y hy => by
  unfold putE at hy
  rcases List.mem_append.1 hy with hy | hy
  · exact h y (List.mem_of_mem_take hy)
  · rcases List.mem_cons.1 hy with rfl | hy
    · exact hx
    · exact h y (List.mem_of_mem_drop hy)
theorem fb_chg {B : Int} {l : List En} (h : FB B l) (k v : Int) (on : Bool) (lo hi : Int) : FB B (chgE (setV k v on) l lo hi) := fun x hx => by
  unfold chgE at hx
  obtain ⟨y, hy, rfl⟩ := List.mem_map.1 hx
  have := fb_both h lo hi y hy
  unfold inE
  split
  · unfold setV
    split
    · exact this
    · split
      · exact this
      · split <;> exact this
  · exact this
theorem fb_mono {B C : Int} {l : List En} (h : FB B l) (hb : B ≤ C) : FB C l := fun x hx => Int.le_trans (h x hx) hb
theorem fb_fork {B : Int} {l : List En} (h : FB B l) : FB B (forkV l) := by
  unfold forkV
  refine fb_merge fun x hx => ?_
  unfold childL at hx
  obtain ⟨y, hy, rfl⟩ := List.mem_map.1 hx
  exact h y (List.mem_filter.1 hy).1
/-- What calls may take for granted of a process's list, and what they leave. -/
structure LI (l : List En) (n B : Int) : Prop where
  mp : MapL l
  sm : sumE l ≤ n
  fb : FB B l
theorem sum_mapV {l : List En} (h : MapL l) (addr : Int) (x : En) (fixed : Bool) (hp : x.s ≤ x.e) : sumE (mapV l addr x fixed).l ≤ sumE l + (x.e - x.s) := by
  unfold mapV
  split
  · split
    · rw [sum_merge, sum_put]
      have := sum_left h.rf addr (addr + (x.e - x.s))
      simp only [moveE]
      omega
    · split
      · rw [sum_merge, sum_put]
        simp only [moveE]
        omega
      · simp only; omega
  · simp only; omega
theorem LI.map {l : List En} {n B : Int} (h : LI l n B) (addr : Int) (x : En) (fixed : Bool) (he : (mapV l addr x fixed).err = 0) (hx : x.f ≤ B) (hp : x.s ≤ x.e) : LI (mapV l addr x fixed).l (n + (x.e - x.s)) B ∧ FB B (mapV l addr x fixed).gone := by
  refine ⟨⟨(map_did h.mp addr x fixed).1, ?_, ?_⟩, ?_⟩ <;> unfold mapV at he ⊢ <;> split
  · next hm =>
    split
    · rw [sum_merge, sum_put]
      have := sum_left h.mp.rf addr (addr + (x.e - x.s))
      have := h.sm
      simp only [moveE]
      omega
    · split
      · rw [sum_merge, sum_put]
        have := h.sm
        simp only [moveE]
        omega
      · have := h.sm; simp only; omega
  · have := h.sm; simp only; omega
  · split
    · exact fb_merge (fb_put (fb_left h.fb _ _) hx)
    · split
      · exact fb_merge (fb_put h.fb hx)
      · exact h.fb
  · exact h.fb
  · split
    · exact fb_gone h.fb _ _
    · split <;> exact fun x hx => by cases hx
  · exact fun x hx => by cases hx
theorem LI.unmap {l : List En} {n B : Int} (h : LI l n B) (lo m : Int) : LI (unmapV l lo m).l n B ∧ FB B (unmapV l lo m).gone := by
  refine ⟨⟨(unmap_did h.mp lo m).1, ?_, ?_⟩, ?_⟩ <;> unfold unmapV <;> split
  · rw [sum_merge]
    have := sum_left h.mp.rf lo (lo + m)
    have := h.sm
    omega
  · exact h.sm
  · exact fb_merge (fb_left h.fb _ _)
  · exact h.fb
  · exact fb_gone h.fb _ _
  · exact fun x hx => by cases hx
theorem LI.prot {l : List En} {n B : Int} (h : LI l n B) (lo m p : Int) : LI (protV l lo m p).l n B := by
  refine ⟨(prot_did h.mp lo m p).1, ?_, ?_⟩ <;> unfold protV <;> split
  · split
    · split
      · rw [sum_merge, sum_chg]; exact h.sm
      · exact h.sm
    · exact h.sm
  · exact h.sm
  · split
    · split
      · exact fb_merge (fb_chg h.fb _ _ _ _ _)
      · exact h.fb
    · exact h.fb
  · exact h.fb
theorem LI.other {l : List En} {n B : Int} (h : LI l n B) (lo m k v most : Int) (on : Bool) (hk : (k = 3 ∧ most ≤ 2) ∨ (k = 4 ∧ most ≤ 4) ∨ k = 5) : LI (otherV l lo m k v most on).l n B := by
  refine ⟨(other_did h.mp lo m k v most on hk).1, ?_, ?_⟩ <;> unfold otherV <;> split
  · split
    · rw [sum_merge, sum_chg]; exact h.sm
    · exact h.sm
  · exact h.sm
  · split
    · exact fb_merge (fb_chg h.fb _ _ _ _ _)
    · exact h.fb
  · exact h.fb
theorem sum_fork {l : List En} (h : MapL l) : sumE (forkV l) ≤ sumE l := by
  unfold forkV childL
  rw [sum_merge, sum_map (g := unwire) (fun x => ⟨rfl, rfl⟩)]
  exact sum_filter _ _ (rf_le h.rf)
end Go.Proofs.YtefiiooibbkffaaGreat
