/- Package anon (landed): Sum, a range over the map. -/
import Derived.Test.YtpiemnffbcgbmaaNDg
import Derived.Maps.RangeWalk
namespace Go.Proofs.Ytpiemnffbcgbmaa
open Go.ChangeShapes Go.WideShapes Go.ChangeAt Go.RowKit Go.Deep
set_option linter.unusedVariables false

/-- The references of those that have come. -/
def sumL (L : List AnV) (N : List (Int × Nat)) (left : Lit → Bool) : Int := ((N.filter fun n => !left (klI n.1)).map fun n => reOf L n.1).sum
theorem sumL_none {L : List AnV} {N : List (Int × Nat)} {left : Lit → Bool} (h : ∀ n, n ∈ N → left (klI n.1) = true) : sumL L N left = 0 := by
  unfold sumL
  rw [List.filter_eq_nil_iff.2 fun n hn => by simp [h n hn]]
  rfl
theorem sumL_all {L : List AnV} {N : List (Int × Nat)} {left : Lit → Bool} (h : ∀ kl, left kl = false) : sumL L N left = (N.map fun n => reOf L n.1).sum := by
  unfold sumL
  rw [List.filter_eq_self.2 fun n hn => by simp [h]]
theorem klI_same (x y : Int) : (klI x).sameKey (klI y) = true → x = y := fun h => by
  have := WideAt.sameKey_eq h
  simpa [klI] using this
theorem sumL_step {L : List AnV} {N : List (Int × Nat)} {left : Lit → Bool} (hd : (N.map (·.1)).Nodup) {x : Int} (hx : okW x) (hm : x ∈ N.map (·.1)) (hl : left (klI x) = true) :
    sumL L N (fun z => left z && !z.sameKey (klI x)) = sumL L N left + reOf L x := by
  have hself : (klI x).sameKey (klI x) = true := WideAt.sameKey_self (lawsN.isKey hx)
  have hoth : ∀ n : Int × Nat, n.1 ≠ x → (klI n.1).sameKey (klI x) = false := fun n hn => by
    cases hb : (klI n.1).sameKey (klI x) with
    | false => rfl
    | true => exact absurd (klI_same _ _ hb) hn
  unfold sumL
  induction N with
  | nil => simp at hm
  | cons n N ih =>
    rw [List.map_cons, List.nodup_cons] at hd
    by_cases e : n.1 = x
    · have hno : ∀ m, m ∈ N → m.1 ≠ x := fun m hmm e2 => hd.1 (by rw [e, ← e2]; exact List.mem_map.2 ⟨m, hmm, rfl⟩)
      have e1 : N.filter (fun n => !(left (klI n.1) && !(klI n.1).sameKey (klI x))) = N.filter fun n => !left (klI n.1) := List.filter_congr fun m hmm => by rw [hoth m (hno m hmm)]; simp
      rw [List.filter_cons_of_pos (by show (!(left (klI n.1) && !(klI n.1).sameKey (klI x))) = true; rw [e, hself]; simp), List.filter_cons_of_neg (by rw [e, hl]; simp), e1, List.map_cons, List.sum_cons, e]
      omega
    · have hm2 : x ∈ N.map (·.1) := by
        rw [List.map_cons] at hm
        rcases List.mem_cons.1 hm with h | h
        · exact absurd h.symm e
        · exact h
      have ih := ih hd.2 hm2
      by_cases hb : left (klI n.1) = true
      · rw [List.filter_cons_of_neg (by show ¬ (!(left (klI n.1) && !(klI n.1).sameKey (klI x))) = true; rw [hoth n e, hb]; simp), List.filter_cons_of_neg (by rw [hb]; simp)]
        exact ih
      · have hb2 : left (klI n.1) = false := by simpa using hb
        rw [List.filter_cons_of_pos (by show (!(left (klI n.1) && !(klI n.1).sameKey (klI x))) = true; rw [hb2]; simp), List.filter_cons_of_pos (by rw [hb2]; simp), List.map_cons, List.map_cons, List.sum_cons, List.sum_cons, ih]
        omega
theorem perm_sum {a b : List Int} (h : a.Perm b) : a.sum = b.sum := by
  induction h with
  | nil => rfl
  | cons x _ ih => rw [List.sum_cons, List.sum_cons, ih]
  | swap x y l => simp only [List.sum_cons]; omega
  | trans _ _ h1 h2 => exact h1.trans h2
theorem reOf_bounds {most : Nat} {L : List AnV} (h : GoodN most L) (id : Int) : 0 ≤ reOf L id ∧ reOf L id ≤ 1000000 := by
  unfold reOf
  rcases get_cases L id with ⟨h0, _⟩ | ⟨i, x, _, _, hx, _, h4, _⟩
  · rw [h0]; exact ⟨Int.le_refl _, by decide⟩
  · rw [h4]
    exact ⟨(h.at hx).r0, (h.at hx).r1⟩
theorem sumL_bounds {most : Nat} {L : List AnV} (h : GoodN most L) (N : List (Int × Nat)) (left : Lit → Bool) : 0 ≤ sumL L N left ∧ sumL L N left ≤ 1000000 * (N.length : Int) := by
  unfold sumL
  induction N with
  | nil => simp
  | cons n N ih =>
    have hb := reOf_bounds h n.1
    by_cases e : left (klI n.1) = true
    · rw [List.filter_cons_of_neg (by rw [e]; simp), List.length_cons]
      omega
    · rw [List.filter_cons_of_pos (by simpa using e), List.map_cons, List.sum_cons, List.length_cons]
      omega

section
variable {w w' w2 : World} {p most M : Nat} {hv : Value} {zs : List Int} {N : List (Int × Nat)} {L : List AnV}
theorem PA.total (h : PA w p most M hv zs N L) : (N.map fun n => reOf L n.1).sum = sumN L := by
  rw [← sum_ids L]
  have h1 := perm_sum (h.ids.map (reOf L))
  rw [← h1, List.map_map]
  rfl
theorem ids_ok {id : Int} (hg : GoodN most L) (h : id ∈ idsN L) : okI id := by
  obtain ⟨i, h1, _, rfl⟩ := mem_idsTo.1 h
  have := hg.len
  have := hg.most
  exact ⟨by omega, by omega⟩

set_option maxHeartbeats 4000000 in
theorem pa_sum (h : PA w p most M hv zs N L) : Calls Try.prog 23 #[.pointer (some ⟨p, 0, none⟩)] w fun e w' => e = .returned (.int .i64 (sumN L)) ∧ w.grownBy w' none := by
  have HA := Lib.hid (pa_all h)
  have HP := Lib.hid h
  obtain ⟨E, hown, hperm⟩ := h.map
  have HE := Lib.hid hperm
  have hNl := h.zlen.2
  clear h hperm
  go_enter Try.func23, Try.ntmps23
  go_wp2_with fail
  refine HA.out.mono ?_
  rintro e w2 ⟨rfl, e2⟩
  subst w2
  go_wp2_with (at_range; refine wpList_range_own _ rfl _ 58 rfl 3 72 lawsN.keyed lawsN.und heldR M N.length _ rfl hown ?_; intro w0 hrg0 hg0 hs0)
  go_frame
  have HH0 := Lib.hid (show ∀ n, n ∈ N → Maps.has (DataW.map E) (klI n.1) = true from fun n hn => (has_iff HE.out lawsN (okW_of (ids_ok HP.out.good (HP.out.ids.mem_iff.1 (List.mem_map.2 ⟨n, hn, rfl⟩))))).2 ⟨n, hn, rfl⟩)
  have HR0 := Lib.hid hrg0
  have HG0 := Lib.hid hg0
  clear hrg0 hg0 hs0 hown
  go_loopw [3] (fun zv wr => ∃ (left : Lit → Bool) (cnt : Nat) (z : Int), zv = .int .i64 z ∧ Hid (wr.ranges Try.prog 3 heldR M w.heap.size N.length (.map E) left cnt) ∧ Hid (z = sumL L N left) ∧ Hid (w.grownBy wr none)) (fun _ wr => wr.rangeLeft M w.heap.size)
  case atStart => exact ⟨_, _, 0, rfl, HR0, Lib.hid (sumL_none HH0.out).symm, HG0⟩
  case round =>
    clear HR0 HG0 HH0 HA
    obtain ⟨left, cnt, z, rfl, HRg, HZ, HG⟩ := hrel
    have hrg := HRg.out
    go_wp2_with (at_next; refine wpList_next_ranges _ rfl _ rfl 3 lawsN.keyed heldR kvI id (fun key kl hk => by obtain ⟨x, hx, _⟩ := Maps.keyOf_int_inv Try.underlying3 hk; exact ⟨x, hx⟩) (fun v y hv => ⟨v, rfl⟩) M w.heap.size N.length (.map E) left cnt rfl hrg ?_ ?_)
    · intro hc0 hl0
      have HT := Lib.hid (show z = sumN L by rw [HZ.out, sumL_all hl0, HP.out.total])
      go_wp2_with fail
      go_ret
      exact ⟨by rw [← HT.out]; rfl, HG.out⟩
    · intro x c kl ya yb w1 cnt1 hkey hlk hRv hat hrg1 hlt hg1 hs1 hen
      obtain ⟨x', ex, rfl, hwx⟩ := Maps.keyOf_int_inv Try.underlying3 hkey
      have ex2 : x = x' := by unfold kvI at ex; injection ex
      subst ex2
      have hin : ∃ a, (x, a) ∈ N := by
        by_cases hno : ∀ n, n ∈ N → n.1 ≠ x
        · exfalso
          have k1 := (hat (.held (.bool true))).trans (hat (.held (.bool false))).symm
          rw [show Lit.int .i64 x = klI x from rfl, at_no lawsN HE.out hno, at_no lawsN HE.out hno] at k1
          injection k1 with k2
          injection k2 with k3
          cases k3
        · obtain ⟨n, hn⟩ := Classical.not_forall.1 hno
          obtain ⟨hn1, hn2⟩ := Classical.not_imp.1 hn
          have hn3 : n.1 = x := Classical.not_not.1 hn2
          exact ⟨n.2, by rw [← hn3]; exact hn1⟩
      obtain ⟨a, ha⟩ := hin
      have hya := hat (.held (.pointer none))
      rw [show Lit.int .i64 x = klI x from rfl, at_yes lawsN HE.out HP.out.nodup ha hwx] at hya
      subst hya
      have hc : c = .pointer (some ⟨a, 0, none⟩) := by
        unfold heldR at hRv
        simp at hRv
        exact hRv.1
      subst hc
      obtain ⟨v, hv1, hv2⟩ := HP.out.box _ ha
      simp only at hv1 hv2
      have hG1 := grown_at HG.out hg1 (Nat.le_refl _)
      have k0 := (hv2.grow hG1).at.1
      have hre : reOf L x = v.re := by unfold reOf; rw [hv1]
      have hS := sumL_step (L := L) HP.out.nodup hwx (List.mem_map.2 ⟨_, ha, rfl⟩) hlk
      have hb1 := sumL_bounds HP.out.good N left
      have hb2 := sumL_bounds HP.out.good N (fun z => left z && !z.sameKey (klI x))
      rw [hS, hre, ← HZ.out] at hb2
      rw [← HZ.out] at hb1
      have HN := Lib.hid (show z + v.re = sumL L N (fun z => left z && !z.sameKey (klI x)) by rw [hS, hre, HZ.out])
      have HRg1 := Lib.hid hrg1
      have HG1 := Lib.hid hG1
      have hms : w1.rangeLeft M w.heap.size < wr.rangeLeft M w.heap.size := by rw [hrg1.left_eq, hrg.left_eq]; exact hlt
      generalize v.re = r at *
      clear hrg hrg1 hG1 hS hre hv1 hv2 hat hRv hkey hlk hg1 hs1 ha HRg HZ HG ex
      go_wp2_with fail
      go_roundw
      case rel => exact ⟨_, cnt1, z + r, by go_num, HRg1, HN, HG1⟩
      case measure => exact hms
end
end Go.Proofs.Ytpiemnffbcgbmaa
