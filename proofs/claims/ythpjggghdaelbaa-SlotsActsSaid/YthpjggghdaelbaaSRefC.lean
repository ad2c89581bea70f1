/- The document's layer 8: Words, Same. -/
import Derived.Test.YthpjggghdaelbaaSRefB
namespace Go.Proofs.Ythpjggghdaelbaa
open Go.ChangeShapes Go.WideShapes Go.ChangeAt Go.RowKit Go.Deep
set_option linter.unusedVariables false

section
variable {w w' : World} {q g c : Nat} {L : List Int}
theorem used_take {j : Nat} (hj : j < L.length) (i : Nat) : (decide (i < j + 1) && usedB L i) = (if L.getD j 0 ≠ 0 then (decide (i = j) || (decide (i < j) && usedB L i)) else (decide (i < j) && usedB L i)) := by
  by_cases e : i = j
  · subst e
    by_cases h : L.getD i 0 = 0
    · simp [usedB, h]
    · simp only [usedB, ne_eq, h, not_false_eq_true, if_true]; simp
  · have e2 : decide (i < j + 1) = decide (i < j) := by apply decide_eq_decide.2; omega
    rw [e2]
    split <;> simp [e]

set_option maxHeartbeats 1000000 in
theorem rf_words (h : RS w q L g c) : Calls Try.prog 25 #[.pointer (some ⟨q, 0, none⟩)] w fun e w' => ∃ g us, e = .returned (.slice (some ⟨g, 0, none⟩) (mOf L) (mOf L)) ∧ WRow w' g us ∧ WordsAre (usedB L) (mOf L) us ∧ w.grownBy w' none ∧ w.heap.size ≤ g := by
  have hm4 := mOf_le h.good
  have hl := h.good.len
  have h3 : ((L.length : Int) + 63) / 64 = (mOf L : Int) := by unfold mOf; omega
  have hlm : L.length ≤ 64 * mOf L := by unfold mOf; omega
  obtain ⟨m, hm⟩ : ∃ m, mOf L = m := ⟨_, rfl⟩
  rw [hm] at hm4 h3 hlm ⊢
  have hmk := run_make_words m (by omega) w
  have ga := World.grownBy_alloc w (.cells ((List.replicate m 0).map wv).toArray 43) none
  have hnew : WRow (w.alloc (.cells ((List.replicate m 0).map wv).toArray 43)) w.heap.size (List.replicate m 0) := heap_alloc_new w (.cells ((List.replicate m 0).map wv).toArray 43)
  obtain ⟨c0, f0⟩ := h.at
  obtain ⟨k0, -⟩ := (h.grow ga).at
  have HA := Lib.hid (h.grow ga)
  generalize hwA : w.alloc (.cells ((List.replicate m 0).map wv).toArray 43) = wA at *
  have HN := Lib.hid hnew
  have HG := Lib.hid ga
  clear h hnew ga hm
  go_enter Try.func25, Try.ntmps25
  go_wp2_with fail
  go_loopw [4, 5, 19] (fun _ _ jv wr => ∃ (j : Nat) (us : List Nat), j ≤ L.length ∧ jv = .int .i64 j ∧ Hid (WRow wr w.heap.size us) ∧ Hid (WordsAre (fun i => decide (i < j) && usedB L i) m us) ∧ Hid (wA.grownBy wr (some w.heap.size))) (fun _ _ jv _ => L.length - (intOf jv).toNat)
  case atStart => exact ⟨0, _, by omega, rfl, HN.out, (WordsAre.zero m).congr fun i _ => by simp, grown_refl _ _⟩
  case round =>
    obtain ⟨j, us, hj, rfl, HR, HW, HGr⟩ := hrel
    have hqs : q ≠ w.heap.size := by have := HA.out; intro e; have h1 := HN.out; have h2 := this.head; rw [e] at h2; have := h2.symm.trans h1; simp at this
    have hr := (HA.out.kept (w' := wr) fun b hb => HGr.out.block b (HA.out.lt b hb) (by
      intro e
      have e := Option.some.inj e
      simp at hb
      rcases hb with rfl | rfl
      · exact hqs e
      · obtain ⟨cur, h1, -⟩ := HA.out.row.cur
        rw [e] at h1
        have h2 := HN.out.symm.trans h1
        simp at h2))
    obtain ⟨cr, -⟩ := hr.at
    by_cases hlt : j < L.length
    · obtain ⟨cx, -⟩ := hr.row.at (get_getD hlt)
      have HUT := Lib.hid fun i => used_take hlt i
      obtain ⟨x, hx⟩ : ∃ x, L.getD j 0 = x := ⟨_, rfl⟩
      rw [hx] at cx HUT
      by_cases h0 : x = 0
      · have hb : (x != 0) = false := by simpa using h0
        have HW2 := Lib.hid (HW.out.congr (p' := fun i => decide (i < j + 1) && usedB L i) fun i _ => by rw [HUT.out i, if_neg (by simp [h0])])
        clear hx hr h0
        go_wp2_with fail
        go_roundw
        case rel => exact ⟨j + 1, us, by omega, by go_num, HR.out, HW2.out, HGr.out⟩
        case measure => simp [intOf]; omega
      · have hb : (x != 0) = true := bne_iff_ne.2 h0
        obtain ⟨u, hu, hlt64, hbit⟩ := HW.out.get (show j < 64 * m by omega)
        obtain ⟨cu, fu⟩ := HR.out.at hu
        have h2 := or_word u (j % 64) hlt64 (by omega)
        have HP := Lib.hid ((HW.out.set (show j < 64 * m by omega) hu).congr (p' := fun i => decide (i < j + 1) && usedB L i) fun i _ => by rw [HUT.out i, if_pos h0])
        have HS := Lib.hid (HR.out.set (j / 64) (u ||| 2 ^ (j % 64)))
        obtain ⟨y, hy⟩ : ∃ y, j / 64 = y := ⟨_, rfl⟩
        obtain ⟨k, hk⟩ : ∃ k, j % 64 = k := ⟨_, rfl⟩
        have hk64 : k < 64 := by omega
        have hym : y < m := by omega
        rw [hy] at cu fu
        rw [hk] at h2
        rw [hk, hy] at HP HS
        have h4 : (j : Int) / 64 = (y : Int) := by omega
        have h5 : (j : Int) % 64 = (k : Int) := by omega
        have HGz := Lib.hid (show wA.grownBy (wr.setCell ⟨w.heap.size, y, none⟩ (.int .u64 ((u ||| 2 ^ k : Nat) : Int))) (some w.heap.size) from grown_trans HGr.out (grown_set wr w.heap.size y _))
        clear hx hr hu hbit hy hk h0
        go_wp2_with fail
        go_roundw
        case rel => exact ⟨j + 1, _, by omega, by go_num, HS.out, HP.out, HGz.out⟩
        case measure => simp [intOf]; omega
    · obtain rfl : j = L.length := by omega
      have HW2 := Lib.hid (HW.out.congr (p' := usedB L) fun i _ => by
        by_cases hi : i < L.length
        · simp [hi]
        · simp only [usedB, getD_out (show L.length ≤ i by omega)]; simp)
      clear hr
      go_wp2_with fail
      go_ret
      exact ⟨w.heap.size, us, rfl, HR.out, HW2.out, grown_at HG.out HGr.out (Nat.le_refl _), Nat.le_refl _⟩

theorem rf_same {ga gb ca cb : Nat} {us vs : List Nat} (ha : WRow w ga us) (hb : WRow w gb vs) (hl : us.length ≤ 1000) (hl2 : vs.length ≤ 1000) (d : Bool) (hd : d = decide (us = vs)) :
    Calls Try.prog 23 #[.slice (some ⟨ga, 0, none⟩) us.length ca, .slice (some ⟨gb, 0, none⟩) vs.length cb] w fun e w' => e = .returned (.bool d) ∧ w.grownBy w' none := by
  have HA := Lib.hid ha
  have HB := Lib.hid hb
  by_cases hlen : us.length = vs.length
  · have hb0 : ((us.length : Int) == (vs.length : Int)) = true := by rw [hlen]; simp
    rw [← hlen] at hb0 ⊢
    have HD := Lib.hid hd
    have HL := Lib.hid hlen
    clear ha hb hd hlen hl2
    go_enter Try.func23, Try.ntmps23
    go_wp2_with fail
    go_loopw [5, 13] (fun _ jv wr => ∃ j : Nat, j ≤ us.length ∧ jv = .int .i64 j ∧ Hid (∀ i : Nat, i < j → us[i]? = vs[i]?) ∧ Hid (w.grownBy wr none)) (fun _ jv _ => us.length - (intOf jv).toNat)
    case atStart => exact ⟨0, by omega, rfl, fun i hi => by omega, grown_refl _ _⟩
    case round =>
      obtain ⟨j, hj, rfl, HE, HGr⟩ := hrel
      by_cases hlt : j < us.length
      · obtain ⟨u, hu⟩ : ∃ u, us[j]? = some u := ⟨_, List.getElem?_eq_getElem hlt⟩
        obtain ⟨v, hv⟩ : ∃ v, vs[j]? = some v := ⟨_, List.getElem?_eq_getElem (by have := HL.out; omega)⟩
        obtain ⟨cu, -⟩ := (HA.out.kept (HGr.out.block _ HA.out.lt (by simp))).at hu
        obtain ⟨cv, -⟩ := (HB.out.kept (HGr.out.block _ HB.out.lt (by simp))).at hv
        by_cases huv : u = v
        · have hb1 : ((u : Int) != (v : Int)) = false := by rw [huv]; simp
          have HN := Lib.hid (show ∀ i : Nat, i < j + 1 → us[i]? = vs[i]? from fun i hi => by
            by_cases e : i = j
            · subst e; rw [hu, hv, huv]
            · exact HE.out i (by omega))
          clear hu hv huv
          go_wp2_with fail
          go_quiet (fail)
          go_wp2_with fail
          go_roundw
          case rel => exact ⟨j + 1, by omega, by go_num, HN.out, grown_trans HGr.out (grown_draws _ _)⟩
          case measure => simp [intOf]; omega
        · have hb1 : ((u : Int) != (v : Int)) = true := bne_iff_ne.2 (by omega)
          have hdf : d = false := by
            rw [HD.out]
            apply decide_eq_false
            intro e
            rw [e, hv] at hu
            exact huv (Option.some.inj hu).symm
          subst hdf
          clear hu hv huv
          go_wp2_with fail
          go_quiet (fail)
          go_wp2_with fail
          go_ret
          exact ⟨rfl, grown_trans HGr.out (grown_draws _ _)⟩
      · obtain rfl : j = us.length := by omega
        have hdt : d = true := by
          rw [HD.out]
          apply decide_eq_true
          apply List.ext_getElem?
          intro i
          by_cases hi : i < us.length
          · exact HE.out i hi
          · rw [List.getElem?_eq_none (by omega), List.getElem?_eq_none (by have := HL.out; omega)]
        subst hdt
        go_wp2_with fail
        go_ret
        exact ⟨rfl, HGr.out⟩
  · have hb0 : ((us.length : Int) != (vs.length : Int)) = true := bne_iff_ne.2 (by omega)
    have hdf : d = false := by
      rw [hd]
      exact decide_eq_false fun e => hlen (by rw [e])
    subst hdf
    clear ha hb hd
    go_enter Try.func23, Try.ntmps23
    go_wp2_with fail
    go_ret
    exact ⟨rfl, grown_refl _ _⟩
end
end Go.Proofs.Ythpjggghdaelbaa
