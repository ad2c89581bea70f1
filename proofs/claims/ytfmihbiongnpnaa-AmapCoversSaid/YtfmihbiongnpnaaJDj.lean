/- Package spread (landed): Add. -/
import Derived.Test.YtfmihbiongnpnaaJDi
namespace Go.Proofs.Ytfmihbiongnpnaa
open Go.ChangeShapes Go.WideShapes Go.ChangeAt Go.RowKit Go.Deep
set_option linter.unusedVariables false

section
variable {L M : List Int} {R A W B : List JR} {a b lo hi by_ : Int}
theorem joinP_three (A W B : List JR) : joinP [A, W, B] = B.foldl joinOne (W.foldl joinOne (A.foldl joinOne [])) := rfl
theorem joinP_two (A B : List JR) : joinP [A, B] = B.foldl joinOne (A.foldl joinOne []) := rfl
theorem side_nil : Side M 0 [] 0 := rfl
theorem more_runs (hA : Loose L 0 A lo) (hW : Loose L lo W hi) (hB : Loose L hi B L.length) : joinP [A, W.map (raiseJ by_), B] = runsJ (moreJ L lo hi by_) := by
  have h1 := hA.le
  have h2 := hW.le
  have h3 := hB.le
  have k1 := hA.same (by_ := by_) (lo := lo) (hi := hi) (.inl (Int.le_refl _)) (Int.le_refl _) (by omega)
  have k2 := hW.raise (by_ := by_) (lo := lo) (hi := hi) (Int.le_refl _) (Int.le_refl _) h1 (by omega)
  have k3 := hB.same (by_ := by_) (lo := lo) (hi := hi) (.inr (Int.le_refl _)) (by omega) (Int.le_refl _)
  rw [joinP_three]
  have k4 := ((side_nil.joinAll k1).joinAll k2).joinAll k3
  refine runsJ_of_side ?_
  rw [moreJ_len]
  exact k4
theorem grow_runs {k : Nat} (n : Int) (hn : n = (L.length : Int) + k) : joinP [runsJ L, blankJ L.length n] = runsJ (L ++ List.replicate k 0) := by
  have k1 := (runsJ_side L).loose.longer (x := List.replicate k 0) (Int.le_refl _) (Int.le_refl _)
  have k2 : Loose (L ++ List.replicate k 0) L.length (blankJ L.length n) n := by
    unfold blankJ
    by_cases e : (L.length : Int) = n
    · rw [if_pos e]; exact e
    · rw [if_neg e]
      refine ⟨rfl, by show (L.length : Int) < n; omega, fun j hj1 hj2 => ?_, rfl⟩
      have hj1' : (L.length : Int) ≤ j := hj1
      show (L ++ List.replicate k 0).getD j 0 = 0
      rw [List.getD_eq_getElem?_getD, List.getElem?_append_right (by omega), List.getElem?_replicate]
      split <;> rfl
  rw [joinP_two]
  refine runsJ_of_side ?_
  rw [List.length_append, List.length_replicate]
  have := (side_nil.joinAll k1).joinAll k2
  rw [hn] at this ⊢
  exact this
/-- Those that are told. -/
theorem gone_items (hk : JOk L) (hW : Loose L lo W hi) (h0 : 0 ≤ lo) (hl : hi ≤ L.length) (hm : mayJ L lo hi by_) : gonW by_ (itemsR W) = goneJ L lo hi by_ := by
  have h1 := hW.le
  rw [items_loose hW h0]
  unfold gonW goneJ
  obtain ⟨x, hx⟩ : ∃ x : Nat, lo = x := ⟨lo.toNat, by omega⟩
  obtain ⟨y, hy⟩ : ∃ y : Nat, hi = (x : Int) + y := ⟨(hi - lo).toNat, by omega⟩
  obtain ⟨z, hz⟩ : ∃ z : Nat, L.length = x + (y + z) := ⟨L.length - (x + y), by omega⟩
  subst hx
  subst hy
  rw [show (((x : Int) + y) - x).toNat = y by omega, hz, List.range_add, List.range_add, List.map_append, List.filter_append, List.filter_append, List.map_append, List.map_append]
  have e1 : (List.range x).filter (fun i => decide (inJ x ((x : Int) + y) i ∧ L.getD i 0 ≠ 0 ∧ L.getD i 0 + by_ = 0)) = [] := by
    rw [List.filter_eq_nil_iff]
    intro i hi2
    have := List.mem_range.1 hi2
    simp only [decide_eq_true_iff]
    intro e
    have := e.1.1
    omega
  have e3 : (((List.range z).map (y + ·)).map (x + ·)).filter (fun i => decide (inJ x ((x : Int) + y) i ∧ L.getD i 0 ≠ 0 ∧ L.getD i 0 + by_ = 0)) = [] := by
    rw [List.filter_eq_nil_iff]
    intro i hi2
    obtain ⟨q, hq, rfl⟩ := List.mem_map.1 hi2
    obtain ⟨q2, _, rfl⟩ := List.mem_map.1 hq
    simp only [decide_eq_true_iff]
    intro e
    have := e.1.2
    omega
  simp only [e1, e3, List.map_nil, List.nil_append, List.append_nil]
  rw [List.filter_map, List.filter_map, List.map_map, List.map_map]
  have e2 : (List.range y).filter ((isGone by_) ∘ fun k : Nat => (⟨(x : Int) + (k : Nat), L.getD ((x : Int).toNat + k) 0⟩ : JI)) = (List.range y).filter ((fun i => decide (inJ x ((x : Int) + y) i ∧ L.getD i 0 ≠ 0 ∧ L.getD i 0 + by_ = 0)) ∘ (x + ·)) := by
    refine List.filter_congr fun k hk2 => ?_
    have hlt := List.mem_range.1 hk2
    have hin : inJ (x : Int) ((x : Int) + y) (x + k) := ⟨by omega, by omega⟩
    have hb := hm.2 (x + k) (by omega) hin
    show ((L.getD ((x : Int).toNat + k) 0 != 0) && (wrap64 (L.getD ((x : Int).toNat + k) 0 + by_) == 0)) = decide (inJ x ((x : Int) + y) (x + k) ∧ L.getD (x + k) 0 ≠ 0 ∧ L.getD (x + k) 0 + by_ = 0)
    rw [show (x : Int).toNat = x by simp]
    obtain ⟨v, hv⟩ : ∃ v, L.getD (x + k) 0 = v := ⟨_, rfl⟩
    rw [hv] at hb ⊢
    have hw : wrap64 (v + by_) = v + by_ := by unfold wrap64; omega
    rw [hw]
    by_cases g1 : v = 0 <;> by_cases g2 : v + by_ = 0 <;> simp [hin, g1, g2]
  rw [e2]
  refine List.map_congr_left fun k _ => ?_
  show (x : Int) + (k : Nat) = ((x + k : Nat) : Int)
  omega
end

section
variable {w w' : World} {p : Nat} {v v' u : Value} {L L' : List Int} {R : List JR}
theorem RunsC.past_set (h : RunsC w u R) (hp : w.heap[p]? = some (.cells #[.bool true, v] 98 (0, 0))) (hv : ∃ a l c, v = .slice a l c) : RunsC (w.setCell ⟨p, 1, none⟩ v') u R := by
  refine ⟨⟨h.1.1, ?_⟩, h.2⟩
  rcases h.1.2 with h0 | ⟨g, o, c, hu, hg, hc⟩
  · exact .inl h0
  · refine .inr ⟨g, o, c, hu, by simpa using hg, fun j x hj => ?_⟩
    have h1 := hc j x hj
    by_cases e : g = p
    · subst e
      exfalso
      have hint : ∃ z, x = .int .i64 z := by
        obtain ⟨r, _, hr⟩ := List.mem_flatMap.1 (List.mem_of_getElem? hj)
        simp only [runCells, List.mem_cons, List.not_mem_nil, or_false] at hr
        rcases hr with rfl | rfl | rfl <;> exact ⟨_, rfl⟩
      obtain ⟨z, rfl⟩ := hint
      obtain ⟨a, l, c, rfl⟩ := hv
      rw [cell_of_row _ _ _ _ _ _ hp] at h1
      rcases (show o + j = 0 ∨ o + j = 1 ∨ 2 ≤ o + j by omega) with k | k | k
      · rw [k] at h1; cases h1
      · rw [k] at h1; cases h1
      · rw [Array.getElem?_eq_none (by simpa using k)] at h1
        cases h1
    · exact (World.cell?_of_block (a := ⟨g, o + j, none⟩) (heap_setCell_other w ⟨p, 1, none⟩ g v' (by first | exact e | exact fun k => e k.symm))).trans h1
theorem SL.past {D : World → Nat → List Int → List Nat → Prop} {O : List Nat} {w2 : World} (H : StOk D) (h : SL D w w' p O L') (g : w'.grownBy w2 none) : SL D w w2 p O L' := by
  obtain ⟨O', h1, t, f⟩ := h
  exact ⟨O', H.grow h1 g, t.trans' (Turn.grown g), f⟩

set_option maxRecDepth 100000 in
set_option maxHeartbeats 4000000 in
theorem sp_add (h : SD w p v L) (hk : JOk L) (lo hi by_ : Int) (h0 : okI lo) (h1 : okI hi) (h2 : okI by_) :
    Calls Try.prog 48 #[.pointer (some ⟨p, 0, none⟩), .int .i64 lo, .int .i64 hi, .int .i64 by_] w (AddA w (fun w' L' => SL DS w w' p (blkS p v) L') L lo hi by_) := by
  have HT := Lib.hid (sp_there h)
  have HLn := Lib.hid (sp_len h hk)
  by_cases hr : 0 ≤ lo ∧ hi ≤ L.length ∧ lo ≤ hi
  · have d0 : decide (lo < 0) = false := decide_eq_false (by omega)
    have d1 : decide (hi > (L.length : Int)) = false := decide_eq_false (by omega)
    have d2 : decide (lo > hi) = false := decide_eq_false (by omega)
    have hlo := (runsJ_side L).loose
    have hle := runs_le hk
    have hln := hk.len
    obtain ⟨c0, c1⟩ := h.at
    obtain ⟨sa, sc, hv, -⟩ := h.row.slice
    have hne := h.ne
    have HS := Lib.hid h
    have HK := Lib.hid hk
    have HC1 := Lib.hid (cut_ok h.row hlo hle hr.1 (show lo ≤ L.length by omega))
    have HR := Lib.hid hr
    subst hv
    clear h hk h0 h1 hlo hne
    go_enter Try.func48, Try.ntmps48
    go_wp2_with fail
    refine HT.out.mono ?_
    rintro e w2 ⟨rfl, e2⟩
    subst w2
    go_wp2_with fail
    refine HLn.out.mono ?_
    rintro e w2 ⟨rfl, e2⟩
    subst w2
    go_wp2_with fail
    refine HC1.out.mono ?_
    rintro e w1 ⟨uA, uR, A, R1, rfl, hA, hR1, lA, lR, g1⟩
    obtain ⟨aA, cA, hvA, -⟩ := hA.slice
    obtain ⟨aR, cR, hvR, -⟩ := hR1.slice
    have hlR : R1.length ≤ 4096 := by have := lR.len; have := HR.out; omega
    have hlA : A.length ≤ 4096 := by have := lA.len; have := HR.out; omega
    have HC2 := Lib.hid (cut_ok hR1 lR hlR HR.out.2.2 HR.out.2.1)
    subst hvA
    subst hvR
    have HA := Lib.hid hA
    have HLA := Lib.hid lA
    have HG1 := Lib.hid g1
    have HLR := Lib.hid hlA
    clear hA hR1 lA lR g1 hlR hlA
    go_wp2_with fail
    refine HC2.out.mono ?_
    rintro e w3 ⟨uW, uB, W, B, rfl, hW, hB, lW, lB, g3⟩
    obtain ⟨aW, cW, hvW, -⟩ := hW.slice
    obtain ⟨aB, cB, hvB, -⟩ := hB.slice
    have hlW : W.length ≤ 4096 := by have := lW.len; have := HR.out; omega
    have hlB : B.length ≤ 4096 := by have := lB.len; have := HR.out; omega
    have hbn : ∀ r, r ∈ W → 0 ≤ r.n ∧ r.n ≤ 1000000 := fun r hr => by
      obtain ⟨e1, e2, e3, e4⟩ := lW.at hr
      have e5 := e4 r.lo.toNat (by have := HR.out; omega) (by have := HR.out; omega)
      have e6 := getD_mem (L := L) (i := r.lo.toNat) (by have := HR.out; omega)
      rw [e5] at e6
      exact ⟨HK.out.lo _ e6, HK.out.hi _ e6⟩
    obtain ⟨d, hd⟩ : ∃ d, decide (∀ r, r ∈ W → 0 ≤ r.n + by_ ∧ r.n + by_ ≤ 1000000) = d := ⟨_, rfl⟩
    have HRz := Lib.hid (raise_ok hW hlW hbn by_ h2 d hd.symm)
    have hmay := lW.may HR.out.1 HR.out.2.1 (by_ := by_)
    subst hvW
    subst hvB
    have HW := Lib.hid hW
    have HB := Lib.hid hB
    have HLW := Lib.hid lW
    have HLB := Lib.hid lB
    have HG3 := Lib.hid (grown_trans HG1.out g3)
    have HA3 := Lib.hid (HA.out.grow g3)
    have HLW2 := Lib.hid hlW
    have HLB2 := Lib.hid hlB
    have HM := Lib.hid hmay
    have HD := Lib.hid hd
    clear hW hB lW lB g3 hlW hlB hbn hd hmay h2
    go_wp2_with fail
    refine HRz.out.mono ?_
    rintro e w4 ⟨u', rfl, hyes, g4, au, lu, cu, hu⟩
    have HY := Lib.hid hyes
    have HG4 := Lib.hid (grown_trans HG3.out g4)
    have HG34 := Lib.hid g4
    subst hu
    clear hyes g4
    cases d with
    | false =>
      have hno : ¬ mayJ L lo hi by_ := fun k => absurd (HM.out.1 k.2) (of_decide_eq_false HD.out)
      have HNo := Lib.hid hno
      clear hno
      go_wp2_with fail
      go_ret2
      exact addA_no HNo.out (HS.out.same HG4.out)
    | true =>
      have hm : mayJ L lo hi by_ := ⟨HR.out, HM.out.2 (of_decide_eq_true HD.out)⟩
      obtain ⟨hW', oW'⟩ := HY.out rfl
      have hmr := more_runs (by_ := by_) HLA.out HLW.out HLB.out
      have hwl : (W.map (raiseJ by_)).length = W.length := List.length_map _
      obtain ⟨Wz, hWz⟩ : ∃ Wz, W.map (raiseJ by_) = Wz := ⟨_, rfl⟩
      rw [hWz] at hmr hW' hwl
      clear hWz HY
      obtain ⟨aW', cW', hvW', -⟩ := hW'.slice
      injection hvW' with e1 e2 e3
      subst e1 e2 e3
      have ga := World.grownBy_alloc w4 (.cells #[.slice aA A.length cA, .slice au Wz.length cu, .slice aB B.length cB] 96) none
      have hn := heap_alloc_new w4 (.cells #[.slice aA A.length cA, .slice au Wz.length cu, .slice aB B.length cB] 96)
      have hparts : PartsC (w4.alloc (.cells #[.slice aA A.length cA, .slice au Wz.length cu, .slice aB B.length cB] 96)) (.slice (some ⟨w4.heap.size, 0, none⟩) 3 3) [A, Wz, B] := by
        refine ⟨w4.heap.size, rfl, fun i P hP => ?_⟩
        rw [cell_of_row _ _ _ _ _ _ hn]
        match i, hP with
        | 0, hP => cases hP; exact ⟨_, rfl, (HA3.out.grow HG34.out).grow ga⟩
        | 1, hP => cases hP; exact ⟨_, rfl, hW'.grow ga⟩
        | 2, hP => cases hP; exact ⟨_, rfl, (HB.out.grow HG34.out).grow ga⟩
        | i + 3, hP => cases hP
      have hj := join_ok hparts (by simp) (fun P hP => by
        simp only [List.mem_cons, List.not_mem_nil, or_false] at hP
        have l1 := HLR.out
        have l2 := HLW2.out
        have l3 := HLB2.out
        rcases hP with rfl | rfl | rfl
        · omega
        · omega
        · omega)
      rw [hmr] at hj
      have HJ := Lib.hid hj
      have HMay := Lib.hid hm
      have HGa := Lib.hid ga
      clear hm hW' oW' ga hn hparts hj hmr hwl
      go_wp2_with fail
      refine HJ.out.mono ?_
      rintro e w5 ⟨uJ, rfl, hJ, oJ, g5⟩
      obtain ⟨aJ, cJ, hvJ, -⟩ := hJ.slice
      have hg5 := grown_trans HG4.out (grown_trans HGa.out g5)
      have h5 := HS.out.grow hg5
      obtain ⟨-, q1⟩ := h5.at
      have qf := h5.frozen 1
      have hW5 := (HW.out.grow (grown_trans HG34.out (grown_trans HGa.out g5))).past_set (v' := uJ) h5.head ⟨_, _, _, rfl⟩
      have HE := Lib.hid (emptied_ok hW5 HLW.out HR.out.1 (by have := HR.out; omega) by_)
      have HO := Lib.hid (HS.out.other hg5 hJ fun b e => by have := oJ b e; have := HG4.out.size; have := HGa.out.size; omega)
      have HSz := Lib.hid (show w.heap.size ≤ (w5.setCell ⟨p, 1, none⟩ uJ).heap.size by have := hg5.size; simpa using this)
      subst hvJ
      clear hJ oJ g5 hg5 h5 hW5
      go_wp2_with fail
      refine HE.out.mono ?_
      rintro e w6 ⟨uz, rfl, hz, g6⟩
      rw [gone_items HK.out HLW.out HR.out.1 HR.out.2.1 HMay.out] at hz
      obtain ⟨az, cz, hvz⟩ := OwnOf.form hz
      have HZ := Lib.hid hz
      have HG6 := Lib.hid g6
      subst hvz
      clear hz g6
      go_wp2_with fail
      go_ret2
      exact addA_yes HMay.out (OwnOf.row HZ.out) (fun b e => Nat.le_trans HSz.out (OwnOf.lt HZ.out e).1) (SL.past dsOk HO.out HG6.out)
  · have hno : ¬ mayJ L lo hi by_ := fun k => hr k.1
    have HNo := Lib.hid hno
    have HS := Lib.hid (h.same (grown_refl w none))
    rcases (show lo < 0 ∨ (¬ lo < 0 ∧ hi > L.length) ∨ (¬ lo < 0 ∧ ¬ hi > L.length ∧ lo > hi) by omega) with d0 | ⟨d0, d1⟩ | ⟨d0, d1, d2⟩
    all_goals
      clear h hk hno hr h0 h1 h2
      go_enter Try.func48, Try.ntmps48
      go_wp2_with fail
      refine HT.out.mono ?_
      rintro e w2 ⟨rfl, e2⟩
      subst w2
      go_wp2_with fail
      try
        refine HLn.out.mono ?_
        rintro e w2 ⟨rfl, e2⟩
        subst w2
        go_wp2_with fail
      go_ret2
      exact addA_no HNo.out HS.out
end
end Go.Proofs.Ytfmihbiongnpnaa
