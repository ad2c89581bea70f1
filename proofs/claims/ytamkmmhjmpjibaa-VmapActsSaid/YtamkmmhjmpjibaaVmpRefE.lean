/- Layer 16: the document's At, Inherit, Advise, Wire, Fork. -/
import Derived.Test.YtamkmmhjmpjibaaVmpRefD
import Derived.Test.YtamkmmhjmpjibaaVmpLk
namespace Go.Proofs.Ytamkmmhjmpjibaa
open Go.ChangeShapes Go.WideShapes Go.ChangeAt Go.RowKit Go.Deep
set_option linter.unusedVariables false
set_option linter.unusedSimpArgs false

theorem VR.ne {w : World} {r : Nat} {v : Value} {L : List En} (h : VR w r v L) {b : Nat} (hb : v.ownBlock = some b) : b ≠ r := by have := (OwnOf.lt h.own hb).1; omega
theorem VR.put1 {w : World} {r : Nat} {v u : Value} {M : List En} (h : w.heap[r]? = some (.cells #[v] 29 (0, 0))) (hu : EOwn w (r + 1) u M) : VR (w.setCell ⟨r, 0, none⟩ u) r u M := by
  have ho : ∀ b, b ≠ r → (w.setCell ⟨r, 0, none⟩ u).heap[b]? = w.heap[b]? := fun b hb => heap_setCell_other w ⟨r, 0, none⟩ b _ (by first | exact hb | exact hb.symm)
  exact ⟨heap_setCell_same w r 0 _ _ u h, OwnOf.kept hu fun g hg => ho g fun e => by have := (OwnOf.lt hu hg).1; omega⟩
set_option maxHeartbeats 2000000 in
theorem refAt_ok {w : World} {r : Nat} {v : Value} {L : List En} (h : VR w r v L) (hr : RF 0 L) (hl : L.length ≤ 100000) (pg : Int) (x : En) (hx : atE L pg = x) (d : Bool) (hd : (atV L pg).isSome = d) :
    Calls Try.prog 17 #[.pointer (some ⟨r, 0, none⟩), .int .i64 pg] w fun e w' => e = .returned (.tuple #[.agg #[.int .i64 x.s, .int .i64 x.e, .int .i64 x.f, .int .i64 x.o, .bool x.sh, .int .i64 x.p, .int .i64 x.m, .int .i64 x.i, .int .i64 x.a, .bool x.wi], .bool d]) ∧ w.grownBy w' none := by
  obtain ⟨a, c, hv⟩ := h.form
  subst hv
  obtain ⟨k, hk⟩ : ∃ k, findK L pg = k := ⟨_, rfl⟩
  have hhd : hasB L pg = d := by rw [at_has]; exact hd
  have hg1 := World.grownBy_alloc w (.cells #[.int .i64 zeroE.s, .int .i64 zeroE.e, .int .i64 zeroE.f, .int .i64 zeroE.o, .bool zeroE.sh, .int .i64 zeroE.p, .int .i64 zeroE.m, .int .i64 zeroE.i, .int .i64 zeroE.a, .bool zeroE.wi] 31) none
  have HG1 := Lib.hid hg1
  have HB := Lib.hid (EnB.new w zeroE)
  have HF := Lib.hid (refFind_ok c (h.grow hg1).row (by omega) pg k hk d hhd)
  have HH := Lib.hid h
  have c0 := (h.grow hg1).at
  unfold zeroE at HF c0 HG1
  cases d with
  | false =>
    have hx0 : x = zeroE := by
      rw [← hx]
      unfold atE
      cases e : atV L pg with
      | none => rfl
      | some y => rw [e] at hd; cases hd
    subst hx0
    clear h hr hl hk hd hhd hx hg1
    go_enter Try.func17, Try.ntmps17
    go_wp2_with fail
    refine HF.out.mono ?_
    rintro e w2 ⟨rfl, g2⟩
    have hb := HB.out.grow g2
    have HB2 := Lib.hid (set10_box hb zeroE)
    have HG2 := Lib.hid (grown_at (grown_trans HG1.out g2) (set10_grown w2 w.heap.size zeroE) (Nat.le_refl _))
    obtain ⟨q0, q1, q2, q3, q4, q5, q6, q7, q8, q9⟩ := hb.all
    have hf := hb.frozen
    clear g2 hb
    unfold set10 zeroE at HB2 HG2
    unfold zeroE at q0 q1 q2 q3 q4 q5 q6 q7 q8 q9
    go_wp2_with fail
    refine bodyPost_ret (results_row_tmp rfl _ _ w.heap.size _ _ (0, 0) _ rfl HB2.out Try.underlying31 (by kernel_rfl) (by kernel_rfl)) rfl ?_
    exact ⟨rfl, HG2.out⟩
  | true =>
    obtain ⟨y, hy⟩ : ∃ y, atV L pg = some y := Option.isSome_iff_exists.1 hd
    have hxy : y = x := by rw [← hx]; unfold atE; rw [hy]; rfl
    subst hxy
    have hLk := (at_find hy).2
    rw [hk] at hLk
    have hkl : k < L.length := (List.getElem?_eq_some_iff.1 hLk).1
    have HLk := Lib.hid hLk
    clear hr hk hd hhd hx hg1 hy hLk
    go_enter Try.func17, Try.ntmps17
    go_wp2_with fail
    refine HF.out.mono ?_
    rintro e w2 ⟨rfl, g2⟩
    have hb := HB.out.grow g2
    have HB2 := Lib.hid (set10_box hb y)
    have HG2 := Lib.hid (grown_at (grown_trans HG1.out g2) (set10_grown w2 w.heap.size y) (Nat.le_refl _))
    obtain ⟨q0, q1, q2, q3, q4, q5, q6, q7, q8, q9⟩ := hb.all
    have hf := hb.frozen
    have c2 := (HH.out.grow (grown_trans HG1.out g2)).at
    obtain ⟨g, o, c3, hv1, ka0, ka1, ka2, ka3, ka4, ka5, ka6, ka7, ka8, ka9⟩ := en_cells (HH.out.grow (grown_trans HG1.out g2)).row HLk.out
    injection hv1 with e1 e2 e3
    subst e1 e3
    clear g2 hb h
    unfold set10 at HB2 HG2
    unfold zeroE at q0 q1 q2 q3 q4 q5 q6 q7 q8 q9
    go_wp2_with fail
    refine bodyPost_ret (results_row_tmp rfl _ _ w.heap.size _ _ (0, 0) _ rfl HB2.out Try.underlying31 (by kernel_rfl) (by kernel_rfl)) rfl ?_
    exact ⟨rfl, HG2.out⟩
set_option maxRecDepth 100000 in
set_option maxHeartbeats 4000000 in
theorem refFork_ok {w : World} {r : Nat} {v : Value} {L : List En} (h : VR w r v L) (hm : MapL L) (hl : L.length ≤ 900) :
    Calls Try.prog 35 #[.pointer (some ⟨r, 0, none⟩)] w fun e w' => ∃ rc v', e = .returned (.pointer (some ⟨rc, 0, none⟩)) ∧ w.heap.size ≤ rc ∧ VR w' rc v' (forkV L) ∧ (∀ b, v'.ownBlock = some b → w.heap.size ≤ b) ∧ w.grownBy w' none := by
  obtain ⟨a, c, hv⟩ := h.form
  subst hv
  have HH := Lib.hid h
  obtain ⟨n, hn⟩ : ∃ n, L.length = n := ⟨_, rfl⟩
  have HNn := Lib.hid hn
  have HMl := Lib.hid hm
  rw [hn] at hl HH
  obtain ⟨w2, hw2⟩ : ∃ w2, w.alloc (.cells #[.slice none 0 0] 29) = w2 := ⟨_, rfl⟩
  obtain ⟨rc, hrc⟩ : ∃ rc, w.heap.size = rc := ⟨_, rfl⟩
  have k1 : VR w2 rc (.slice none 0 0) [] := by rw [← hw2, ← hrc]; exact ⟨heap_alloc_new w _, OwnOf.nil _ _⟩
  have g2 : w.grownBy w2 none := by rw [← hw2]; exact World.grownBy_alloc _ _ _
  have hrl : r ≠ rc := by have := HH.out.lt; omega
  have c2 := (HH.out.grow g2).at
  have HI := Lib.hid (show VR w2 rc (.slice none 0 0) (childL (L.take 0)) from k1)
  have HG2 := Lib.hid g2
  clear k1 g2
  clear h hm hn
  go_enter Try.func35, Try.ntmps35
  go_wp2_with fail
  go_wp2_with fail
  go_loopw [13] (fun iv wr => ∃ (q : Nat) (vv : Value), q ≤ n ∧ iv = .int .i64 q ∧ Hid (VR wr rc vv (childL (L.take q))) ∧ Hid (w.grownBy wr none)) (fun iv _ => n - (intOf iv).toNat)
  case atStart => exact ⟨0, _, by omega, rfl, HI, HG2⟩
  case round =>
    clear HI HG2
    obtain ⟨q, vv, hq, rfl, HV, HG⟩ := hrel
    by_cases hlt : q < n
    · obtain ⟨x, hx⟩ : ∃ x, L[q]? = some x := ⟨_, List.getElem?_eq_getElem (by rw [HNn.out]; exact hlt)⟩
      obtain ⟨g, o, c3, hv1, ka0, ka1, ka2, ka3, ka4, ka5, ka6, ka7, ka8, ka9⟩ := en_cells (HH.out.grow HG.out).row hx
      rw [HNn.out] at hv1
      injection hv1 with e1 e2 e3
      subst e1 e3
      have HCt := Lib.hid (child_take hx)
      have hkx := (EnB.new wr x).all
      have hfx := (EnB.new wr x).frozen
      obtain ⟨k0, k1, k2, k3, k4, k5, k6, k7, k8, k9⟩ := hkx
      by_cases hi2 : x.i = 2
      · rw [if_neg (by simpa using hi2), List.append_nil] at HCt
        have b0 : (x.i == 2) = true := by simpa using hi2
        clear hx
        go_wp2_with fail
        go_roundw
        case rel => exact ⟨q + 1, vv, by omega, by go_num, by rw [HCt.out]; exact Lib.hid (HV.out.grow (World.grownBy_alloc _ _ _)), Lib.hid (grown_trans HG.out (World.grownBy_alloc _ _ _))⟩
        case measure => simp [intOf]; omega
      · rw [if_pos (by simpa using hi2)] at HCt
        have b0 : (x.i == 2) = false := by simpa using hi2
        clear hx
        go_upto_region 7 with fail
        obtain ⟨wb, hwb⟩ : ∃ wb, wr.alloc (.cells #[.int .i64 (unwire x).s, .int .i64 (unwire x).e, .int .i64 (unwire x).f, .int .i64 (unwire x).o, .bool (unwire x).sh, .int .i64 (unwire x).p, .int .i64 (unwire x).m, .int .i64 (unwire x).i, .int .i64 (unwire x).a, .bool (unwire x).wi] 31) = wb := ⟨_, rfl⟩
        have hBb : EnB wb wr.heap.size (unwire x) := by rw [← hwb]; exact EnB.new wr (unwire x)
        have gb : wr.grownBy wb none := by rw [← hwb]; exact World.grownBy_alloc _ _ _
        have hVb := HV.out.grow gb
        have HGb := Lib.hid (grown_trans HG.out gb)
        have gA : wb.grownBy ((wb.alloc (.cells #[.int .i64 x.s, .int .i64 x.e, .int .i64 x.f, .int .i64 x.o, .bool x.sh, .int .i64 x.p, .int .i64 x.m, .int .i64 x.i, .int .i64 x.a, .bool false] 31)).drew) none := grown_trans (World.grownBy_alloc _ _ _) (grown_drew1 _)
        obtain ⟨g', c', w5, hap, hown5, g5, hat5⟩ := app_one (y := unwire x) (hVb.grow gA).own (heap_alloc_new wb (.cells #[.int .i64 x.s, .int .i64 x.e, .int .i64 x.f, .int .i64 x.o, .bool x.sh, .int .i64 x.p, .int .i64 x.m, .int .i64 x.i, .int .i64 x.a, .bool false] 31)) (by have := child_len (L.take q); rw [List.length_take, HNn.out] at this; omega) (by have := (hVb.grow gA).lt; omega)
        have hd5 : w5.heap[rc]? = some (.cells #[vv] 29 (0, 0)) := (g5.block rc (hVb.grow gA).lt (fun e => (hVb.grow gA).ne e.symm rfl)).trans (hVb.grow gA).head
        have c5 : w5.cell? ⟨rc, 0, none⟩ = some vv := by rw [cell_of_row _ _ _ _ _ _ hd5]; rfl
        have f5 : w5.frozen? ⟨rc, 0, none⟩ = false := frozen_of_row _ _ _ _ _ hd5
        have HV5 := Lib.hid (VR.put1 hd5 hown5)
        have hv0 : ∀ b, vv.ownBlock = some b → w.heap.size ≤ b := fun b hb => by have := (OwnOf.lt HV.out.own hb).1; omega
        have HG5 := Lib.hid (grown_at (grown_own (grown_trans HGb.out gA) g5 hv0) (grown_set w5 rc 0 (.slice (some ⟨g', 0, none⟩) ((childL (L.take q)).length + 1) c')) (by omega))
        have d0 := hVb.at
        have d1 := (hVb.grow gA).at
        have q0 := hBb.all
        obtain ⟨q0, q1, q2, q3, q4, q5, q6, q7, q8, q9⟩ := q0
        obtain ⟨nl, hnl⟩ : ∃ nl, (childL (L.take q)).length + 1 = nl := ⟨_, rfl⟩
        rw [hnl] at hap HV5 HG5
        have HAP := Lib.hid hap
        have hwb' : wr.alloc (.cells #[.int .i64 x.s, .int .i64 x.e, .int .i64 x.f, .int .i64 x.o, .bool x.sh, .int .i64 x.p, .int .i64 x.m, .int .i64 x.i, .int .i64 x.a, .bool false] 31) = wb := hwb
        rw [hwb']
        have hq0 : wb.cell? ⟨wr.heap.size, 0, none⟩ = some (.int .i64 x.s) := q0
        have hq1 : wb.cell? ⟨wr.heap.size, 1, none⟩ = some (.int .i64 x.e) := q1
        have hq2 : wb.cell? ⟨wr.heap.size, 2, none⟩ = some (.int .i64 x.f) := q2
        have hq3 : wb.cell? ⟨wr.heap.size, 3, none⟩ = some (.int .i64 x.o) := q3
        have hq4 : wb.cell? ⟨wr.heap.size, 4, none⟩ = some (.bool x.sh) := q4
        have hq5 : wb.cell? ⟨wr.heap.size, 5, none⟩ = some (.int .i64 x.p) := q5
        have hq6 : wb.cell? ⟨wr.heap.size, 6, none⟩ = some (.int .i64 x.m) := q6
        have hq7 : wb.cell? ⟨wr.heap.size, 7, none⟩ = some (.int .i64 x.i) := q7
        have hq8 : wb.cell? ⟨wr.heap.size, 8, none⟩ = some (.int .i64 x.a) := q8
        have hq9 : wb.cell? ⟨wr.heap.size, 9, none⟩ = some (.bool false) := q9
        clear hap hown5 g5 hat5 hd5 hv0 hVb gA gb hBb hwb hwb' q0 q1 q2 q3 q4 q5 q6 q7 q8 q9 hnl k0 k1 k2 k3 k4 k5 k6 k7 k8 k9 hfx ka0 ka1 ka2 ka3 ka4 ka5 ka6 ka7 ka8 ka9
        go_region_law (refine step_app_run rfl _ _ _ _ rfl _ _ (by simp [Act.eval, Act.put]) (by simp [Act.eval, Act.put]) _ _ HAP.out ?_)
        all_goals
          go_wp2_with fail
          go_roundw
          case rel => exact ⟨q + 1, _, by omega, by go_num, by rw [HCt.out]; exact HV5, HG5⟩
          case measure => simp [intOf]; omega
    · obtain rfl : q = n := by omega
      have hV := HV.out
      rw [List.take_of_length_le (by rw [HNn.out]; exact Nat.le_refl _)] at hV
      obtain ⟨va, vc, hvf⟩ := hV.form
      subst hvf
      have hrf := rf_child HMl.out.rf
      have hcl := child_len L
      rw [HNn.out] at hcl
      have HMg := Lib.hid (refMerge_ok vc hV.row hrf (by omega))
      have HVV := Lib.hid hV
      have c5 := hV.at
      clear hV hrf HV
      go_wp2_with fail
      refine HMg.out.mono ?_
      rintro e w5 ⟨u5, rfl, hown5, g5⟩
      obtain ⟨a5, c6, hvf⟩ := OwnOf.form hown5
      subst hvf
      have hd5 := (HVV.out.grow g5).head
      have d5 := (HVV.out.grow g5).at
      have f5 := (HVV.out.grow g5).frozen
      have hlow : EOwn w5 (rc + 1) (.slice a5 (mergeE (childL L)).length c6) (mergeE (childL L)) := OwnOf.lower hown5 (by have := HVV.out.lt; omega)
      have HF := Lib.hid (VR.put1 hd5 hlow)
      have HG5 := Lib.hid (grown_at (grown_trans HG.out g5) (grown_set w5 rc 0 (.slice a5 (mergeE (childL L)).length c6)) (by omega))
      have HB := Lib.hid (fun b (hb : (Value.slice a5 (mergeE (childL L)).length c6).ownBlock = some b) => (OwnOf.lt hown5 hb).1)
      have hsz := HG.out.size
      clear hown5 g5 hd5 hlow
      go_wp2_with fail
      go_ret
      exact ⟨rc, _, rfl, by omega, HF.out, fun b hb => Nat.le_trans hsz (HB.out b hb), HG5.out⟩
theorem refInherit_ok {w : World} {r : Nat} {v : Value} {L : List En} (h : VR w r v L) (hm : RF 0 L) (hl : L.length ≤ 900) (lo n how : Int) (ho : okI lo) (hn : okI n) :
    Calls Try.prog 32 #[.pointer (some ⟨r, 0, none⟩), .int .i64 lo, .int .i64 n, .int .i64 how] w fun e w' => e = .returned (.int .i64 (otherV L lo n 3 how 2 false).err) ∧ ∃ v', VR w' r v' (otherV L lo n 3 how 2 false).l ∧ New w v v' ∧ w.grownBy w' (some r) := by
  have HO := Lib.hid (refOther1_ok h hm hl lo n how ho hn)
  generalize (otherV L lo n 3 how 2 false).err = er at *
  generalize (otherV L lo n 3 how 2 false).l = Lf at *
  clear h hm hl ho hn
  go_enter Try.func32, Try.ntmps32
  go_wp2_with fail
  refine HO.out.mono ?_
  rintro e w2 ⟨rfl, v', k1, k2, k3⟩
  have H1 := Lib.hid k1
  have H2 := Lib.hid k2
  have H3 := Lib.hid k3
  clear k1 k2 k3
  go_wp2_with fail
  go_ret
  exact ⟨rfl, _, H1.out, H2.out, H3.out⟩
theorem refAdvise_ok {w : World} {r : Nat} {v : Value} {L : List En} (h : VR w r v L) (hm : RF 0 L) (hl : L.length ≤ 900) (lo n how : Int) (ho : okI lo) (hn : okI n) :
    Calls Try.prog 33 #[.pointer (some ⟨r, 0, none⟩), .int .i64 lo, .int .i64 n, .int .i64 how] w fun e w' => e = .returned (.int .i64 (otherV L lo n 4 how 4 false).err) ∧ ∃ v', VR w' r v' (otherV L lo n 4 how 4 false).l ∧ New w v v' ∧ w.grownBy w' (some r) := by
  have HO := Lib.hid (refOther2_ok h hm hl lo n how ho hn)
  generalize (otherV L lo n 4 how 4 false).err = er at *
  generalize (otherV L lo n 4 how 4 false).l = Lf at *
  clear h hm hl ho hn
  go_enter Try.func33, Try.ntmps33
  go_wp2_with fail
  refine HO.out.mono ?_
  rintro e w2 ⟨rfl, v', k1, k2, k3⟩
  have H1 := Lib.hid k1
  have H2 := Lib.hid k2
  have H3 := Lib.hid k3
  clear k1 k2 k3
  go_wp2_with fail
  go_ret
  exact ⟨rfl, _, H1.out, H2.out, H3.out⟩
theorem other5 (L : List En) (lo n v : Int) (on : Bool) (h0 : 0 ≤ v) (h1 : v ≤ 1) : otherV L lo n 5 v 1 on = otherV L lo n 5 0 1 on := by
  unfold otherV
  have e : setV 5 v on = setV 5 0 on := by funext x; rfl
  rw [e]
  by_cases hr : rangeV lo n = true
  · rw [if_pos (show rangeV lo n = true ∧ 0 ≤ v ∧ v ≤ 1 from ⟨hr, h0, h1⟩), if_pos (show rangeV lo n = true ∧ (0 : Int) ≤ 0 ∧ (0 : Int) ≤ 1 from ⟨hr, by decide, by decide⟩)]
  · rw [if_neg (show ¬ (rangeV lo n = true ∧ 0 ≤ v ∧ v ≤ 1) from fun h => hr h.1), if_neg (show ¬ (rangeV lo n = true ∧ (0 : Int) ≤ 0 ∧ (0 : Int) ≤ 1) from fun h => hr h.1)]
theorem refWire_ok {w : World} {r : Nat} {v : Value} {L : List En} (h : VR w r v L) (hm : RF 0 L) (hl : L.length ≤ 900) (lo n : Int) (on : Bool) (ho : okI lo) (hn : okI n) :
    Calls Try.prog 34 #[.pointer (some ⟨r, 0, none⟩), .int .i64 lo, .int .i64 n, .bool on] w fun e w' => e = .returned (.int .i64 (otherV L lo n 5 0 1 on).err) ∧ ∃ v', VR w' r v' (otherV L lo n 5 0 1 on).l ∧ New w v v' ∧ w.grownBy w' (some r) := by
  cases on with
  | true =>
    have hO := refOther3_ok h hm hl lo n 1 true rfl ho hn
    rw [other5 L lo n 1 true (by decide) (by decide)] at hO
    have HO := Lib.hid hO
    generalize (otherV L lo n 5 0 1 true).err = er at *
    generalize (otherV L lo n 5 0 1 true).l = Lf at *
    clear hO h hm hl ho hn
    go_enter Try.func34, Try.ntmps34
    go_wp2_with fail
    refine HO.out.mono ?_
    rintro e w2 ⟨rfl, v', k1, k2, k3⟩
    have H1 := Lib.hid k1
    have H2 := Lib.hid k2
    have H3 := Lib.hid k3
    clear k1 k2 k3
    go_wp2_with fail
    go_ret
    exact ⟨rfl, _, H1.out, H2.out, H3.out⟩
  | false =>
    have HO := Lib.hid (refOther3_ok h hm hl lo n 0 false rfl ho hn)
    generalize (otherV L lo n 5 0 1 false).err = er at *
    generalize (otherV L lo n 5 0 1 false).l = Lf at *
    clear h hm hl ho hn
    go_enter Try.func34, Try.ntmps34
    go_wp2_with fail
    refine HO.out.mono ?_
    rintro e w2 ⟨rfl, v', k1, k2, k3⟩
    have H1 := Lib.hid k1
    have H2 := Lib.hid k2
    have H3 := Lib.hid k3
    clear k1 k2 k3
    go_wp2_with fail
    go_ret
    exact ⟨rfl, _, H1.out, H2.out, H3.out⟩
end Go.Proofs.Ytamkmmhjmpjibaa
