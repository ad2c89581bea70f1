/- Package amap (landed): bare, cover, Hold. -/
import Derived.Test.YtfmihbiongnpnaaADb
namespace Go.Proofs.Ytfmihbiongnpnaa
open Go.ChangeShapes Go.WideShapes Go.ChangeAt Go.RowKit Go.Deep
set_option linter.unusedVariables false

/-- Does the run hold a bare slot from lo to below hi? -/
def bareQ (lo hi : Int) (r : JR) : Bool := (r.n == 0) && decide (r.lo < hi) && decide (lo < r.hi)
theorem bare_runs {cs : List Int} {lo hi : Int} (h : lo < hi) : (runsJ cs).any (bareQ lo hi) = decide (¬ allCov cs lo hi) := by
  have hs := (runsJ_side cs).loose
  by_cases hc : allCov cs lo hi
  · rw [show decide (¬ allCov cs lo hi) = false from decide_eq_false (fun k => k hc), List.any_eq_false]
    intro r hr hq
    unfold bareQ at hq
    simp only [Bool.and_eq_true, beq_iff_eq, decide_eq_true_eq] at hq
    obtain ⟨⟨q0, q1⟩, q2⟩ := hq
    obtain ⟨r0, r1, r2, r3⟩ := hs.at hr
    obtain ⟨j, hj⟩ : ∃ j : Nat, (j : Int) = max lo r.lo := ⟨(max lo r.lo).toNat, by omega⟩
    have := r3 j (by omega) (by omega)
    exact hc j (by omega) ⟨by omega, by omega⟩ (by rw [this]; exact q0)
  · rw [show decide (¬ allCov cs lo hi) = true from decide_eq_true hc, List.any_eq_true]
    unfold allCov at hc
    simp only [Classical.not_forall, Classical.not_not] at hc
    obtain ⟨j, hj, hin, h0⟩ := hc
    obtain ⟨k, hf⟩ := hs.find_ex (j : Int)
    rcases Nat.lt_or_ge k (runsJ cs).length with hk | hk
    · obtain ⟨r, hr⟩ : ∃ r, (runsJ cs)[k]? = some r := ⟨_, List.getElem?_eq_getElem hk⟩
      obtain ⟨f0, f1⟩ := hs.found (by omega) hf hr
      obtain ⟨r0, r1, r2, r3⟩ := hs.at (List.mem_of_getElem? hr)
      refine ⟨r, List.mem_of_getElem? hr, ?_⟩
      have := r3 j f0 f1
      have h1 := hin.1
      have h2 := hin.2
      unfold bareQ
      simp only [Bool.and_eq_true, beq_iff_eq, decide_eq_true_eq]
      exact ⟨⟨by rw [← this]; exact h0, by omega⟩, by omega⟩
    · obtain rfl : k = (runsJ cs).length := by have := hf.le; omega
      have := hs.found_end (by omega) (by omega) hf
      omega

theorem bare1_ok {w : World} {r : JR} {lo hi : Int} {bh bl : Nat} (ch : w.cell? ⟨bh, 0, none⟩ = some (.int .i64 hi)) (cl : w.cell? ⟨bl, 0, none⟩ = some (.int .i64 lo)) : Calls Try.prog 65 #[.agg #[.int .i64 r.lo, .int .i64 r.hi, .int .i64 r.n], .pointer (some ⟨bh, 0, none⟩), .pointer (some ⟨bl, 0, none⟩)] w fun e w' => e = .returned (.bool (bareQ lo hi r)) ∧ w.grownBy w' none := by
  have ga := World.grownBy_alloc w (.cells #[.int .i64 r.lo, .int .i64 r.hi, .int .i64 r.n] 95 (0, 0)) none
  obtain ⟨k0, k1, k2⟩ := (RunB.new w r).at
  have ch2 := ga.cell ch (by simp)
  have cl2 := ga.cell cl (by simp)
  have HG := Lib.hid ga
  have hb : bareQ lo hi r = ((r.n == 0) && decide (r.lo < hi) && decide (lo < r.hi)) := rfl
  rw [hb]
  obtain ⟨rl, rh, rn⟩ := r
  simp only at *
  generalize hwA : w.alloc (.cells #[.int .i64 rl, .int .i64 rh, .int .i64 rn] 95 (0, 0)) = wA at *
  clear ga hb ch cl
  cases h0 : (rn == 0) with
  | false =>
    go_enter Try.func65, Try.ntmps65
    go_wp2_with fail
    go_ret
    exact ⟨rfl, HG.out⟩
  | true =>
    by_cases h1 : rl < hi
    · by_cases h2 : lo < rh
      · have d1 : decide (rl < hi) = true := decide_eq_true h1
        have d2 : decide (lo < rh) = true := decide_eq_true h2
        rw [d1, d2]
        go_enter Try.func65, Try.ntmps65
        go_wp2_with fail
        go_ret
        exact ⟨rfl, HG.out⟩
      · have d1 : decide (rl < hi) = true := decide_eq_true h1
        have d2 : decide (lo < rh) = false := decide_eq_false h2
        rw [d1, d2]
        go_enter Try.func65, Try.ntmps65
        go_wp2_with fail
        go_ret
        exact ⟨rfl, HG.out⟩
    · have d1 : decide (rl < hi) = false := decide_eq_false h1
      rw [d1]
      go_enter Try.func65, Try.ntmps65
      go_wp2_with fail
      go_ret
      exact ⟨rfl, HG.out⟩

set_option maxHeartbeats 1000000 in
theorem indexf_ok {w : World} {u : Value} {R : List JR} (h : RowOf runCells 3 w u R) (hl : R.length ≤ 4096) (cap : Array Value) (q : JR → Bool)
    (HC : ∀ (r : JR) (W : World), w.grownBy W none → Calls Try.prog 65 (#[.agg #[.int .i64 r.lo, .int .i64 r.hi, .int .i64 r.n]] ++ cap) W fun e W' => e = .returned (.bool (q r)) ∧ W.grownBy W' none) :
    Calls Try.prog 67 #[u, .func (.func 65) #[] cap] w fun e w' => ∃ z : Int, e = .returned (.int .i64 z) ∧ decide (z ≥ 0) = R.any q ∧ w.grownBy w' none := by
  obtain ⟨s, c, rfl⟩ := rowOf_form h
  have HR := Lib.hid h
  have HH := Lib.hid HC
  clear h HC
  go_enter Try.func67, Try.ntmps67
  go_wp2_with fail
  go_loopw [8] (fun iv wr => ∃ j : Nat, j ≤ R.length ∧ iv = .int .i64 j ∧ Hid ((R.take j).any q = false) ∧ Hid (w.grownBy wr none)) (fun iv _ => R.length - (intOf iv).toNat)
  case atStart => exact ⟨0, by omega, rfl, rfl, grown_refl _ _⟩
  case round =>
    obtain ⟨j, hj, rfl, HZ, HG⟩ := hrel
    by_cases hlt : j < R.length
    · obtain ⟨r, hr⟩ : ∃ r, R[j]? = some r := ⟨_, List.getElem?_eq_getElem hlt⟩
      obtain ⟨g, o, c2, hv, k0, k1, k2⟩ := run_cells (rowOf_grow HR.out HG.out) hr
      injection hv with e1 e2 e3
      subst e1 e3
      have HF := Lib.hid (HH.out r wr HG.out)
      have htk := takel_at hr
      have hmem := List.mem_of_getElem? hr
      obtain ⟨rl, rh, rn⟩ := r
      simp only at k0 k1 k2 HF
      cases hq : q ⟨rl, rh, rn⟩ with
      | true =>
        have HA := Lib.hid (show R.any q = true from List.any_eq_true.2 ⟨_, hmem, hq⟩)
        rw [hq] at HF
        clear htk hmem hq hr HZ
        go_wp2_with fail
        refine HF.out.mono ?_
        rintro e w3 ⟨rfl, g3⟩
        have HG3 := Lib.hid (grown_trans HG.out g3)
        clear g3
        go_wp2_with fail
        go_ret
        exact ⟨j, rfl, by rw [HA.out]; exact decide_eq_true (by omega), HG3.out⟩
      | false =>
        have HN := Lib.hid (show (R.take (j + 1)).any q = false by rw [htk, List.any_append, HZ.out]; simp [hq])
        rw [hq] at HF
        clear htk hmem hq hr HZ
        go_wp2_with fail
        refine HF.out.mono ?_
        rintro e w3 ⟨rfl, g3⟩
        have HG3 := Lib.hid (grown_trans HG.out g3)
        clear g3
        go_wp2_with fail
        go_roundw
        case rel => exact ⟨j + 1, by omega, by go_num, HN, HG3⟩
        case measure => simp [intOf]; omega
    · obtain rfl : j = R.length := by omega
      rw [List.take_length] at HZ
      go_wp2_with fail
      go_ret
      exact ⟨-1, rfl, by rw [HZ.out]; decide, HG.out⟩
theorem contains_ok {w : World} {u : Value} {R : List JR} (h : RowOf runCells 3 w u R) (hl : R.length ≤ 4096) (cap : Array Value) (q : JR → Bool)
    (HC : ∀ (r : JR) (W : World), w.grownBy W none → Calls Try.prog 65 (#[.agg #[.int .i64 r.lo, .int .i64 r.hi, .int .i64 r.n]] ++ cap) W fun e W' => e = .returned (.bool (q r)) ∧ W.grownBy W' none) :
    Calls Try.prog 63 #[u, .func (.func 65) #[] cap] w fun e w' => e = .returned (.bool (R.any q)) ∧ w.grownBy w' none := by
  have HI := Lib.hid (indexf_ok h hl cap q HC)
  obtain ⟨s, c, rfl⟩ := rowOf_form h
  obtain ⟨b, hb⟩ : ∃ b, R.any q = b := ⟨_, rfl⟩
  rw [hb] at HI ⊢
  clear h HC hb
  go_enter Try.func63, Try.ntmps63
  go_wp2_with fail
  refine HI.out.mono ?_
  rintro e w2 ⟨z, rfl, hz, g2⟩
  have HG := Lib.hid g2
  clear g2
  go_wp2_with fail
  go_ret
  exact ⟨rfl, HG.out⟩

theorem bare_ok {w : World} {x : AmV} {P : AmP} (h : AmB DS 81 w x P) (hk : JOk x.cs) {lo hi : Int} (hlt : lo < hi) (b : Bool) (hb : decide (¬ allCov x.cs lo hi) = b) : Calls Try.prog 50 #[.pointer (some ⟨P.a, 0, none⟩), .int .i64 lo, .int .i64 hi] w fun e w' => e = .returned (.bool b) ∧ w.grownBy w' none := by
  rw [← bare_runs hlt] at hb
  have g1 := World.grownBy_alloc w (.cells #[.int .i64 lo] 3) none
  have g2 := grown_trans g1 (World.grownBy_alloc (w.alloc (.cells #[.int .i64 lo] 3)) (.cells #[.int .i64 hi] 3) none)
  have c2 : ((w.alloc (.cells #[.int .i64 lo] 3)).alloc (.cells #[.int .i64 hi] 3)).cell? ⟨w.heap.size, 0, none⟩ = some (.int .i64 lo) := by
    have := ((World.grownBy_alloc (w.alloc (.cells #[.int .i64 lo] 3)) (.cells #[.int .i64 hi] 3) none).block w.heap.size (by simp) (by simp)).trans (heap_alloc_new w _)
    rw [cell_of_row _ _ _ _ _ _ this]; rfl
  have c1 : ((w.alloc (.cells #[.int .i64 lo] 3)).alloc (.cells #[.int .i64 hi] 3)).cell? ⟨w.heap.size + 1, 0, none⟩ = some (.int .i64 hi) := by
    have := heap_alloc_new (w.alloc (.cells #[.int .i64 lo] 3)) (.cells #[.int .i64 hi] 3)
    rw [World.size_alloc] at this
    rw [cell_of_row _ _ _ _ _ _ this]; rfl
  have h2 := h.grow dsS g2
  have k0 := h2.at.1
  have HR := Lib.hid (spOk.runs h2.d hk)
  have HC := Lib.hid (fun (u : Value) (W W2 : World) (gW : ((w.alloc (.cells #[.int .i64 lo] 3)).alloc (.cells #[.int .i64 hi] 3)).grownBy W none) (hu : RowOf runCells 3 W u (runsJ x.cs)) => contains_ok hu (runs_le hk) #[.pointer (some ⟨w.heap.size + 1, 0, none⟩), .pointer (some ⟨w.heap.size, 0, none⟩)] (bareQ lo hi) (fun r W2 g => bare1_ok (g.cell (gW.cell c1 (by simp)) (by simp)) (g.cell (gW.cell c2 (by simp)) (by simp))))
  have hmf : ∀ (fn : Fn) (first cap : Array Value) (w : World), (Instr.makeFunc fn first cap).run Try.prog w = .ok (.func fn first cap) w := fun _ _ _ _ => rfl
  have HG := Lib.hid g2
  have HB := Lib.hid hb
  clear h g1 g2 h2 hk c1 c2 hb
  go_enter Try.func50, Try.ntmps50
  go_wp2_with fail
  refine HR.out.mono ?_
  rintro e w2 ⟨u, rfl, hu, -, g2⟩
  have HC2 := Lib.hid (HC.out u w2 w2 g2 hu)
  obtain ⟨su, cu, rfl⟩ := rowOf_form hu
  rw [HB.out] at HC2
  have HG2 := Lib.hid (grown_trans HG.out g2)
  clear hu g2 HC
  go_wp2_with fail
  refine HC2.out.mono ?_
  rintro e w3 ⟨rfl, g3⟩
  have HG3 := Lib.hid (grown_trans HG2.out g3)
  clear g3
  go_wp2_with fail
  go_ret
  exact ⟨rfl, HG3.out⟩

section
variable {w w1 w' : World} {p most : Nat} {v : Value} {L : AmL} {S : Nat → AmP}
theorem pa_cover_no (h : PA w p most v L S) (hg : GoodL most L) (id lo hi by_ : Int) (hid : okI id) (hlo : okI lo) (hhi : okI hi) (hx : ofA L id = none) : Calls Try.prog 38 #[.pointer (some ⟨p, 0, none⟩), .int .i64 id, .int .i64 lo, .int .i64 hi, .int .i64 by_] w fun e w' => e = .returned (.tuple #[.pointer none, .slice none 0 0, .int .i64 7]) ∧ w.grownBy w' none := by
  have HO := Lib.hid (pa_find_none h hg hid hx)
  clear h hx
  go_enter Try.func38, Try.ntmps38
  go_wp2_with fail
  refine HO.out.mono ?_
  rintro e w2 ⟨rfl, e2⟩
  subst w2
  go_wp2_with fail
  go_ret3
  exact ⟨rfl, grown_refl _ _⟩
theorem pa_cover_bad (h : PA w p most v L S) (hg : GoodL most L) {i : Nat} {x : AmV} (hx : L[i]? = some (some x)) (lo hi by_ : Int) (hlo : okI lo) (hhi : okI hi) (hbad : ¬ (lo < hi ∧ allCov x.cs lo hi)) : Calls Try.prog 38 #[.pointer (some ⟨p, 0, none⟩), .int .i64 ((i : Int) + 1), .int .i64 lo, .int .i64 hi, .int .i64 by_] w fun e w' => e = .returned (.tuple #[.pointer none, .slice none 0 0, .int .i64 2]) ∧ w.grownBy w' none := by
  have hga := h.am.each i x hx
  have hgx := ofA_good hg (ofA_at hx)
  have HO := Lib.hid (pa_find_some h hg hx)
  by_cases hlt : lo < hi
  · have HB := Lib.hid (bare_ok hga hgx.cs hlt true (decide_eq_true fun k => hbad ⟨hlt, k⟩))
    have d0 : decide (lo ≥ hi) = false := decide_eq_false (by omega)
    clear h hx hga hgx hbad hlt
    go_enter Try.func38, Try.ntmps38
    go_wp2_with fail
    refine HO.out.mono ?_
    rintro e w2 ⟨rfl, e2⟩
    subst w2
    go_wp2_with fail
    refine HB.out.mono ?_
    rintro e w2 ⟨rfl, g2⟩
    have HG := Lib.hid g2
    clear g2
    go_wp2_with fail
    go_ret3
    exact ⟨rfl, HG.out⟩
  · have d0 : decide (lo ≥ hi) = true := decide_eq_true (by omega)
    clear h hx hga hgx hbad hlt
    go_enter Try.func38, Try.ntmps38
    go_wp2_with fail
    refine HO.out.mono ?_
    rintro e w2 ⟨rfl, e2⟩
    subst w2
    go_wp2_with fail
    go_ret3
    exact ⟨rfl, grown_refl _ _⟩
/-- Behind a cover that reached the counts. -/
def CovR (w w' : World) (x : AmV) (P : AmP) (r : List Int × Int × List Int) (e : Ending) : Prop :=
  ∃ u P2, e = .returned (.tuple #[.pointer (some ⟨P.a, 0, none⟩), u, .int .i64 r.2.1]) ∧ RowOf zCells 1 w' u r.1 ∧ (∀ b, u.ownBlock = some b → w.heap.size ≤ b) ∧ P2.a = P.a ∧ P2.g = P.g ∧ AmB DS 81 w' ⟨r.2.2, x.as⟩ P2 ∧ Turn P.blk w w' ∧ ∀ b, b ∈ P2.blk → b ∈ P.blk ∨ w.heap.size ≤ b
theorem pa_cover_add (h : PA w p most v L S) (hg : GoodL most L) {i : Nat} {x : AmV} (hx : L[i]? = some (some x)) (lo hi by_ : Int) (hlo : okI lo) (hhi : okI hi) (hby : okI by_) (hlt : lo < hi) (hc : allCov x.cs lo hi) : Calls Try.prog 38 #[.pointer (some ⟨p, 0, none⟩), .int .i64 ((i : Int) + 1), .int .i64 lo, .int .i64 hi, .int .i64 by_] w fun e w' => CovR w w' x (S i) (addJ x.cs lo hi by_) e := by
  have hga := h.am.each i x hx
  have hgx := ofA_good hg (ofA_at hx)
  have HO := Lib.hid (pa_find_some h hg hx)
  have HB := Lib.hid (bare_ok hga hgx.cs hlt false (decide_eq_false fun k => k hc))
  have d0 : decide (lo ≥ hi) = false := decide_eq_false (by omega)
  have HA := Lib.hid hga
  have HK := Lib.hid (fun W (k : w.grownBy W none) => spOk.add (hga.grow dsS k).d hgx.cs lo hi by_ hlo hhi hby)
  clear h hx hga hgx hlt hc hlo hhi hby
  go_enter Try.func38, Try.ntmps38
  go_wp2_with fail
  refine HO.out.mono ?_
  rintro e w2 ⟨rfl, e2⟩
  subst w2
  go_wp2_with fail
  refine HB.out.mono ?_
  rintro e w2 ⟨rfl, g2⟩
  have ha2 := HA.out.grow dsS g2
  have c0 := ha2.at.1
  have HK2 := Lib.hid (HK.out _ g2)
  have HA2 := Lib.hid ha2
  have HG2 := Lib.hid g2
  clear g2 ha2 HK
  go_wp2_with fail
  refine HK2.out.mono ?_
  rintro e w5 ha
  obtain ⟨u5, rfl, r5, o5, h5⟩ := addA_open ha
  obtain ⟨P2, ea, -, eg, hb2, ht2, ho2⟩ := HA2.out.counts dsS h5
  obtain ⟨z, hz⟩ : ∃ z, (addJ x.cs lo hi by_).2.1 = z := ⟨_, rfl⟩
  have hs2 := HG2.out.size
  have HF := Lib.hid (show CovR w w5 x (S i) (addJ x.cs lo hi by_) (.returned (.tuple #[.pointer (some ⟨(S i).a, 0, none⟩), u5, .int .i64 z])) from ⟨u5, P2, by rw [hz], r5, fun b e => Nat.le_trans hs2 (o5 b e), ea, eg, hb2, (Turn.grown HG2.out).trans' ht2, fun b hb => by
    rcases ho2 b hb with e | e
    · exact .inl e
    · exact .inr (Nat.le_trans hs2 e)⟩)
  obtain ⟨su, cu, rfl⟩ := rowOf_form r5
  rw [hz]
  clear ha r5 o5 h5 hb2 ht2 ho2 hz
  go_wp2_with fail
  go_ret3
  exact HF.out

theorem hold_addP {L : AmL} {i : Nat} {x : AmV} {lo hi : Int} (hg : GoodA x) (hx : L[i]? = some (some x)) (hlt : lo < hi) (hc : allCov x.cs lo hi) : holdA L ((i : Int) + 1) lo hi = ⟨0, [], (addJ x.cs lo hi 1).2.1, L.set i (some ⟨(addJ x.cs lo hi 1).2.2, x.as⟩)⟩ := by
  unfold holdA
  rw [ofA_at hx]
  simp only
  unfold addJ
  have hT : turnA L ((i : Int) + 1) (some ⟨moreJ x.cs lo hi 1, x.as⟩) = L.set i (some ⟨moreJ x.cs lo hi 1, x.as⟩) := by unfold turnA; rw [show ((i : Int) + 1 - 1).toNat = i by omega]
  by_cases hm : mayJ x.cs lo hi 1
  · rw [if_pos ⟨⟨hm.1.1, hlt, by have := hm.1.2.1; have := hg.len; omega⟩, hc, hm⟩, if_pos hm, hT]
  · rw [if_neg (fun k => hm k.2.2), if_neg hm]
    congr 1
    refine List.ext_getElem? fun j => ?_
    rw [List.getElem?_set]
    by_cases e : i = j
    · subst e
      rw [if_pos rfl, if_pos (List.getElem?_eq_some_iff.1 hx).1, hx]
    · rw [if_neg e]
theorem pa_hold (h : PA w p most v L S) (hg : GoodL most L) (id lo hi : Int) (hid : okI id) (hlo : okI lo) (hhi : okI hi) : Calls Try.prog 15 #[.pointer (some ⟨p, 0, none⟩), .int .i64 id, .int .i64 lo, .int .i64 hi] w fun e w' => e = .returned (.int .i64 (holdA L id lo hi).e) ∧ ALa PAS w w' p most (blkA p v L S) (holdA L id lo hi).L := by
  have hG := holdA_good (id := id) (lo := lo) (hi := hi) hg
  rcases of_cases L id with ⟨e, -⟩ | ⟨i, x, rfl, hi', hx, e⟩
  · rw [show holdA L id lo hi = ⟨0, [], 7, L⟩ by unfold holdA; rw [e]]
    have HK := Lib.hid (pa_cover_no h hg id lo hi 1 hid hlo hhi e)
    have HR := Lib.hid (fun W (k : w.grownBy W none) => PA.same h hg k)
    clear h e hG
    go_enter Try.func15, Try.ntmps15
    go_wp2_with fail
    refine HK.out.mono ?_
    rintro e w2 ⟨rfl, g2⟩
    have HG := Lib.hid g2
    clear g2
    go_wp2_with fail
    go_ret
    exact ⟨rfl, HR.out _ HG.out⟩
  · by_cases hok : lo < hi ∧ allCov x.cs lo hi
    · have hgx := ofA_good hg e
      have hadd := hold_addP hgx hx hok.1 hok.2
      rw [hadd] at hG ⊢
      have HK := Lib.hid (pa_cover_add h hg hx lo hi 1 hlo hhi (okS (by decide) (by decide)) hok.1 hok.2)
      have HH := Lib.hid h
      have HX := Lib.hid hx
      have HG0 := Lib.hid hG
      obtain ⟨r, hr⟩ : ∃ r, addJ x.cs lo hi 1 = r := ⟨_, rfl⟩
      rw [hr] at HK HG0 ⊢
      clear h e hG hok hadd hx hgx hr
      go_enter Try.func15, Try.ntmps15
      go_wp2_with fail
      refine HK.out.mono ?_
      rintro e w2 ⟨u, P2, rfl, r5, -, ea, -, hb2, ht2, ho2⟩
      have HF := Lib.hid (PA.turned HH.out (grown_refl w none) HX.out hb2 ea ht2 ho2 HG0.out)
      obtain ⟨su, cu, rfl⟩ := rowOf_form r5
      clear r5 hb2 ht2 ho2
      go_wp2_with fail
      go_ret
      exact ⟨rfl, HF.out⟩
    · rw [show holdA L ((i : Int) + 1) lo hi = ⟨0, [], 2, L⟩ by unfold holdA; rw [e]; exact if_neg fun k => hok ⟨k.1.2.1, k.2.1⟩]
      have HK := Lib.hid (pa_cover_bad h hg hx lo hi 1 hlo hhi hok)
      have HR := Lib.hid (fun W (k : w.grownBy W none) => PA.same h hg k)
      clear h e hG hok hx
      go_enter Try.func15, Try.ntmps15
      go_wp2_with fail
      refine HK.out.mono ?_
      rintro e w2 ⟨rfl, g2⟩
      have HG := Lib.hid g2
      clear g2
      go_wp2_with fail
      go_ret
      exact ⟨rfl, HR.out _ HG.out⟩
end
end Go.Proofs.Ytfmihbiongnpnaa
