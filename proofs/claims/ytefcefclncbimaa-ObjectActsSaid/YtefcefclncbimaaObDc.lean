/- Package object (landed): Get, Put, Drop, Make, New. -/
import Derived.Test.YtefcefclncbimaaObDb
import Derived.BigQuiet
namespace Go.Proofs.Ytefcefclncbimaa
open Go.ChangeShapes Go.WideShapes Go.ChangeAt Go.RowKit Go.Deep
set_option linter.unusedVariables false

section
variable {w w' w2 : World} {p most M1 M2 i : Nat} {L : ObL} {S : Nat → ObP} {x : ObV}
set_option maxHeartbeats 1000000 in
theorem po_get (h : PO w p most M1 M2 L S) (hg : GoodOs most L) (id ix : Int) (hid : okI id) (hix : okI ix) : Calls Try.prog 19 #[.pointer (some ⟨p, 0, none⟩), .int .i64 id, .int .i64 ix] w fun e w' => e = .returned (getVO (getO L id ix)) ∧ w.grownBy w' none := by
  have ga := World.grownBy_alloc w (.cells #[.int .i64 0, .int .i64 0, .bool false] 30 (0, 0)) none
  have hA := h.grow ga
  have hB := PB.new w 30 zeroP
  unfold zeroP at hB
  simp only at hB
  generalize hwA : w.alloc (.cells #[.int .i64 0, .int .i64 0, .bool false] 30 (0, 0)) = wA at *
  have HB := Lib.hid hB
  have HG := Lib.hid ga
  have HS := Lib.hid (Nat.le_refl w.heap.size)
  rcases of_cases L id with ⟨e, -⟩ | ⟨i, x, rfl, hi, hx, e⟩
  · rw [show getO L id ix = none by unfold getO; rw [e]]
    have HO := Lib.hid (po_find_none hA hid e)
    obtain ⟨b0, b1, b2⟩ := hB.at
    have z0 := hB.frozen 0
    have z1 := hB.frozen 1
    have z2 := hB.frozen 2
    unfold getVO pgAgg zeroP
    simp only
    clear h hA hB ga e
    go_enter Try.func19, Try.ntmps19
    go_wp2_with fail
    refine HO.out.mono ?_
    rintro e w2 ⟨rfl, e2⟩
    subst w2
    go_wp2_with fail
    refine bodyPost_ret (results_pair_tmp rfl _ _ w.heap.size _ #[.int .i64 0, .int .i64 0, .bool false] (0, 0) _ rfl (heap_page _ _ _ _ _ _ HB.out) Try.underlying30 (by kernel_rfl) (by kernel_rfl)) rfl ?_
    exact ⟨rfl, grown_at HG.out (grown_three _ _ _ _ _ _) HS.out⟩
  · rw [show getO L ((i : Int) + 1) ix = lookO x.L ix by unfold getO; rw [e]]
    have HO := Lib.hid (po_find_some hA hx)
    have hob := hA.am.each i x hx
    have c2 := hob.at.2.2
    obtain ⟨M, hv, hm, -⟩ := hA.pages hx
    rw [hv] at c2
    have hps := (ofO_good hg e).ps
    have key : ∃ (f s : Int) (d : Bool) (ok : Bool), getVO (lookO x.L ix) = .tuple #[.agg #[.int .i64 f, .int .i64 s, .bool d], .bool ok] ∧ (Instr.lookup 77 (.map (some M)) (.int .i64 ix) true).run Try.prog wA = .ok (.tuple #[.agg #[.int .i64 f, .int .i64 s, .bool d], .bool ok]) wA := by
      cases hl : lookO x.L ix with
      | none => exact ⟨0, 0, false, false, rfl, hm.ok_no lawsP (look_none hl) hix⟩
      | some y => exact ⟨y.fr, y.sl, y.d, true, rfl, hm.ok_yes lawsP hps.nodup (look_some hl) hix⟩
    obtain ⟨f, s, d, ok, hgv, hk⟩ := key
    rw [hgv]
    have g2 := World.grownBy_alloc wA (.cells #[.int .i64 f, .int .i64 s, .bool d] 30 (0, 0)) none
    have hB2 := hB.grow g2
    obtain ⟨b0, b1, b2⟩ := hB2.at
    have z0 := hB2.frozen 0
    have z1 := hB2.frozen 1
    have z2 := hB2.frozen 2
    have HB2 := Lib.hid hB2
    clear h hA hB ga e hx hob hm hv hps hgv g2 hB2 hid hix hg
    go_enter Try.func19, Try.ntmps19
    go_wp2_with fail
    refine HO.out.mono ?_
    rintro e w2 ⟨rfl, e2⟩
    subst w2
    go_wp2_with fail
    refine bodyPost_ret (results_pair_tmp rfl _ _ w.heap.size _ #[.int .i64 f, .int .i64 s, .bool d] (0, 0) _ rfl (heap_page _ _ _ _ _ _ HB2.out) Try.underlying30 (by kernel_rfl) (by kernel_rfl)) rfl ?_
    exact ⟨rfl, grown_at (grown_trans HG.out (World.grownBy_alloc _ _ none)) (grown_three _ _ _ _ _ _) HS.out⟩

/-- The pages turn, in their map. -/
theorem PO.repage (h : PO w p most M1 M2 L S) (hx : L[i]? = some (some x)) {M : Nat} {l : PgL} (hv : (S i).v = .map (some M)) (hO : (S i).O = [M]) (hm : MapV pgAgg w' M l) (g : w.grownBy w' (some M)) :
    PO w' p most M1 M2 (L.set i (some ⟨x.file, x.re, l⟩)) (updO S i (S i)) ∧ Turn (blkM p M1 M2 L S) w w' ∧ ∀ b, b ∈ blkM p M1 M2 (L.set i (some ⟨x.file, x.re, l⟩)) (updO S i (S i)) → b ∈ blkM p M1 M2 L S ∨ w.heap.size ≤ b := by
  have hob := h.am.each i x hx
  have hne : (S i).a ≠ M := fun e => hob.aO (by rw [hO, ← e]; simp)
  exact h.turned hx ⟨(g.block _ hob.alt fun e => hne (Option.some.inj e)).trans hob.head, ⟨M, hv, hm, hO⟩, hob.aO⟩ rfl rfl (Turn.one g (ObP.mem.2 (.inr (by rw [hO]; simp)))) fun b hb => .inl hb

set_option maxHeartbeats 1000000 in
theorem po_put (h : PO w p most M1 M2 L S) (hg : GoodOs most L) (id ix pf ps : Int) (pd : Bool) (hid : okI id) (hix : okI ix) : Calls Try.prog 15 #[.pointer (some ⟨p, 0, none⟩), .int .i64 id, .int .i64 ix, pgAgg ⟨pf, ps, pd⟩] w fun e w' => e = .returned (.int .i64 (putPO L id ix ⟨pf, ps, pd⟩).e) ∧ ALo DLO w w' p most (blkM p M1 M2 L S) (putPO L id ix ⟨pf, ps, pd⟩).L := by
  have hrg := put_good hg id ix ⟨pf, ps, pd⟩
  have ga := World.grownBy_alloc w (.cells #[.int .i64 pf, .int .i64 ps, .bool pd] 30 (0, 0)) none
  have hA := h.grow ga
  have hB := PB.new w 30 ⟨pf, ps, pd⟩
  have HS := Lib.hid (h.same hg ga)
  unfold pgAgg
  simp only
  rcases of_cases L id with ⟨e, -⟩ | ⟨i, x, rfl, hi, hx, e⟩
  · rw [putP_none e]
    have HO := Lib.hid (po_find_none hA hid e)
    clear h hA hB ga e hg hrg
    go_enter Try.func15, Try.ntmps15
    go_wp2_with fail
    refine HO.out.mono ?_
    rintro e w2 ⟨rfl, e2⟩
    subst w2
    go_wp2_with fail
    go_ret
    exact ⟨rfl, HS.out⟩
  · have HO := Lib.hid (po_find_some hA hx)
    by_cases hr : 0 ≤ ix ∧ ix < 4096
    · rw [putP_eq hx hr] at hrg ⊢
      have HRg := Lib.hid hrg
      have hob := hA.am.each i x hx
      have c2 := hob.at.2.2
      obtain ⟨M, hv, hm, hO⟩ := hA.pages hx
      rw [hv] at c2
      obtain ⟨b0, b1, b2⟩ := hB.at
      simp only at b0 b1 b2
      have hps := (ofO_good hg e).ps
      have hmd : MapV pgAgg (w.alloc (.cells #[.int .i64 pf, .int .i64 ps, .bool pd] 30 (0, 0))).drew M x.L := hm.kept rfl
      obtain ⟨w3, r3, k3, g3⟩ := hmd.put lawsP (by have := hps.len; omega) ⟨pf, ps, pd⟩ hix
      have k4 : MapV pgAgg w3 M (insO x.L ix ⟨pf, ps, pd⟩) := k3.perm (ins_perm x.L ix ⟨pf, ps, pd⟩).symm
      have hAd : PO (w.alloc (.cells #[.int .i64 pf, .int .i64 ps, .bool pd] 30 (0, 0))).drew p most M1 M2 L S := hA.grow (grown_drew1 _)
      have HM := Lib.hid (hAd.repage hx hv hO k4 g3)
      have HGA := Lib.hid (grown_trans ga (grown_drew1 _))
      unfold pgAgg at r3
      simp only at r3
      have d0 : decide (ix < 0) = false := decide_eq_false (by omega)
      have d1 : decide (ix ≥ 4096) = false := decide_eq_false (by omega)
      clear h hA hB ga e hg hrg hx hob hm hv hO hps hmd k3 g3 k4 hAd hr hid hix
      go_enter Try.func15, Try.ntmps15
      go_wp2_with fail
      refine HO.out.mono ?_
      rintro e w2 ⟨rfl, e2⟩
      subst w2
      go_wp2_with fail
      go_region
      go_wp2_with fail
      go_ret
      obtain ⟨m1, m2, m3⟩ := HM.out
      exact ⟨rfl, _, ⟨M1, M2, _, m1, HRg.out, rfl⟩, (Turn.grown HGA.out).trans' m2, fun b hb => (m3 b hb).imp id fun k => Nat.le_trans HGA.out.size k⟩
    · rw [putP_no hx hr]
      have dd : decide (ix < 0) = true ∨ (decide (ix < 0) = false ∧ decide (ix ≥ 4096) = true) := by
        simp only [decide_eq_true_eq, decide_eq_false_iff_not]
        omega
      clear h hA hB ga e hg hrg hx hr
      rcases dd with d0 | ⟨d0, d1⟩
      all_goals
        go_enter Try.func15, Try.ntmps15
        go_wp2_with fail
        refine HO.out.mono ?_
        rintro e w2 ⟨rfl, e2⟩
        subst w2
        go_wp2_with fail
        go_ret
        exact ⟨rfl, HS.out⟩

set_option maxHeartbeats 1000000 in
theorem po_drop (h : PO w p most M1 M2 L S) (hg : GoodOs most L) (id ix : Int) (hid : okI id) (hix : okI ix) : Calls Try.prog 17 #[.pointer (some ⟨p, 0, none⟩), .int .i64 id, .int .i64 ix] w fun e w' => e = .returned (.bool (getO L id ix).isSome) ∧ ALo DLO w w' p most (blkM p M1 M2 L S) (dropL L id ix) := by
  have HG := Lib.hid (po_get h hg id ix hid hix)
  cases hgt : getO L id ix with
  | none =>
    rw [drop_no hgt]
    rw [hgt] at HG
    unfold getVO pgAgg zeroP at HG
    have HS := Lib.hid (fun w' => PO.same (w' := w') h hg)
    clear h hg hgt
    go_enter Try.func17, Try.ntmps17
    go_wp2_with fail
    refine HG.out.mono ?_
    rintro e w2 ⟨rfl, g2⟩
    have G2 := Lib.hid g2
    clear g2
    go_wp2_with fail
    go_ret
    exact ⟨rfl, HS.out _ (grown_trans G2.out (World.grownBy_alloc _ _ none))⟩
  | some y =>
    rcases of_cases L id with ⟨e, -⟩ | ⟨i, x, rfl, hi2, hx, e⟩
    · unfold getO at hgt; rw [e] at hgt; cases hgt
    · have hrg := drop_good hg ((i : Int) + 1) ix
      rw [drop_eq hx hgt] at hrg ⊢
      have HRg := Lib.hid hrg
      rw [hgt] at HG
      obtain ⟨f, z, d⟩ := y
      unfold getVO pgAgg at HG
      simp only at HG
      have hgo := ofO_good hg e
      have HGo := Lib.hid hgo
      have HR := Lib.hid h
      have HX := Lib.hid hx
      have h4 := h.len
      clear h hg hgt e hrg hid hx hgo
      go_enter Try.func17, Try.ntmps17
      go_wp2_with fail
      refine HG.out.mono ?_
      rintro e w2 ⟨rfl, g2⟩
      have ga := World.grownBy_alloc w2 (.cells #[.int .i64 f, .int .i64 z, .bool d] 30 (0, 0)) none
      have g3 := grown_trans g2 ga
      have h3 := HR.out.grow g3
      have cm1 := h3.at.2.1
      have hk : (Instr.lookup 65 (.map (some M1)) (.int .i64 ((i : Int) + 1)) false).run Try.prog (w2.alloc (.cells #[.int .i64 f, .int .i64 z, .bool d] 30 (0, 0))) = .ok (.pointer (some ⟨(S i).a, 0, none⟩)) (w2.alloc (.cells #[.int .i64 f, .int .i64 z, .bool d] 30 (0, 0))) := h3.m1.look_yes lawsO nsO_nodup (nsO_at h4 HX.out) ⟨by omega, by omega⟩
      have hob := h3.am.each i x HX.out
      have c2 := hob.at.2.2
      obtain ⟨M, hv, hm, hO⟩ := h3.pages HX.out
      rw [hv] at c2
      obtain ⟨w4, r4, k4, g4⟩ := hm.del lawsP hix 0
      have k5 : MapV pgAgg w4 M (delO x.L ix) := k4
      obtain ⟨m1, m2, m3⟩ := h3.repage HX.out hv hO k5 g4
      have hS1 : (updO S i (S i)) i = S i := updO_same
      have hT := po_settle m1 (i := i) (x := ⟨x.file, x.re, delO x.L ix⟩) (set_self hi2) ⟨by have := HGo.out.f0; show _ ≤ x.file; omega, HGo.out.f1⟩ HGo.out.r0
      rw [set_set, hS1] at hT
      have HT := Lib.hid hT
      have HM2 := Lib.hid m2
      have HM3 := Lib.hid m3
      have G3 := Lib.hid g3
      clear hT m1 m2 m3 hm hv hO k4 k5 g4 hob h3 g3 g2 ga hS1
      go_wp2_with fail
      refine HT.out.mono ?_
      rintro e w5 ⟨rfl, h5, t5, s5, -⟩
      have H5 := Lib.hid h5
      have T5 := Lib.hid t5
      have S5 := Lib.hid s5
      clear h5 t5 s5
      go_wp2_with fail
      go_ret
      exact ⟨rfl, _, ⟨M1, M2, _, H5.out, HRg.out, rfl⟩, ((Turn.grown G3.out).trans' HM2.out).trans T5.out (fun b hb => (HM3.out b hb).imp id fun k => Nat.le_trans G3.out.size k), fun b hb => (HM3.out b (S5.out b hb)).imp id fun k => Nat.le_trans G3.out.size k⟩
end
end Go.Proofs.Ytefcefclncbimaa
