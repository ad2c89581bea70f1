/- The document's objects of layer 14: Put. -/
import Derived.Test.YtefcefclncbimaaObRef4
namespace Go.Proofs.Ytefcefclncbimaa
open Go.ChangeShapes Go.WideShapes Go.ChangeAt Go.RowKit Go.Deep
set_option linter.unusedVariables false

/-- Has the page been put already, where it belongs? And the row so far. -/
def doneO (l : PgL) (ix : Int) : Bool := l.any fun n => decide (ix ≤ n.1)
def accO (l : PgL) (ix : Int) (x : PgV) : PgL := if doneO l ix = true then insO l ix x else l
section
variable {l : PgL} {ix : Int} {x : PgV} {n : Int × PgV} {j : Nat}
theorem done_snoc : doneO (l ++ [n]) ix = (doneO l ix || decide (ix ≤ n.1)) := by unfold doneO; simp
theorem done_no (h : doneO l ix = false) : ∀ m, m ∈ l → m.1 < ix := by
  intro m hm
  unfold doneO at h
  have := List.any_eq_false.1 h m hm
  simp at this
  omega
theorem ins_low (h : ∀ m, m ∈ l → m.1 < ix) : insO l ix x = l ++ [(ix, x)] := by
  unfold insO
  rw [List.filter_eq_self.2 fun m hm => by simpa using h m hm, List.filter_eq_nil_iff.2 fun m hm => by have := h m hm; simp; omega]
theorem ins_snoc : insO (l ++ [n]) ix x = (l.filter fun m => decide (m.1 < ix)) ++ (if n.1 < ix then [n] else []) ++ (ix, x) :: ((l.filter fun m => decide (ix < m.1)) ++ if ix < n.1 then [n] else []) := by
  unfold insO
  rw [List.filter_append, List.filter_append]
  congr 1
  · congr 1
    by_cases h : n.1 < ix
    · rw [if_pos h, List.filter_cons_of_pos (by simpa using h)]; rfl
    · rw [if_neg h, List.filter_cons_of_neg (by simpa using h)]; rfl
  · congr 2
    by_cases h : ix < n.1
    · rw [if_pos h, List.filter_cons_of_pos (by simpa using h)]; rfl
    · rw [if_neg h, List.filter_cons_of_neg (by simpa using h)]; rfl
theorem acc_len : (accO l ix x).length ≤ l.length + 1 := by
  unfold accO
  split
  · rw [(ins_perm l ix x).length_eq, List.length_cons]
    exact Nat.succ_le_succ (List.length_filter_le _ _)
  · omega
/-- One page more: it is below, or the first one not below, or another one behind. -/
theorem acc_low (hd : doneO l ix = false) (h : n.1 < ix) : doneO (l ++ [n]) ix = false ∧ accO (l ++ [n]) ix x = accO l ix x ++ [n] := by
  have e : doneO (l ++ [n]) ix = false := by rw [done_snoc, hd]; simp; omega
  refine ⟨e, ?_⟩
  unfold accO
  rw [e, hd]
  rfl
theorem acc_here (hd : doneO l ix = false) (h : n.1 = ix) : doneO (l ++ [n]) ix = true ∧ accO (l ++ [n]) ix x = accO l ix x ++ [(ix, x)] := by
  have e : doneO (l ++ [n]) ix = true := by rw [done_snoc, hd]; simp; omega
  refine ⟨e, ?_⟩
  unfold accO
  rw [e, hd, if_pos rfl, if_neg (by decide), ins_snoc, if_neg (by omega), if_neg (by omega)]
  rw [List.filter_eq_self.2 fun m hm => by simpa using done_no hd m hm, List.filter_eq_nil_iff.2 fun m hm => by have := done_no hd m hm; simp; omega]
  simp
theorem acc_over (hd : doneO l ix = false) (h : ix < n.1) : doneO (l ++ [n]) ix = true ∧ accO (l ++ [n]) ix x = accO l ix x ++ [(ix, x)] ++ [n] := by
  have e : doneO (l ++ [n]) ix = true := by rw [done_snoc, hd]; simp; omega
  refine ⟨e, ?_⟩
  unfold accO
  rw [e, hd, if_pos rfl, if_neg (by decide), ins_snoc, if_neg (by omega), if_pos h]
  rw [List.filter_eq_self.2 fun m hm => by simpa using done_no hd m hm, List.filter_eq_nil_iff.2 fun m hm => by have := done_no hd m hm; simp; omega]
  simp
theorem acc_more (hd : doneO l ix = true) (h : ix < n.1) : doneO (l ++ [n]) ix = true ∧ accO (l ++ [n]) ix x = accO l ix x ++ [n] := by
  have e : doneO (l ++ [n]) ix = true := by rw [done_snoc, hd]; simp
  refine ⟨e, ?_⟩
  unfold accO
  rw [e, hd, if_pos rfl, if_pos rfl, ins_snoc, if_neg (by omega), if_pos h]
  unfold insO
  simp
theorem acc_end_no (hd : doneO l ix = false) : accO l ix x ++ [(ix, x)] = insO l ix x := by
  rw [ins_low (done_no hd)]
  unfold accO
  rw [hd]
  rfl
theorem acc_end (hd : doneO l ix = true) : accO l ix x = insO l ix x := if_pos hd
/-- Behind a page that is not below stand greater ones. -/
theorem done_up (h : l.Pairwise fun a b => a.1 < b.1) (hn : l[j]? = some n) (hd : doneO (l.take j) ix = true) : ix < n.1 := by
  unfold doneO at hd
  obtain ⟨m, hm, hx⟩ := List.any_eq_true.1 hd
  have hx : ix ≤ m.1 := by simpa using hx
  obtain ⟨k, hk, e⟩ := List.mem_iff_getElem.1 hm
  rw [List.length_take] at hk
  rw [List.getElem_take] at e
  have hj := (List.getElem?_eq_some_iff.1 hn).1
  have := List.pairwise_iff_getElem.1 h k j (by omega) hj (by omega)
  rw [e] at this
  have h2 : l[j] = n := (List.getElem?_eq_some_iff.1 hn).2
  rw [h2] at this
  omega
end
theorem putP_none {L : ObL} {id ix : Int} {x : PgV} (h : ofO L id = none) : putPO L id ix x = ⟨0, 7, L⟩ := by unfold putPO; rw [h]
theorem putP_no {L : ObL} {i : Nat} {o : ObV} {ix : Int} {x : PgV} (hx : L[i]? = some (some o)) (h : ¬ (0 ≤ ix ∧ ix < 4096)) : putPO L ((i : Int) + 1) ix x = ⟨0, 2, L⟩ := by
  unfold putPO
  rw [ofO_at hx]
  exact if_neg h
theorem putP_eq {L : ObL} {i : Nat} {o : ObV} {ix : Int} {x : PgV} (hx : L[i]? = some (some o)) (h : 0 ≤ ix ∧ ix < 4096) : putPO L ((i : Int) + 1) ix x = ⟨0, 0, L.set i (some ⟨o.file, o.re, insO o.L ix x⟩)⟩ := by
  unfold putPO
  rw [ofO_at hx]
  simp only
  rw [if_pos h, turnO_nat]
section
variable {w w' : World} {q most : Nat} {v : Value} {L : ObL} {S : Nat → ObP}
set_option maxHeartbeats 1000000 in
theorem ro_put_no (h : RO w q most v L S) (hg : GoodOs most L) (id ix pf ps : Int) (pd : Bool) (hid : okI id) (hix : okI ix) (hno : ofO L id = none ∨ ¬ (0 ≤ ix ∧ ix < 4096)) : Calls Try.prog 16 #[.pointer (some ⟨q, 0, none⟩), .int .i64 id, .int .i64 ix, pgAgg ⟨pf, ps, pd⟩] w fun e w' => e = .returned (.int .i64 (putPO L id ix ⟨pf, ps, pd⟩).e) ∧ ALo DRO w w' q most (blkO q v L S) (putPO L id ix ⟨pf, ps, pd⟩).L := by
  have hl := Nat.le_trans hg.len hg.most
  have ga := World.grownBy_alloc w (.cells #[.int .i64 pf, .int .i64 ps, .bool pd] 42 (0, 0)) none
  have hA := h.grow rpdOk ga
  have HS := Lib.hid (DRO.same h hg ga)
  unfold pgAgg
  simp only
  rcases of_cases L id with ⟨e, -⟩ | ⟨i, x, rfl, hi2, hx, e⟩
  · rw [putP_none e]
    have HO := Lib.hid (ro_object_none hA hl hid e)
    have hq := eql_rob
    clear h e hg hno hA ga
    go_enter Try.func16, Try.ntmps16
    go_wp2_with fail
    refine HO.out.mono ?_
    rintro e w2 ⟨rfl, e2⟩
    subst w2
    go_wp2_with fail
    go_ret
    exact ⟨rfl, HS.out⟩
  · have hr : ¬ (0 ≤ ix ∧ ix < 4096) := by
      rcases hno with h1 | h1
      · rw [h1] at e; cases e
      · exact h1
    rw [putP_no hx hr]
    have HO := Lib.hid (ro_object_some hA hl hx)
    have hq := eql_rob
    have dd : decide (ix < 0) = true ∨ (decide (ix < 0) = false ∧ decide (ix ≥ 4096) = true) := by
      simp only [decide_eq_true_eq, decide_eq_false_iff_not]
      omega
    clear h e hg hno hA ga hx hid hr
    rcases dd with d0 | ⟨d0, d1⟩
    all_goals
      go_enter Try.func16, Try.ntmps16
      go_wp2_with fail
      refine HO.out.mono ?_
      rintro e w2 ⟨rfl, e2⟩
      subst w2
      go_wp2_with fail
      go_ret
      exact ⟨rfl, HS.out⟩
/-- A row in the making, one page more, behind some other block. -/
theorem TMk.next {w wr : World} {v : Value} {xs : PgL} (h : TMk w wr v xs) (o : Obj) : TMk w (wr.alloc o) v xs := MkOf.grow h (World.grownBy_alloc wr o none)
theorem push_keeps {w wr w9 : World} {v : Value} {xs : PgL} {o o2 : Obj} (h : TMk w wr v xs) (k : ((wr.alloc o).alloc o2).grownBy w9 v.ownBlock) : w9.heap[wr.heap.size]? = some o := by
  rw [k.block wr.heap.size (by rw [World.size_alloc, World.size_alloc]; omega) (fun e => by have := (OwnOf.lt h.own e.symm).2; omega)]
  exact ((World.grownBy_alloc (wr.alloc o) o2 none).block wr.heap.size (by rw [World.size_alloc]; omega) (by simp)).trans (heap_alloc_new wr o)
set_option maxHeartbeats 4000000 in
theorem ro_put_yes (h : RO w q most v L S) (hg : GoodOs most L) {i : Nat} {x : ObV} (hx : L[i]? = some (some x)) (ix pf ps : Int) (pd : Bool) (hix : 0 ≤ ix ∧ ix < 4096) : Calls Try.prog 16 #[.pointer (some ⟨q, 0, none⟩), .int .i64 ((i : Int) + 1), .int .i64 ix, pgAgg ⟨pf, ps, pd⟩] w fun e w' => e = .returned (.int .i64 (putPO L ((i : Int) + 1) ix ⟨pf, ps, pd⟩).e) ∧ ALo DRO w w' q most (blkO q v L S) (putPO L ((i : Int) + 1) ix ⟨pf, ps, pd⟩).L := by
  have hl := Nat.le_trans hg.len hg.most
  have hi2 := (List.getElem?_eq_some_iff.1 hx).1
  have hrg := put_good hg ((i : Int) + 1) ix ⟨pf, ps, pd⟩
  rw [putP_eq hx hix] at hrg ⊢
  have HRg := Lib.hid hrg
  have ga := World.grownBy_alloc w (.cells #[.int .i64 pf, .int .i64 ps, .bool pd] 42 (0, 0)) none
  have hB := PB.new w 42 ⟨pf, ps, pd⟩
  simp only at hB
  have hA := h.grow rpdOk ga
  have hps := (ofO_good hg (ofO_at hx)).ps
  have hlen := hps.len
  have hHO := ro_object_some hA hl hx
  have hbx := hA.am.each i x hx
  have c2 := hbx.at.2.2
  obtain ⟨sv, cv, hv⟩ := rowOf_form (OwnOf.row hbx.d.1)
  have hrow := OwnOf.row hbx.d.1
  rw [hv] at c2 hrow
  obtain ⟨n, hn⟩ : ∃ n, x.L.length = n := ⟨_, rfl⟩
  rw [hn] at c2 hrow hlen
  have HW := Lib.hid hrow
  have HO := Lib.hid hHO
  have HX := Lib.hid hx
  have HU := Lib.hid hps.up
  have HNl := Lib.hid hn
  have HA := Lib.hid hA
  have GA := Lib.hid ga
  have HB := Lib.hid hB
  have hq := eql_rob
  have d0 : decide (ix < 0) = false := decide_eq_false (by omega)
  have d1 : decide (ix ≥ 4096) = false := decide_eq_false (by omega)
  unfold pgAgg
  simp only
  have hsz : (w.alloc (.cells #[.int .i64 pf, .int .i64 ps, .bool pd] 42 (0, 0))).heap.size = w.heap.size + 1 := by simp
  generalize hW0 : w.alloc (.cells #[.int .i64 pf, .int .i64 ps, .bool pd] 42 (0, 0)) = w0 at *
  clear h hg hrg ga hB hA hps hHO hbx hv hrow hn hx
  go_enter Try.func16, Try.ntmps16
  go_wp2_with fail
  refine HO.out.mono ?_
  rintro e w2 ⟨rfl, e2⟩
  subst w2
  go_wp2_with fail
  go_loopw [10, 11, 32] (fun uv dv iv wr => ∃ j : Nat, j ≤ n ∧ dv = .bool (doneO (x.L.take j) ix) ∧ iv = .int .i64 j ∧ Hid (TMk w0 wr uv (accO (x.L.take j) ix ⟨pf, ps, pd⟩))) (fun _ _ iv _ => n - (intOf iv).toNat)
  case atStart => exact ⟨0, by omega, rfl, rfl, MkOf.nil w0⟩
  case round =>
    obtain ⟨j, hj, rfl, rfl, HM⟩ := hrel
    have hbp := HB.out.grow HM.out.grown
    by_cases hlt : j < n
    · obtain ⟨⟨n0, f0, z0, dd0⟩, hn⟩ : ∃ n, x.L[j]? = some n := ⟨_, List.getElem?_eq_getElem (by rw [HNl.out]; exact hlt)⟩
      obtain ⟨g, o, cc, hvv, k0, k1, k2, k3⟩ := t_cells (rowOf_grow (show RowOf atCells 4 w0 (.slice sv x.L.length cv) x.L by rw [HNl.out]; exact HW.out) HM.out.grown) hn
      injection hvv with e1 e2 e3
      subst e1 e3
      simp only at k0 k1 k2 k3
      have htk := takel_at hn
      have hal := acc_len (l := x.L.take j) (ix := ix) (x := ⟨pf, ps, pd⟩)
      rw [List.length_take] at hal
      have hws : w0.heap.size ≤ wr.heap.size := HM.out.grown.size
      have gb := World.grownBy_alloc wr (.cells #[.int .i64 n0, .int .i64 f0, .int .i64 z0, .bool dd0] 58 (0, 0)) none
      have hbp1 := hbp.grow gb
      obtain ⟨Z, hZ⟩ : ∃ Z, accO (x.L.take j) ix ⟨pf, ps, pd⟩ = Z := ⟨_, rfl⟩
      rw [hZ] at HM hal
      have HM2 := Lib.hid (MkOf.grow HM.out gb)
      obtain ⟨sa, sc, hu⟩ := OwnOf.form HM.out.own
      subst hu
      have hsz1 : (wr.alloc (.cells #[.int .i64 n0, .int .i64 f0, .int .i64 z0, .bool dd0] 58 (0, 0))).heap.size = wr.heap.size + 1 := by simp
      cases hdn : doneO (x.L.take j) ix with
      | true =>
        have hup := done_up HU.out hn hdn
        simp only at hup
        have hstep := acc_more (x := ⟨pf, ps, pd⟩) (n := (n0, ⟨f0, z0, dd0⟩)) hdn hup
        rw [← htk] at hstep
        have HC := Lib.hid hstep.2
        have HD := Lib.hid hstep.1
        rw [hZ] at HC
        have d2 : decide (n0 ≥ ix) = true := decide_eq_true (by omega)
        have d3 : (n0 != ix) = true := by simp; omega
        clear c2 hstep hZ hn gb HM htk hbp hbp1 hup hdn
        go_wp2_with (at_builtin; refine wpList_tpush (wr.alloc (.cells #[.int .i64 n0, .int .i64 f0, .int .i64 z0, .bool dd0] 58 (0, 0))) rfl _ _ rfl w0.heap.size (.slice sa Z.length sc) Z n0 f0 z0 dd0 rfl HM2.out.own (wr.heap.size + 1) 1 rfl (by simp) (by omega) (by omega) ?_; intro g9 c9 w9 hown9 hgrow9; have HN := Lib.hid (MkOf.app HM2.out hgrow9 hown9); clear hown9 hgrow9)
        go_roundw
        case rel => exact ⟨j + 1, by omega, by rw [HD.out], by go_num, by rw [HC.out]; exact HN⟩
        case measure => simp [intOf]; omega
      | false =>
        rcases Int.lt_trichotomy n0 ix with hlo | hlo | hlo
        · have hstep := acc_low (x := ⟨pf, ps, pd⟩) (n := (n0, ⟨f0, z0, dd0⟩)) hdn hlo
          rw [← htk] at hstep
          have HC := Lib.hid hstep.2
          have HD := Lib.hid hstep.1
          rw [hZ] at HC
          have d2 : decide (n0 ≥ ix) = false := decide_eq_false (by omega)
          have d3 : (n0 != ix) = true := by simp; omega
          clear c2 hstep hZ hn gb HM htk hbp hbp1 hdn
          go_wp2_with (at_builtin; refine wpList_tpush (wr.alloc (.cells #[.int .i64 n0, .int .i64 f0, .int .i64 z0, .bool dd0] 58 (0, 0))) rfl _ _ rfl w0.heap.size (.slice sa Z.length sc) Z n0 f0 z0 dd0 rfl HM2.out.own (wr.heap.size + 1) 1 rfl (by simp) (by omega) (by omega) ?_; intro g9 c9 w9 hown9 hgrow9; have HN := Lib.hid (MkOf.app HM2.out hgrow9 hown9); clear hown9 hgrow9)
          go_roundw
          case rel => exact ⟨j + 1, by omega, by rw [HD.out], by go_num, by rw [HC.out]; exact HN⟩
          case measure => simp [intOf]; omega
        · subst hlo
          have hstep := acc_here (x := ⟨pf, ps, pd⟩) (n := (n0, ⟨f0, z0, dd0⟩)) (ix := n0) hdn rfl
          rw [← htk] at hstep
          have HC := Lib.hid hstep.2
          have HD := Lib.hid hstep.1
          rw [hZ] at HC
          have d2 : decide (n0 ≥ n0) = true := decide_eq_true (by omega)
          obtain ⟨b0, b1, b2⟩ := hbp1.at
          clear c2 hstep hZ hn gb htk hbp hbp1 hdn
          go_wp2_with (at_builtin; refine wpList_tpush (wr.alloc (.cells #[.int .i64 n0, .int .i64 f0, .int .i64 z0, .bool dd0] 58 (0, 0))) rfl _ _ rfl w0.heap.size (.slice sa Z.length sc) Z n0 pf ps pd rfl HM2.out.own (wr.heap.size + 1) 1 rfl (by simp) (by omega) (by omega) ?_; intro g9 c9 w9 hown9 hgrow9; have HN := Lib.hid (MkOf.app HM2.out hgrow9 hown9); have hk9 := push_keeps HM.out hgrow9; have k90 : w9.cell? ⟨wr.heap.size, 0, none⟩ = some (.int .i64 n0) := (by rw [cell_of_row _ _ _ _ _ _ hk9]; rfl); have k91 : w9.cell? ⟨wr.heap.size, 1, none⟩ = some (.int .i64 f0) := (by rw [cell_of_row _ _ _ _ _ _ hk9]; rfl); have k92 : w9.cell? ⟨wr.heap.size, 2, none⟩ = some (.int .i64 z0) := (by rw [cell_of_row _ _ _ _ _ _ hk9]; rfl); have k93 : w9.cell? ⟨wr.heap.size, 3, none⟩ = some (.bool dd0) := (by rw [cell_of_row _ _ _ _ _ _ hk9]; rfl); have hz9 := HN.out.grown.size; clear hown9 hgrow9 hk9)
          go_roundw
          case rel => exact ⟨j + 1, by omega, by rw [HD.out], by go_num, by rw [HC.out]; exact HN⟩
          case measure => simp [intOf]; omega
        · have hstep := acc_over (x := ⟨pf, ps, pd⟩) (n := (n0, ⟨f0, z0, dd0⟩)) hdn hlo
          rw [← htk] at hstep
          have HC := Lib.hid hstep.2
          have HD := Lib.hid hstep.1
          rw [hZ] at HC
          have d2 : decide (n0 ≥ ix) = true := decide_eq_true (by omega)
          have d3 : (n0 != ix) = true := by simp; omega
          obtain ⟨b0, b1, b2⟩ := hbp1.at
          clear c2 hstep hZ hn gb htk hbp hbp1 hdn
          go_wp2_with (first
            | (at_builtin; refine wpList_tpush (wr.alloc (.cells #[.int .i64 n0, .int .i64 f0, .int .i64 z0, .bool dd0] 58 (0, 0))) rfl _ _ rfl w0.heap.size (.slice sa Z.length sc) Z ix pf ps pd rfl HM2.out.own (wr.heap.size + 1) 1 rfl (by simp) (by omega) (by omega) ?_; intro g9 c9 w9 hown9 hgrow9; have HN := Lib.hid (MkOf.app HM2.out hgrow9 hown9); have hk9 := push_keeps HM.out hgrow9; have k90 : w9.cell? ⟨wr.heap.size, 0, none⟩ = some (.int .i64 n0) := (by rw [cell_of_row _ _ _ _ _ _ hk9]; rfl); have k91 : w9.cell? ⟨wr.heap.size, 1, none⟩ = some (.int .i64 f0) := (by rw [cell_of_row _ _ _ _ _ _ hk9]; rfl); have k92 : w9.cell? ⟨wr.heap.size, 2, none⟩ = some (.int .i64 z0) := (by rw [cell_of_row _ _ _ _ _ _ hk9]; rfl); have k93 : w9.cell? ⟨wr.heap.size, 3, none⟩ = some (.bool dd0) := (by rw [cell_of_row _ _ _ _ _ _ hk9]; rfl); have HT9 : TOwn w9 w0.heap.size (.slice (some ⟨g9, 0, none⟩) (Z.length + 1) c9) (Z ++ [(ix, (⟨pf, ps, pd⟩ : PgV))]) := HN.out.own; have hz9 := HN.out.grown.size; clear hown9 hgrow9 hk9)
            | (at_builtin; refine wpList_tpush w9 rfl _ _ rfl w0.heap.size (.slice (some ⟨g9, 0, none⟩) (Z.length + 1) c9) (Z ++ [(ix, (⟨pf, ps, pd⟩ : PgV))]) n0 f0 z0 dd0 rfl HT9 w9.heap.size 1 rfl rfl (by rw [List.length_append, List.length_cons, List.length_nil]; omega) hz9 ?_; intro g8 c8 w8 hown8 hgrow8; have HN8 := Lib.hid (MkOf.app HN.out hgrow8 hown8); clear hown8 hgrow8))
          go_roundw
          case rel => exact ⟨j + 1, by omega, by rw [HD.out], by go_num, by rw [HC.out]; have h8 := HN8; rw [List.length_append] at h8; exact h8⟩
          case measure => simp [intOf]; omega
    · obtain rfl : j = n := by omega
      have htk : x.L.take j = x.L := by rw [← HNl.out, List.take_length]
      rw [htk] at HM ⊢
      have hal := acc_len (l := x.L) (ix := ix) (x := ⟨pf, ps, pd⟩)
      rw [HNl.out] at hal
      cases hdn : doneO x.L ix with
      | true =>
        have he := acc_end (x := ⟨pf, ps, pd⟩) hdn
        rw [he] at HM
        obtain ⟨sa, sc, hu⟩ := OwnOf.form HM.out.own
        subst hu
        obtain ⟨S', r1, r2, r3, r4, zf, cf⟩ := relist HA.out HX.out HM.out
        have R1 := Lib.hid r1
        have R3 := Lib.hid r3
        have R4 := Lib.hid r4
        clear c2 he hdn htk HM r1 r3 r4 hbp
        go_wp2_with fail
        go_ret
        exact ⟨rfl, _, ⟨v, _, R1.out, HRg.out, rfl⟩, (Turn.grown GA.out).trans' R3.out, fun b hb => (R4.out b hb).imp id fun k => Nat.le_trans GA.out.size k⟩
      | false =>
        have he := acc_end_no (x := ⟨pf, ps, pd⟩) hdn
        obtain ⟨Z, hZ⟩ : ∃ Z, accO x.L ix ⟨pf, ps, pd⟩ = Z := ⟨_, rfl⟩
        rw [hZ] at HM he hal
        have HE := Lib.hid he
        obtain ⟨sa, sc, hu⟩ := OwnOf.form HM.out.own
        subst hu
        obtain ⟨b0, b1, b2⟩ := hbp.at
        have hws : w0.heap.size ≤ wr.heap.size := HM.out.grown.size
        have hlast : ∀ (g9 c9 : Nat) (w9 : World), TMk w0 w9 (.slice (some ⟨g9, 0, none⟩) (Z.length + 1) c9) (Z ++ [(ix, ⟨pf, ps, pd⟩)]) → ∃ S', Hid (RO (w9.setCell ⟨(S i).a, 2, none⟩ (.slice (some ⟨g9, 0, none⟩) (Z.length + 1) c9)) q most v (L.set i (some ⟨x.file, x.re, insO x.L ix ⟨pf, ps, pd⟩⟩)) S') ∧ Hid (Turn (blkO q v L S) w0 (w9.setCell ⟨(S i).a, 2, none⟩ (.slice (some ⟨g9, 0, none⟩) (Z.length + 1) c9))) ∧ Hid (∀ b, b ∈ blkO q v (L.set i (some ⟨x.file, x.re, insO x.L ix ⟨pf, ps, pd⟩⟩)) S' → b ∈ blkO q v L S ∨ w0.heap.size ≤ b) ∧ w9.frozen? ⟨(S i).a, 2, none⟩ = false ∧ w9.cell? ⟨(S i).a, 2, none⟩ = some (S i).v := by
          intro g9 c9 w9 hm9
          obtain ⟨S', r1, r2, r3, r4, zf, cf⟩ := relist HA.out HX.out hm9
          rw [HE.out] at r1 r4
          exact ⟨S', r1, r3, r4, zf, cf⟩
        have HLs := Lib.hid hlast
        clear c2 hZ hdn htk hbp he hlast
        go_wp2_with (at_builtin; refine wpList_tpush wr rfl _ _ rfl w0.heap.size (.slice sa Z.length sc) Z ix pf ps pd rfl HM.out.own wr.heap.size 1 rfl rfl (by omega) hws ?_; intro g9 c9 w9 hown9 hgrow9; obtain ⟨S', R1, R3, R4, zf, cf⟩ := HLs.out g9 c9 w9 (MkOf.app HM.out hgrow9 hown9); clear hown9 hgrow9)
        go_ret
        exact ⟨rfl, _, ⟨v, _, R1.out, HRg.out, rfl⟩, (Turn.grown GA.out).trans' R3.out, fun b hb => (R4.out b hb).imp id fun k => Nat.le_trans GA.out.size k⟩
theorem ro_put (h : RO w q most v L S) (hg : GoodOs most L) (id ix pf ps : Int) (pd : Bool) (hid : okI id) (hix : okI ix) : Calls Try.prog 16 #[.pointer (some ⟨q, 0, none⟩), .int .i64 id, .int .i64 ix, pgAgg ⟨pf, ps, pd⟩] w fun e w' => e = .returned (.int .i64 (putPO L id ix ⟨pf, ps, pd⟩).e) ∧ ALo DRO w w' q most (blkO q v L S) (putPO L id ix ⟨pf, ps, pd⟩).L := by
  rcases of_cases L id with ⟨e, -⟩ | ⟨i, x, rfl, hi2, hx, e⟩
  · exact ro_put_no h hg id ix pf ps pd hid hix (.inl e)
  · by_cases hr : 0 ≤ ix ∧ ix < 4096
    · exact ro_put_yes h hg hx ix pf ps pd hr
    · exact ro_put_no h hg _ ix pf ps pd hid hix (.inr hr)
end
end Go.Proofs.Ytefcefclncbimaa
