/- The document's objects of layer 14: Ref, Drop. -/
import Derived.Test.YtefcefclncbimaaObRef3
namespace Go.Proofs.Ytefcefclncbimaa
open Go.ChangeShapes Go.WideShapes Go.ChangeAt Go.RowKit Go.Deep
set_option linter.unusedVariables false

/-- The document's pool, by its blocks. -/
def DRO (w : World) (q most : Nat) (L : ObL) (O : List Nat) : Prop := ∃ v S, RO w q most v L S ∧ GoodOs most L ∧ O = blkO q v L S
theorem ref_eq {L : ObL} {i : Nat} {x : ObV} {b : Int} (hx : L[i]? = some (some x)) (hm : mayO x.re b) : refO L ((i : Int) + 1) b = ⟨x.re + b, 0, L.set i (tidyO ⟨x.file, x.re + b, x.L⟩)⟩ := by
  unfold refO
  rw [ofO_at hx]
  simp only
  rw [if_pos hm, turnO_nat]
theorem ref_no {L : ObL} {i : Nat} {x : ObV} {b : Int} (hx : L[i]? = some (some x)) (hm : ¬ mayO x.re b) : refO L ((i : Int) + 1) b = ⟨0, 2, L⟩ := by
  unfold refO
  rw [ofO_at hx]
  simp only
  rw [if_neg hm]
theorem ref_none {L : ObL} {id b : Int} (h : ofO L id = none) : refO L id b = ⟨0, 7, L⟩ := by unfold refO; rw [h]
theorem set_set {L : ObL} {i : Nat} {x y : Option ObV} : (L.set i x).set i y = L.set i y := List.set_set ..
theorem set_self {L : ObL} {i : Nat} {x : ObV} (h : i < L.length) : (L.set i (some x))[i]? = some (some x) := List.getElem?_set_self h
section
variable {w w' : World} {q most : Nat} {v : Value} {L : ObL} {S : Nat → ObP}
theorem DRO.same (h : RO w q most v L S) (hg : GoodOs most L) (g : w.grownBy w' none) : ALo DRO w w' q most (blkO q v L S) L := ⟨_, ⟨v, S, h.grow rpdOk g, hg, rfl⟩, Turn.grown g, fun b hb => .inl hb⟩
set_option maxHeartbeats 1000000 in
theorem ro_ref (h : RO w q most v L S) (hg : GoodOs most L) (id b : Int) (hid : okI id) (hb0 : okI b) : Calls Try.prog 14 #[.pointer (some ⟨q, 0, none⟩), .int .i64 id, .int .i64 b] w fun e w' => e = .returned (.tuple #[.int .i64 (refO L id b).n, .int .i64 (refO L id b).e]) ∧ ALo DRO w w' q most (blkO q v L S) (refO L id b).L := by
  have hl := Nat.le_trans hg.len hg.most
  have hrg := ref_good hg id b
  rcases of_cases L id with ⟨e, -⟩ | ⟨i, x, rfl, hi2, hx, e⟩
  · rw [ref_none e]
    have HO := Lib.hid (ro_object_none h hl hid e)
    have HS := Lib.hid (DRO.same h hg (grown_refl w none))
    clear h e hg hrg
    go_enter Try.func14, Try.ntmps14
    go_wp2_with fail
    refine HO.out.mono ?_
    rintro e w2 ⟨rfl, e2⟩
    subst w2
    go_wp2_with fail
    go_ret2
    exact ⟨rfl, HS.out⟩
  · have HO := Lib.hid (ro_object_some h hl hx)
    have hb := h.am.each i x hx
    have c1 := hb.at.2.1
    have z1 := hb.frozen 1
    have hgo := ofO_good hg e
    have hr0 := hgo.r0
    have hr1 := hgo.r1
    have hq := eql_rob
    by_cases hm : mayO x.re b
    · have hw : IntKind.i64.wrap (x.re + b) = x.re + b := by have h1 := hm.1; have h2 := hm.2; rw [IntKind.wrap_i64]; omega
      rw [ref_eq hx hm] at hrg ⊢
      obtain ⟨m1, m2, m3⟩ := h.turned rpdOk hx (hb.setRe rpdOk (x.re + b)) rfl (Turn.setCell (S i).blk w (S i).a 1 _ (ObP.mem.2 (.inl rfl))) (fun b hb => .inl hb)
      have hT := ro_tidy (L := L.set i (some ⟨x.file, x.re + b, x.L⟩)) (most := most) (q := q) (v := v) (by unfold RO; rw [List.length_set]; exact m1) (by rw [List.length_set]; exact hl) (set_self (x := ⟨x.file, x.re + b, x.L⟩) hi2) hgo.ps.len
      rw [set_set] at hT
      have HT := Lib.hid hT
      have HM2 := Lib.hid m2
      have HM3 := Lib.hid m3
      have hv1 : v.ownBlock ≠ some (S i).a := fun e => h.vb _ e (mem_blks.2 ⟨i, liveO_some hx, ObP.mem.2 (.inl rfl)⟩)
      have cN : (w.setCell ⟨(S i).a, 1, none⟩ (.int .i64 (x.re + b))).cell? ⟨(S i).a, 1, none⟩ = some (.int .i64 (x.re + b)) := (hb.setRe rpdOk (x.re + b)).at.2.1
      have HRg := Lib.hid hrg
      have d0 : decide (b < -x.re) = false := decide_eq_false (by have := hm.1; omega)
      have d1 : decide (b > 1000000 - x.re) = false := decide_eq_false (by have := hm.2; omega)
      generalize hW : w.setCell ⟨(S i).a, 1, none⟩ (.int .i64 (x.re + b)) = W at *
      clear h e hg hb hT m1 m2 m3 hgo hrg hid
      go_enter Try.func14, Try.ntmps14
      go_wp2_with fail
      refine HO.out.mono ?_
      rintro e w2 ⟨rfl, e2⟩
      subst w2
      go_wp2_with fail
      refine HT.out.mono ?_
      rintro e w3 ⟨rfl, h3, t3, s3, k3⟩
      have c3 : w3.cell? ⟨(S i).a, 1, none⟩ = some (.int .i64 (x.re + b)) := by
        have := k3 _ hv1
        unfold World.cell? at cN ⊢
        rw [this]
        exact cN
      have H3 := Lib.hid h3
      have T3 := Lib.hid t3
      have S3 := Lib.hid s3
      clear h3 t3 s3 k3 cN
      go_wp2_with fail
      go_ret2
      exact ⟨rfl, _, ⟨v, _, H3.out, HRg.out, rfl⟩, HM2.out.trans T3.out HM3.out, fun b hb => HM3.out b (S3.out b hb)⟩
    · rw [ref_no hx hm]
      have HS := Lib.hid (DRO.same h hg (grown_refl w none))
      have d0 : decide (b < -x.re) = true ∨ (decide (b < -x.re) = false ∧ decide (b > 1000000 - x.re) = true) := by
        unfold mayO at hm
        simp only [decide_eq_false_iff_not, decide_eq_true_eq]
        omega
      clear h e hg hb hgo hrg hid hm
      rcases d0 with d0 | ⟨d0, d1⟩
      all_goals
        go_enter Try.func14, Try.ntmps14
        go_wp2_with fail
        refine HO.out.mono ?_
        rintro e w2 ⟨rfl, e2⟩
        subst w2
        go_wp2_with fail
        go_ret2
        exact ⟨rfl, HS.out⟩

theorem del_take {l : PgL} {j : Nat} {n : Int × PgV} {ix : Int} (h : l[j]? = some n) : delO (l.take (j + 1)) ix = delO (l.take j) ix ++ if n.1 = ix then [] else [n] := by
  rw [takel_at h]
  unfold delO
  rw [List.filter_append]
  congr 1
  by_cases e : n.1 = ix
  · rw [if_pos e, List.filter_cons_of_neg (by simpa using e)]; rfl
  · rw [if_neg e, List.filter_cons_of_pos (by simpa using e)]; rfl
theorem del_tlen {l : PgL} {j : Nat} {ix : Int} : (delO (l.take j) ix).length ≤ l.length := by
  unfold delO
  refine Nat.le_trans (List.length_filter_le _ _) ?_
  rw [List.length_take]
  omega
theorem drop_no {L : ObL} {id ix : Int} (h : getO L id ix = none) : dropL L id ix = L := by
  unfold dropL
  unfold getO at h
  cases e : ofO L id with
  | none => rfl
  | some x => rw [e] at h; exact if_pos h
theorem drop_eq {L : ObL} {i : Nat} {x : ObV} {ix : Int} {y : PgV} (hx : L[i]? = some (some x)) (h : getO L ((i : Int) + 1) ix = some y) : dropL L ((i : Int) + 1) ix = L.set i (tidyO ⟨x.file, x.re, delO x.L ix⟩) := by
  unfold dropL
  unfold getO at h
  rw [ofO_at hx] at h ⊢
  simp only at h ⊢
  rw [if_neg (by rw [h]; simp), turnO_nat]
/-- The pages are another row, made since w. -/
theorem relist {w wr : World} {q most i : Nat} {v uv : Value} {L : ObL} {S : Nat → ObP} {x : ObV} {l : PgL} (h : RO w q most v L S) (hx : L[i]? = some (some x)) (hM : TMk w wr uv l) :
    ∃ S', RO (wr.setCell ⟨(S i).a, 2, none⟩ uv) q most v (L.set i (some ⟨x.file, x.re, l⟩)) S' ∧ (S' i).a = (S i).a ∧ Turn (blkO q v L S) w (wr.setCell ⟨(S i).a, 2, none⟩ uv) ∧ (∀ b, b ∈ blkO q v (L.set i (some ⟨x.file, x.re, l⟩)) S' → b ∈ blkO q v L S ∨ w.heap.size ≤ b) ∧ wr.frozen? ⟨(S i).a, 2, none⟩ = false ∧ wr.cell? ⟨(S i).a, 2, none⟩ = some (S i).v := by
  have hb := (h.am.each i x hx).grow rpdOk hM.grown
  have ha := (h.am.each i x hx).alt
  have hnew : ∀ b, b ∈ uv.ownBlock.toList → w.heap.size ≤ b := fun b hb => (OwnOf.lt hM.own (by simpa using hb)).1
  have hb2 := hb.setL rpdOk (v := uv) (l := l) (O := uv.ownBlock.toList) ⟨OwnOf.lower hM.own (Nat.zero_le _), rfl⟩ (fun hm => by have := hnew _ hm; omega)
  obtain ⟨m1, m2, m3⟩ := h.turned rpdOk hx hb2 rfl ((Turn.grown hM.grown).trans' (Turn.setCell (S i).blk wr (S i).a 2 _ (ObP.mem.2 (.inl rfl)))) (fun b hb => by
    rcases ObP.mem.1 hb with e | e
    · exact .inl (ObP.mem.2 (.inl e))
    · exact .inr (hnew b e))
  exact ⟨_, by unfold RO; rw [List.length_set]; exact m1, by rw [updO_same], m2, m3, hb.frozen 2, hb.at.2.2⟩
set_option maxHeartbeats 2000000 in
theorem ro_drop (h : RO w q most v L S) (hg : GoodOs most L) (id ix : Int) (hid : okI id) : Calls Try.prog 18 #[.pointer (some ⟨q, 0, none⟩), .int .i64 id, .int .i64 ix] w fun e w' => e = .returned (.bool (getO L id ix).isSome) ∧ ALo DRO w w' q most (blkO q v L S) (dropL L id ix) := by
  have hl := Nat.le_trans hg.len hg.most
  have HG := Lib.hid (ro_get h hg id ix hid)
  cases hgt : getO L id ix with
  | none =>
    rw [drop_no hgt]
    rw [hgt] at HG
    unfold getVO pgAgg zeroP at HG
    have HS := Lib.hid (fun w' => DRO.same (w' := w') h hg)
    clear h hg hgt
    go_enter Try.func18, Try.ntmps18
    go_wp2_with fail
    refine HG.out.mono ?_
    rintro e w2 ⟨rfl, g2⟩
    have G2 := Lib.hid g2
    clear g2
    go_wp2_with fail
    go_ret
    exact ⟨rfl, HS.out _ (grown_trans G2.out (World.grownBy_alloc _ _ none))⟩
  | some y =>
    rcases of_cases L id with ⟨e, -⟩ | ⟨i, x, rfl, hi2, hx, e⟩
    · unfold getO at hgt; rw [e] at hgt; cases hgt
    · have hrg := drop_good hg ((i : Int) + 1) ix
      rw [drop_eq hx hgt] at hrg ⊢
      have HRg := Lib.hid hrg
      rw [hgt] at HG
      obtain ⟨f, z, d⟩ := y
      unfold getVO pgAgg at HG
      simp only at HG
      have hlen := (ofO_good hg e).ps.len
      have HR := Lib.hid h
      have HX := Lib.hid hx
      have hq := neq_rob
      clear h hg hgt e hrg hid hx
      go_enter Try.func18, Try.ntmps18
      go_wp2_with fail
      refine HG.out.mono ?_
      rintro e w2 ⟨rfl, g2⟩
      have ga := World.grownBy_alloc w2 (.cells #[.int .i64 f, .int .i64 z, .bool d] 42 (0, 0)) none
      have g3 := grown_trans g2 ga
      have h3 := HR.out.grow rpdOk g3
      have hHO := ro_object_some h3 hl HX.out
      have hbx := h3.am.each i x HX.out
      have c2 := hbx.at.2.2
      obtain ⟨sv, cv, hv⟩ := rowOf_form (OwnOf.row hbx.d.1)
      have hrow := OwnOf.row hbx.d.1
      rw [hv] at c2 hrow
      have HW := Lib.hid hrow
      have HO := Lib.hid hHO
      have H3 := Lib.hid h3
      have G3 := Lib.hid g3
      obtain ⟨n, hn⟩ : ∃ n, x.L.length = n := ⟨_, rfl⟩
      rw [hn] at c2 HW hlen
      have HNl := Lib.hid hn
      generalize hW3 : w2.alloc (.cells #[.int .i64 f, .int .i64 z, .bool d] 42 (0, 0)) = w3 at *
      clear h3 hHO hbx hv hrow g2 g3 ga HG hn
      go_wp2_with fail
      refine HO.out.mono ?_
      rintro e w4 ⟨rfl, e4⟩
      subst w4
      go_wp2_with fail
      go_loopw [9, 30] (fun uv iv wr => ∃ j : Nat, j ≤ n ∧ iv = .int .i64 j ∧ Hid (TMk w3 wr uv (delO (x.L.take j) ix))) (fun _ iv _ => n - (intOf iv).toNat)
      case atStart => exact ⟨0, by omega, rfl, MkOf.nil w3⟩
      case round =>
        obtain ⟨j, hj, rfl, HM⟩ := hrel
        by_cases hlt : j < n
        · obtain ⟨⟨n0, f0, z0, d0⟩, hn⟩ : ∃ n, x.L[j]? = some n := ⟨_, List.getElem?_eq_getElem (by rw [HNl.out]; exact hlt)⟩
          obtain ⟨g, o, cc, hvv, k0, k1, k2, k3⟩ := t_cells (rowOf_grow (show RowOf atCells 4 w3 (.slice sv x.L.length cv) x.L by rw [HNl.out]; exact HW.out) HM.out.grown) hn
          injection hvv with e1 e2 e3
          subst e1 e3
          simp only at k0 k1 k2 k3
          have hct := del_take (ix := ix) hn
          have hcl := del_tlen (l := x.L) (j := j) (ix := ix)
          rw [HNl.out] at hcl
          simp only at hct
          have gb := World.grownBy_alloc wr (.cells #[.int .i64 n0, .int .i64 f0, .int .i64 z0, .bool d0] 58 (0, 0)) none
          by_cases h1 : n0 = ix
          · subst h1
            rw [if_pos rfl, List.append_nil] at hct
            have HM2 := Lib.hid (MkOf.grow HM.out gb)
            rw [← hct] at HM2
            clear c2 hct hn gb HM hcl
            go_wp2_with fail
            go_roundw
            case rel => exact ⟨j + 1, by omega, by go_num, HM2⟩
            case measure => simp [intOf]; omega
          · rw [if_neg h1] at hct
            have HC := Lib.hid hct
            obtain ⟨Z, hZ⟩ : ∃ Z, delO (x.L.take j) ix = Z := ⟨_, rfl⟩
            rw [hZ] at HM HC hcl
            have HM2 := Lib.hid (MkOf.grow HM.out gb)
            obtain ⟨sa, sc, hu⟩ := OwnOf.form HM.out.own
            subst hu
            have hws : w3.heap.size ≤ (wr.alloc (.cells #[.int .i64 n0, .int .i64 f0, .int .i64 z0, .bool d0] 58 (0, 0))).heap.size := by rw [World.size_alloc]; have := HM.out.grown.size; omega
            clear c2 hct hZ hn gb HM
            go_wp2_with (at_builtin; refine wpList_tpush (wr.alloc (.cells #[.int .i64 n0, .int .i64 f0, .int .i64 z0, .bool d0] 58 (0, 0))) rfl _ _ rfl w3.heap.size (.slice sa Z.length sc) Z n0 f0 z0 d0 rfl HM2.out.own (wr.heap.size + 1) 1 rfl (by simp) (by omega) (by rw [World.size_alloc] at hws; exact hws) ?_; intro g9 c9 w9 hown9 hgrow9; have HN := Lib.hid (MkOf.app HM2.out hgrow9 hown9); clear hown9 hgrow9)
            go_roundw
            case rel => exact ⟨j + 1, by omega, by go_num, by rw [HC.out]; exact HN⟩
            case measure => simp [intOf]; omega
        · obtain rfl : j = n := by omega
          rw [show x.L.take j = x.L by rw [← HNl.out, List.take_length]] at HM
          obtain ⟨sa, sc, hu⟩ := OwnOf.form HM.out.own
          subst hu
          obtain ⟨S', r1, r2, r3, r4, zf, cf⟩ := relist H3.out HX.out HM.out
          have hT := ro_tidy (L := L.set i (some ⟨x.file, x.re, delO x.L ix⟩)) r1 (by rw [List.length_set]; exact hl) (set_self hi2) (Nat.le_trans (List.length_filter_le _ _) (by rw [HNl.out]; exact hlen))
          rw [set_set] at hT
          have HT := Lib.hid hT
          have R3 := Lib.hid r3
          have R4 := Lib.hid r4
          clear hT r1 r3 r4 HM c2
          go_wp2_with fail
          refine HT.out.mono ?_
          rintro e w5 ⟨rfl, h5, t5, s5, -⟩
          have H5 := Lib.hid h5
          have T5 := Lib.hid t5
          have S5 := Lib.hid s5
          clear h5 t5 s5
          go_wp2_with fail
          go_ret
          exact ⟨rfl, _, ⟨v, _, H5.out, HRg.out, rfl⟩, ((Turn.grown G3.out).trans' R3.out).trans T5.out (fun b hb => (R4.out b hb).imp id fun k => Nat.le_trans G3.out.size k), fun b hb => (R4.out b (S5.out b hb)).imp id fun k => Nat.le_trans G3.out.size k⟩
end
end Go.Proofs.Ytefcefclncbimaa
