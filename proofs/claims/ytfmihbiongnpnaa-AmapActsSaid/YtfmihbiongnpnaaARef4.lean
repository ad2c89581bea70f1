/- The document's amaps of layer 13: Drop. -/
import Derived.Test.YtfmihbiongnpnaaARef3
namespace Go.Proofs.Ytfmihbiongnpnaa
open Go.ChangeShapes Go.WideShapes Go.ChangeAt Go.RowKit Go.Deep
set_option linter.unusedVariables false

section
variable {w w1 w' : World} {q most : Nat} {v : Value} {L : AmL} {S : Nat → AmP}
theorem RA.nothing (h : RA w q most v L S) (hg : GoodL most L) (k : w.grownBy w' none) (n : Int) {e : Int} : DropR RDS w q most (blkA q v L S) ⟨n, [], e, L⟩ (.returned (.tuple #[.slice none 0 0, .int .i64 e])) w' :=
  ⟨_, rfl, RowAt.nil _ _, (fun b e => by cases e), RA.same h hg k⟩

set_option maxHeartbeats 4000000 in
theorem ra_drop (h : RA w q most v L S) (hg : GoodL most L) (id lo hi : Int) (hid : okI id) (hlo : okI lo) (hhi : okI hi) : Calls Try.prog 18 #[.pointer (some ⟨q, 0, none⟩), .int .i64 id, .int .i64 lo, .int .i64 hi] w (DropR RDS w q most (blkA q v L S) (dropA L id lo hi)) := by
  have hl := Nat.le_trans hg.len hg.most
  have hG := dropA_good (id := id) (lo := lo) (hi := hi) hg
  rcases of_cases L id with ⟨e, -⟩ | ⟨i, a, rfl, hi', ha, e⟩
  · rw [show dropA L id lo hi = ⟨0, [], 7, L⟩ by unfold dropA; rw [e]]
    have HO := Lib.hid (ra_of_none h hl hid e)
    have HR := Lib.hid (RA.nothing h hg (grown_refl w none) 0 (e := 7))
    clear h e hG
    go_enter Try.func18, Try.ntmps18
    go_wp2_with fail
    refine HO.out.mono ?_
    rintro e w2 ⟨rfl, e2⟩
    subst w2
    go_wp2_with fail
    go_ret2
    exact HR.out
  · have hga := ofA_good hg e
    have HO := Lib.hid (ra_of_some h hl ha)
    have hq := eql_ram
    have ham := h.am.each i a ha
    have c0 := ham.at.1
    have c1 := ham.at.2
    have hlen : a.as.length ≤ 4096 := by have h2 := hga.cs.len; have h3 := hga.len; omega
    by_cases hs : spanA a lo hi
    · have hs' := hs
      obtain ⟨s0, s1, s2⟩ := hs'
      have d0 : decide (lo < 0) = false := decide_eq_false (by omega)
      have d1 : decide (lo ≥ hi) = false := decide_eq_false (by omega)
      have d2 : decide (hi > (a.as.length : Int)) = false := decide_eq_false (by omega)
      have HK := Lib.hid (rs_add ham.d hga.cs lo hi (-1) hlo hhi (okS (by decide) (by decide)))
      have HM := Lib.hid ham
      have HH := Lib.hid h
      have HA := Lib.hid ha
      have HGA := Lib.hid hga
      by_cases hm : mayJ a.cs lo hi (-1)
      · have HE := Lib.hid (drop_eq ha hs hm)
        rw [HE.out] at hG
        have had : addJ a.cs lo hi (-1) = (goneJ a.cs lo hi (-1), 0, moreJ a.cs lo hi (-1)) := by unfold addJ; rw [if_pos hm]
        have HAD := Lib.hid had
        have hgl := goneJ_len a.cs lo hi (-1)
        have hgc := hga.cs.len
        have HGM := Lib.hid (show ∀ g, g ∈ goneJ a.cs lo hi (-1) → ∃ j : Nat, g = j ∧ j < a.as.length from fun g hg => by
          obtain ⟨j, rfl, hj⟩ := goneJ_nat hg
          exact ⟨j, rfl, by have := hga.len; omega⟩)
        have HGP := Lib.hid (goneJ_pos (cs := a.cs) (lo := lo) (hi := hi) (by_ := -1))
        have HGN := Lib.hid (goneJ_nodup (cs := a.cs) (lo := lo) (hi := hi) (by_ := -1))
        have HJ := Lib.hid (show JOk (moreJ a.cs lo hi (-1)) by have := hga.cs.add (lo := lo) (hi := hi) (by_ := -1); rwa [had] at this)
        have HG0 := Lib.hid hG
        generalize hgs : goneJ a.cs lo hi (-1) = gs at *
        generalize hcs : moreJ a.cs lo hi (-1) = cs at *
        clear h e hG hga ha ham hid hlo hhi hs hm s0 s1 s2 had hgs hcs
        go_enter Try.func18, Try.ntmps18
        go_wp2_with fail
        refine HO.out.mono ?_
        rintro e w2 ⟨rfl, e2⟩
        subst w2
        go_wp2_with fail
        refine HK.out.mono ?_
        rintro e w5 ha
        obtain ⟨u5, rfl, r5, o5, h5⟩ := addA_open ha
        rw [HAD.out] at r5 h5 ⊢
        simp only at r5 h5 ⊢
        obtain ⟨P2, ea, -, eg, hb2, ht2, ho2⟩ := HM.out.counts rsOk h5
        obtain ⟨sx, cx, rfl⟩ := rowOf_form r5
        have HL0 := Lib.hid (LoopA.start rsOk hb2)
        have HT2 := Lib.hid ht2
        have HO2 := Lib.hid ho2
        have HEA := Lib.hid ea
        have HEG := Lib.hid eg
        have HR5 := Lib.hid r5
        have HU := Lib.hid (show ∀ b, (Value.slice sx gs.length cx).ownBlock = some b → b ∉ [P2.g] from fun b e hm => by
          have h1 := o5 b e
          have h2 : b = P2.g := by simpa using hm
          have h3 := HM.out.glt
          rw [← eg] at h3
          omega)
        have hb5 : w.heap.size ≤ w5.heap.size := ht2.size
        clear ha h5 r5 o5 hb2 ht2 ho2 eg HK c0 c1
        go_wp2_with fail
        go_loopw [13, 52] (fun uv iv wr => ∃ k : Nat, k ≤ gs.length ∧ iv = .int .i64 k ∧ Hid (LoopA RS 53 w5 wr P2 ⟨cs, wipeA a.as (gs.take k)⟩ uv (outA a.as (gs.take k)))) (fun _ iv _ => gs.length - (intOf iv).toNat)
        case atStart => exact ⟨0, by omega, rfl, HL0⟩
        case round =>
          obtain ⟨k, hk, rfl, HI⟩ := hrel
          by_cases hlt : k < gs.length
          · obtain ⟨g, hg⟩ : ∃ g, gs[k]? = some g := ⟨_, List.getElem?_eq_getElem hlt⟩
            obtain ⟨j, rfl, hj⟩ := HGM.out g (List.mem_of_getElem? hg)
            obtain ⟨gb, go, gc, hgv, hgcell⟩ := z_cells (row_turn HR5.out HI.out.turn HU.out) hg
            injection hgv with e1 e2 e3
            subst e1 e3
            have hrd := wipe_read («as» := a.as) HGP.out HGN.out hg
            rw [Int.toNat_natCast] at hrd
            have hwl : (wipeA a.as (gs.take k)).length = a.as.length := wipe_len
            obtain ⟨z, hz⟩ : ∃ z, (wipeA a.as (gs.take k))[j]? = some z := ⟨_, List.getElem?_eq_getElem (by omega)⟩
            have hz2 : a.as.getD j 0 = z := by rw [← hrd, List.getD_eq_getElem?_getD, hz]; rfl
            have hst := out_step («as» := a.as) hg
            have hwt := wipe_step («as» := a.as) hg
            rw [Int.toNat_natCast, hz2] at hst
            rw [Int.toNat_natCast] at hwt
            have a1 := HI.out.am.at.2
            simp only at a1
            rw [hwl] at a1
            have a2 := HI.out.am.get hz
            rw [HEA.out] at a1
            have z2 := HI.out.am.frozen j
            by_cases h0 : z = 0
            · rw [if_neg (by omega), List.append_nil] at hst
              have hN := HI.out.set rsOk j 0
              rw [← hst] at hN
              simp only at hN
              rw [← hwt] at hN
              have HN := Lib.hid hN
              have d3 : (z != 0) = false := by simp [h0]
              clear hg hrd hwl hz hz2 hst hwt hN h0 HI
              go_wp2_with fail
              go_roundw
              case rel => exact ⟨k + 1, by omega, by go_num, HN⟩
              case measure => simp [intOf]; omega
            · rw [if_pos h0] at hst
              have d3 : (z != 0) = true := by simpa using h0
              obtain ⟨Z, hZ⟩ : ∃ Z, outA a.as (gs.take k) = Z := ⟨_, rfl⟩
              have hZl : Z.length ≤ 4096 := by
                rw [← hZ]
                unfold outA
                refine Nat.le_trans (List.length_filter_le _ _) ?_
                rw [List.length_map, List.length_take]
                omega
              rw [hZ] at HI hst
              have HST := Lib.hid hst
              have HWT := Lib.hid hwt
              have HA1 := Lib.hid hz
              obtain ⟨sa, sc, hu⟩ := OwnOf.form HI.out.own
              subst hu
              have hlast : ∀ (g9 c9 : Nat) (w9 : World), ZOwn w9 w5.heap.size (.slice (some ⟨g9, 0, none⟩) (Z.length + 1) c9) (Z ++ [z]) → (wr.alloc (.cells #[.int .i64 z] 3)).grownBy w9 (Value.slice sa Z.length sc).ownBlock → w9.cell? ⟨(S i).a, 1, none⟩ = some (.slice (some ⟨P2.g, 0, none⟩) a.as.length a.as.length) ∧ w9.cell? ⟨P2.g, j, none⟩ = some (.int .i64 z) ∧ w9.frozen? ⟨P2.g, j, none⟩ = false ∧ LoopA RS 53 w5 (w9.setCell ⟨P2.g, j, none⟩ (.int .i64 0)) P2 ⟨cs, wipeA a.as (gs.take (k + 1))⟩ (.slice (some ⟨g9, 0, none⟩) (Z.length + 1) c9) (outA a.as (gs.take (k + 1))) := by
                intro g9 c9 w9 hown9 hgrow9
                have h9 := HI.out.app rsOk hgrow9 hown9
                have b1 := h9.am.at.2
                simp only at b1
                rw [hwl, HEA.out] at b1
                have b2 := h9.am.get HA1.out
                have h10 := h9.set rsOk j 0
                simp only at h10
                rw [← HWT.out, ← HST.out] at h10
                exact ⟨b1, b2, h9.am.frozen j, h10⟩
              have HL := Lib.hid hlast
              clear hg hrd hwl hz hz2 hst hwt h0 hZ hlast z2
              go_wp2_with (at_builtin; refine wpList_zpush wr rfl _ _ rfl w5.heap.size (.slice sa Z.length sc) Z z rfl HI.out.own wr.heap.size 1 rfl rfl (by omega) HI.out.turn.size ?_; intro g9 c9 w9 hown9 hgrow9; obtain ⟨b1, b2, b3, hm9⟩ := HL.out g9 c9 w9 hown9 hgrow9; have HN := Lib.hid hm9; clear hown9 hgrow9 hm9)
              go_roundw
              case rel => exact ⟨k + 1, by omega, by go_num, HN⟩
              case measure => simp [intOf]; omega
          · obtain rfl : k = gs.length := by omega
            rw [List.take_length] at HI
            have hT : Turn (S i).blk w wr := HT2.out.trans HI.out.turn fun b hb => .inl (AmP.mem.2 (.inr (.inl (by have e := List.mem_singleton.1 hb; rw [e, HEG.out]))))
            obtain ⟨m1, m2, m3⟩ := PoolA.turned rsOk HH.out HA.out HI.out.am HEA.out hT HO2.out
            have HP := Lib.hid m1
            have HPT := Lib.hid m2
            have HPO := Lib.hid m3
            have a1 := HI.out.am.at.1
            rw [HEA.out] at a1
            have HS := Lib.hid (rs_sum HI.out.am.d HJ.out)
            obtain ⟨y, hy⟩ : ∃ y, sumJ cs = y := ⟨_, rfl⟩
            rw [hy] at HS HE HG0
            clear m1 m2 m3 hT
            by_cases h0 : y = 0
            · have d3 : (y == 0) = true := by simp [h0]
              rw [if_pos h0] at HG0 HE
              obtain ⟨gv, cv, rfl⟩ := HH.out.there (by omega)
              clear h0 hy
              go_wp2_with fail
              refine HS.out.mono ?_
              rintro e w7 ⟨rfl, g7⟩
              have hp7 := PoolA.grow rsOk HP.out g7
              have p1 := hp7.at.2
              have p2 := hp7.live (j := i) hi' (x := ⟨cs, wipeA a.as gs⟩) (by rw [List.getElem?_set, if_pos rfl, if_pos hi'])
              rw [updA_same] at p2
              have p3 := hp7.vfrozen i
              obtain ⟨n1, n2, n3⟩ := hp7.gone rsOk hi'
              have HN1 := Lib.hid n1
              have HN2 := Lib.hid n2
              have HN3 := Lib.hid n3
              have hgv := HH.out.vlt (b := gv) rfl
              have HG7 := Lib.hid g7
              clear hp7 n1 n2 n3 g7
              go_wp2_with fail
              go_ret2
              rw [HE.out]
              refine ⟨_, rfl, OwnOf.row (OwnOf.kept (OwnOf.grow HI.out.own HG7.out) fun b e => heap_setCell_other _ ⟨gv, i, none⟩ b _ ?_), fun b e => Nat.le_trans hb5 (OwnOf.lt HI.out.own e).1, _, ⟨.slice (some ⟨gv, 0, none⟩) L.length cv, updA S i P2, ?_, HG0.out, rfl⟩, (HPT.out.trans' (Turn.grown HG7.out)).trans HN2.out HPO.out, fun b hb => HPO.out b (HN3.out b ?_)⟩
              · have h1 := (OwnOf.lt HI.out.own e).1
                first
                  | exact fun e => by (have e : gv = b := e); omega
                  | exact fun e => by (have e : b = gv := e); omega
              · have h1 := HN1.out
                rw [List.set_set] at h1
                unfold RA
                rw [List.length_set]
                exact h1
              · rw [List.set_set]; exact hb
            · have d3 : (y == 0) = false := by simpa using h0
              rw [if_neg h0] at HG0 HE
              clear h0 hy
              go_wp2_with fail
              refine HS.out.mono ?_
              rintro e w7 ⟨rfl, g7⟩
              have HG7 := Lib.hid g7
              clear g7
              go_wp2_with fail
              go_ret2
              rw [HE.out]
              refine ⟨_, rfl, rowOf_grow (OwnOf.row HI.out.own) HG7.out, fun b e => Nat.le_trans hb5 (OwnOf.lt HI.out.own e).1, _, ⟨_, updA S i P2, by unfold RA; rw [List.length_set]; exact PoolA.grow rsOk HP.out HG7.out, HG0.out, rfl⟩, HPT.out.trans' (Turn.grown HG7.out), HPO.out⟩
      · have HE := Lib.hid (drop_no ha fun k => hm k.2)
        rw [HE.out]
        have had : addJ a.cs lo hi (-1) = ([], 2, a.cs) := by unfold addJ; rw [if_neg hm]
        have HAD := Lib.hid had
        clear h e hG hga ha ham hid hlo hhi hs hm s0 s1 s2 had
        go_enter Try.func18, Try.ntmps18
        go_wp2_with fail
        refine HO.out.mono ?_
        rintro e w2 ⟨rfl, e2⟩
        subst w2
        go_wp2_with fail
        refine HK.out.mono ?_
        rintro e w5 ha
        obtain ⟨u5, rfl, r5, -, h5⟩ := addA_open ha
        rw [HAD.out] at r5 h5 ⊢
        simp only at r5 h5 ⊢
        obtain ⟨P2, ea, -, -, hb2, ht2, ho2⟩ := HM.out.counts rsOk h5
        have hf := RA.turned HH.out (grown_refl w none) HA.out hb2 ea ht2 ho2 (by rw [set_same HA.out]; exact hg)
        rw [show (⟨a.cs, a.as⟩ : AmV) = a from rfl, set_same HA.out] at hf
        have HF := Lib.hid hf
        obtain ⟨sx, cx, rfl⟩ := rowOf_form r5
        clear ha h5 r5 hb2 ht2 ho2 hf
        go_wp2_with fail
        go_ret2
        exact ⟨_, rfl, RowAt.nil _ _, (fun b e => by cases e), HF.out⟩
    · rw [drop_no ha fun k => hs k.1]
      have HR := Lib.hid (RA.nothing h hg (grown_refl w none) 0 (e := 2))
      have dd : decide (lo < 0) = true ∨ (decide (lo < 0) = false ∧ decide (lo ≥ hi) = true) ∨ (decide (lo < 0) = false ∧ decide (lo ≥ hi) = false ∧ decide (hi > (a.as.length : Int)) = true) := by
        unfold spanA at hs
        simp only [decide_eq_true_eq, decide_eq_false_iff_not]
        omega
      clear h e hG hga ha ham hs
      rcases dd with d0 | ⟨d0, d1⟩ | ⟨d0, d1, d2⟩
      all_goals
        go_enter Try.func18, Try.ntmps18
        go_wp2_with fail
        refine HO.out.mono ?_
        rintro e w2 ⟨rfl, e2⟩
        subst w2
        go_wp2_with fail
        go_ret2
        exact HR.out
end
end Go.Proofs.Ytfmihbiongnpnaa
