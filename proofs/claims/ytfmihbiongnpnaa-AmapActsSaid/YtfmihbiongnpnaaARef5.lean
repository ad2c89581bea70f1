/- The document's amaps of layer 13: Copy. -/
import Derived.Test.YtfmihbiongnpnaaARef4
import Derived.OwnWalk
namespace Go.Proofs.Ytfmihbiongnpnaa
open Go.ChangeShapes Go.WideShapes Go.ChangeAt Go.RowKit Go.Deep
set_option linter.unusedVariables false

section
variable {w w1 w' : World} {q most : Nat} {v : Value} {L : AmL} {S : Nat → AmP}
theorem RA.nothing3 (h : RA w q most v L S) (hg : GoodL most L) (k : w.grownBy w' none) {e : Int} : CopyR RDS w q most (blkA q v L S) ⟨0, [], e, L⟩ (.returned (.tuple #[.int .i64 0, .slice none 0 0, .int .i64 e])) w' :=
  ⟨_, rfl, RowAt.nil _ _, (fun b e => by cases e), RA.same h hg k⟩

set_option maxHeartbeats 1000000 in
theorem ra_copy (h : RA w q most v L S) (hg : GoodL most L) (id lo hi : Int) (hid : okI id) (hlo : okI lo) (hhi : okI hi) : Calls Try.prog 21 #[.pointer (some ⟨q, 0, none⟩), .int .i64 id, .int .i64 lo, .int .i64 hi] w (CopyR RDS w q most (blkA q v L S) (copyA most L id lo hi)) := by
  have hl := Nat.le_trans hg.len hg.most
  have hG := copyA_good (id := id) (lo := lo) (hi := hi) hg
  rcases of_cases L id with ⟨e, -⟩ | ⟨i, a, rfl, hi', ha, e⟩
  · rw [show copyA most L id lo hi = ⟨0, [], 7, L⟩ by unfold copyA; rw [e]]
    have HO := Lib.hid (ra_of_none h hl hid e)
    have HR := Lib.hid (RA.nothing3 h hg (grown_refl w none) (e := 7))
    clear h e hG
    go_enter Try.func21, Try.ntmps21
    go_wp2_with fail
    refine HO.out.mono ?_
    rintro e w2 ⟨rfl, e2⟩
    subst w2
    go_wp2_with fail
    go_ret3
    exact HR.out
  · have hga := ofA_good hg e
    have HO := Lib.hid (ra_of_some h hl ha)
    have hq := eql_ram
    have ham := h.am.each i a ha
    have c1 := ham.at.2
    have hlen : a.as.length ≤ 4096 := by have h2 := hga.cs.len; have h3 := hga.len; omega
    by_cases hs : spanA a lo hi
    · have hs' := hs
      obtain ⟨s0, s1, s2⟩ := hs'
      have d0 : decide (lo < 0) = false := decide_eq_false (by omega)
      have d1 : decide (lo ≥ hi) = false := decide_eq_false (by omega)
      have d2 : decide (hi > (a.as.length : Int)) = false := decide_eq_false (by omega)
      have HH := Lib.hid h
      have HA := Lib.hid ha
      have HGA := Lib.hid hga
      by_cases hfull : most ≤ (idsA L).length
      · rw [copy_full ha hs hfull]
        have hmk := ra_make_no h hg (hi - lo) ⟨by omega, by omega⟩ (.inr hfull)
        rw [show makeA most L (hi - lo) = ⟨0, [], 5, L⟩ by unfold makeA; rw [if_neg (by omega), if_pos hfull]] at hmk
        have HK := Lib.hid hmk
        have HR := Lib.hid (fun W (k : w.grownBy W none) => RA.nothing3 h hg k (e := 5))
        clear h e hG hga ha ham hid hs hmk hfull
        go_enter Try.func21, Try.ntmps21
        go_wp2_with fail
        refine HO.out.mono ?_
        rintro e w2 ⟨rfl, e2⟩
        subst w2
        go_wp2_with fail
        refine HK.out.mono ?_
        rintro e w2 ⟨rfl, g2⟩
        have HG2 := Lib.hid g2
        clear g2
        go_wp2_with fail
        go_ret3
        exact HR.out _ HG2.out
      · obtain ⟨k, hk⟩ : ∃ k : Nat, hi - lo = (k : Int) := ⟨(hi - lo).toNat, by omega⟩
        have HE := Lib.hid (copy_eq ha hs hk hfull)
        have hG1 := hG
        rw [HE.out] at hG1
        have HG0 := Lib.hid hG1
        have HK := Lib.hid (ra_make h hg k (by omega) (by omega) hfull)
        have hlk : lo + k ≤ a.as.length := by omega
        have hk0 : 1 ≤ k := by omega
        obtain ⟨f, hf⟩ : ∃ f, firstA L = f := ⟨_, rfl⟩
        have hfd : liveA L f = false := by
          rw [← hf]
          rcases Nat.lt_or_ge (firstA L) L.length with h1 | h1
          · exact liveA_none (first_free h1)
          · exact liveA_out h1
        have hfl : f ≤ L.length := by rw [← hf]; exact first_le
        have hne : i ≠ f := fun e => by rw [← e, liveA_some ha] at hfd; cases hfd
        have hL2 : (putA L f (some (newA k))).length ≤ 4096 := by
          rw [putA_len, ← hf]
          have := first_room hg.len hfull
          have := hg.most
          have := first_le (L := L)
          split <;> omega
        rw [hf] at HK HE HG0
        clear h e hG hG1 hga ha ham hid hhi hs hfull hf
        go_enter Try.func21, Try.ntmps21
        go_wp2_with fail
        refine HO.out.mono ?_
        rintro e w2 ⟨rfl, e2⟩
        subst w2
        go_wp2_with fail
        refine HK.out.mono ?_
        rintro e w2 ⟨rfl, v2, P, hp2, ht2, ho2, hf2⟩
        have hAf := hp2.am.each f (newA k) (by rw [put_at hfl, if_pos rfl])
        have hAi := hp2.am.each i a (by rw [put_at hfl, if_neg hne]; exact HA.out)
        rw [updA_same] at hAf
        rw [updA_other hne] at hAi
        have hgf : ∀ b, b ∈ (S i).blk → b ∉ [P.g] := fun b hb hm => by
          have h1 := HH.out.am.lt rsOk b (mem_blks.2 ⟨i, liveA_some HA.out, hb⟩)
          have h2 := hf2 P.g (AmP.mem.2 (.inr (.inl rfl)))
          have h3 := List.mem_singleton.1 hm
          omega
        have h0 := LoopA.start rsOk hAf
        rw [show newA k = ⟨List.replicate k 1, fillA a.as lo k 0⟩ by rw [fill_none]; rfl] at h0
        have HL0 := Lib.hid h0
        have HP2 := Lib.hid hp2
        have HT2 := Lib.hid ht2
        have HO2 := Lib.hid ho2
        have HAI := Lib.hid hAi
        have HGF := Lib.hid hgf
        have hs2 : w.heap.size ≤ w2.heap.size := ht2.size
        have HNE := Lib.hid hne
        clear hAf hAi hgf h0 hp2 ht2 ho2 hf2 c1 hne
        go_wp2_with fail
        go_loopw [14, 15] (fun uv iv wr => ∃ t j : Nat, t ≤ k ∧ iv = .int .i64 j ∧ Hid ((j : Int) = lo + t) ∧ Hid (LoopA RS 53 w2 wr P ⟨List.replicate k 1, fillA a.as lo k t⟩ uv ((partA a.as lo (lo + t)).filter fun x => x != 0))) (fun _ iv _ => (hi - intOf iv).toNat)
        case atStart => exact ⟨0, lo.toNat, by omega, congrArg _ (by omega), (show ((lo.toNat : Nat) : Int) = lo + (0 : Nat) by omega), by
          have := HL0.out
          rw [show lo + ((0 : Nat) : Int) = lo by omega, part_none]
          exact this⟩
        case round =>
          obtain ⟨t, j, ht, rfl, HJ, HI⟩ := hrel
          by_cases hlt : t < k
          · have d3 : decide ((j : Int) < hi) = true := decide_eq_true (by have := HJ.out; omega)
            have hsub : (j : Int) - lo = (t : Int) := by have := HJ.out; omega
            have hja : j < a.as.length := by have := HJ.out; omega
            have hk4 : k ≤ 4096 := by omega
            have hwr : IntKind.i64.wrap ((j : Int) - lo) = (t : Int) := by rw [IntKind.wrap_i64]; omega
            have hwt : IntKind.i64.wrap (t : Int) = (t : Int) := by rw [IntKind.wrap_i64]; omega
            have q0 : (0 : Int) ≤ t := by omega
            have q1 : (t : Int) < (k : Int) := by omega
            have q2 : (0 : Int) ≤ j := by omega
            have q3 : (j : Int) < (a.as.length : Int) := by omega
            obtain ⟨z, hz⟩ : ∃ z, a.as[j]? = some z := ⟨_, List.getElem?_eq_getElem hja⟩
            have hzd : a.as.getD j 0 = z := by rw [List.getD_eq_getElem?_getD, hz]; rfl
            have hfs := fill_step (zs := a.as) (lo := lo) (k := k) (t := t) (j := j) s0 hlk hlt HJ.out
            have hpm := part_more (zs := a.as) (lo := lo) (t := t) (j := j) s0 hja HJ.out
            rw [hzd] at hfs hpm
            have hfl2 := fill_len (zs := a.as) (lo := lo) (k := k) (t := t) s0 hlk ht
            have hD := HI.out.grow rsOk (grown_drew1 wr)
            obtain ⟨y, hy⟩ : ∃ y, (fillA a.as lo k t)[t]? = some y := ⟨_, List.getElem?_eq_getElem (by omega)⟩
            have hpD := (PoolA.turned rsOk HP2.out (i := f) (x := newA k) (by rw [put_at hfl, if_pos rfl]) hD.am (by rw [updA_same]) (by rw [updA_same]; exact hD.turn.mono fun b hb => AmP.mem.2 (.inr (.inl (List.mem_singleton.1 hb)))) (fun b hb => by rw [updA_same]; exact .inl hb)).1
            rw [put_set hfl, upd_upd] at hpD
            have hOf := ra_of_some (L := putA L f (some ⟨List.replicate k 1, fillA a.as lo k t⟩)) (S := updA S f P) (i := f) (x := ⟨List.replicate k 1, fillA a.as lo k t⟩) (by unfold RA; rw [putA_len]; rw [putA_len] at hpD; exact hpD) (by rw [putA_len]; rw [putA_len] at hL2; exact hL2) (by rw [put_at hfl, if_pos rfl])
            rw [updA_same] at hOf
            have HOf := Lib.hid hOf
            have e1 := hD.am.at.2
            simp only at e1
            rw [hfl2] at e1
            have e2 := hD.am.get hy
            have e3 := hD.am.frozen t
            have haD := HAI.out.turn rsOk hD.turn HGF.out
            have e4 := haD.at.2
            have e5 := haD.get hz
            have hkd : wr.drew.cell? ⟨P.a, 1, none⟩ = some (.slice (some ⟨P.g, 0, none⟩) k k) ∧ wr.drew.cell? ⟨(S i).a, 1, none⟩ = some (.slice (some ⟨(S i).g, 0, none⟩) a.as.length a.as.length) ∧ wr.drew.cell? ⟨(S i).g, j, none⟩ = some (.int .i64 z) := ⟨e1, e4, e5⟩
            have h10 := (HI.out.set rsOk t z).grow rsOk (grown_drew1 _)
            simp only at h10
            rw [hfs] at h10
            have ha10 := HAI.out.turn rsOk h10.turn HGF.out
            have b1 := ha10.at.2
            have b2 := ha10.get hz
            have f1 := h10.am.at.2
            simp only at f1
            rw [fill_len s0 hlk (by omega)] at f1
            have hkd2 : (wr.setCell ⟨P.g, t, none⟩ (.int .i64 z)).drew.cell? ⟨P.a, 1, none⟩ = some (.slice (some ⟨P.g, 0, none⟩) k k) ∧ (wr.setCell ⟨P.g, t, none⟩ (.int .i64 z)).drew.cell? ⟨(S i).a, 1, none⟩ = some (.slice (some ⟨(S i).g, 0, none⟩) a.as.length a.as.length) ∧ (wr.setCell ⟨P.g, t, none⟩ (.int .i64 z)).drew.cell? ⟨(S i).g, j, none⟩ = some (.int .i64 z) := ⟨f1, b1, b2⟩
            have HN10 := Lib.hid h10
            generalize hw10 : (wr.setCell ⟨P.g, t, none⟩ (.int .i64 z)).drew = w10 at *
            obtain ⟨Z, hZ⟩ : ∃ Z, (partA a.as lo (lo + t)).filter (fun x => x != 0) = Z := ⟨_, rfl⟩
            have hZl : Z.length ≤ 4096 := by
              rw [← hZ]
              refine Nat.le_trans (List.length_filter_le _ _) ?_
              rw [part_len (by omega) (by omega) (by omega)]
              omega
            rw [hZ] at HN10 hpm HI
            have HPM := Lib.hid hpm
            have HJ2 := Lib.hid (show ((j + 1 : Nat) : Int) = lo + ((t + 1 : Nat) : Int) by have := HJ.out; omega)
            obtain ⟨sa, sc, hu⟩ := OwnOf.form HI.out.own
            subst hu
            clear hD hpD hOf haD h10 ha10 hfs hzd hz hy hpm hZ
            go_wp2_with fail
            go_region_held3 (fun W => W.cell? ⟨P.a, 1, none⟩ = some (.slice (some ⟨P.g, 0, none⟩) k k) ∧ W.cell? ⟨(S i).a, 1, none⟩ = some (.slice (some ⟨(S i).g, 0, none⟩) a.as.length a.as.length) ∧ W.cell? ⟨(S i).g, j, none⟩ = some (.int .i64 z)) (first | exact hkd | (try rw [hw10]); exact hkd2)
              (first | (go_at_call 22; with_reducible refine (HOf.out.mono ?_); rintro e w4 ⟨rfl, e4⟩; subst w4))
            by_cases h0 : z = 0
            · have d4 : (z != 0) = false := by simp [h0]
              have HQ := Lib.hid (show (partA a.as lo (lo + ((t + 1 : Nat) : Int))).filter (fun x => x != 0) = Z by rw [HPM.out, if_neg (by omega), List.append_nil])
              clear h0
              go_wp2_with fail
              go_roundw
              case rel => exact ⟨t + 1, j + 1, by omega, by go_num, HJ2, by rw [HQ.out]; exact HN10⟩
              case measure => simp [intOf]; omega
            · have d4 : (z != 0) = true := by simpa using h0
              have HQ := Lib.hid (show (partA a.as lo (lo + ((t + 1 : Nat) : Int))).filter (fun x => x != 0) = Z ++ [z] by rw [HPM.out, if_pos h0])
              clear h0
              go_wp2_with (at_builtin; refine wpList_zpush w10 rfl _ _ rfl w2.heap.size (.slice sa Z.length sc) Z z rfl HN10.out.own w10.heap.size 1 rfl rfl (by omega) HN10.out.turn.size ?_; intro g9 c9 w9 hown9 hgrow9; have HN := Lib.hid (LoopA.app rsOk HN10.out hgrow9 hown9); clear hown9 hgrow9)
              go_roundw
              case rel => exact ⟨t + 1, j + 1, by omega, by go_num, HJ2, by rw [HQ.out]; exact HN⟩
              case measure => simp [intOf]; omega
          · obtain rfl : t = k := by omega
            have d3 : decide ((j : Int) < hi) = false := decide_eq_false (by have := HJ.out; omega)
            have hp9 := PoolA.turned rsOk HP2.out (i := f) (x := newA t) (by rw [put_at hfl, if_pos rfl]) HI.out.am (by rw [updA_same]) (by rw [updA_same]; exact HI.out.turn.mono fun b hb => AmP.mem.2 (.inr (.inl (List.mem_singleton.1 hb)))) (fun b hb => by rw [updA_same]; exact .inl hb)
            rw [put_set hfl, upd_upd, fill_all hk] at hp9
            obtain ⟨m1, m2, m3⟩ := hp9
            rw [putA_len] at m1
            have HM1 := Lib.hid m1
            have HM2 := Lib.hid m2
            have HM3 := Lib.hid m3
            rw [show lo + (t : Int) = hi by omega] at HI
            clear m1 m2 m3
            go_wp2_with fail
            go_ret3
            rw [HE.out]
            exact ⟨_, rfl, OwnOf.row HI.out.own, fun b e => Nat.le_trans hs2 (OwnOf.lt HI.out.own e).1, _, ⟨v2, updA S f P, by unfold RA; rw [putA_len]; exact HM1.out, HG0.out, rfl⟩, HT2.out.trans HM2.out HO2.out, fun b hb => by
              rcases HM3.out b hb with h | h
              · exact HO2.out b h
              · exact .inr (Nat.le_trans hs2 h)⟩
    · rw [copy_no ha hs]
      have HR := Lib.hid (RA.nothing3 h hg (grown_refl w none) (e := 2))
      have dd : decide (lo < 0) = true ∨ (decide (lo < 0) = false ∧ decide (lo ≥ hi) = true) ∨ (decide (lo < 0) = false ∧ decide (lo ≥ hi) = false ∧ decide (hi > (a.as.length : Int)) = true) := by
        unfold spanA at hs
        simp only [decide_eq_true_eq, decide_eq_false_iff_not]
        omega
      clear h e hG hga ha ham hs
      rcases dd with d0 | ⟨d0, d1⟩ | ⟨d0, d1, d2⟩
      all_goals
        go_enter Try.func21, Try.ntmps21
        go_wp2_with fail
        refine HO.out.mono ?_
        rintro e w2 ⟨rfl, e2⟩
        subst w2
        go_wp2_with fail
        go_ret3
        exact HR.out
end
end Go.Proofs.Ytfmihbiongnpnaa
