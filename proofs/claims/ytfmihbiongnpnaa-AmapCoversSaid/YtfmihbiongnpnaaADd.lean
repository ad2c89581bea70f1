/- Package amap (landed): clear, Drop. -/
import Derived.Test.YtfmihbiongnpnaaADc
namespace Go.Proofs.Ytfmihbiongnpnaa
open Go.ChangeShapes Go.WideShapes Go.ChangeAt Go.RowKit Go.Deep
set_option linter.unusedVariables false

set_option maxHeartbeats 2000000 in
theorem pa_clear {w : World} {P : AmP} {cs zs gs : List Int} {u : Value} (h : AmB DS 81 w ⟨cs, zs⟩ P) (hr : RowOf zCells 1 w u gs) (hu : ∀ b, u.ownBlock = some b → b ∉ [P.g]) (hm : ∀ g, g ∈ gs → ∃ j : Nat, g = j ∧ j < zs.length) (hn : gs.Nodup) (hlen : zs.length ≤ 4096) (hgl : gs.length ≤ 4096) :
    Calls Try.prog 40 #[.pointer (some ⟨P.a, 0, none⟩), u] w fun e w' => ∃ u', e = .returned u' ∧ LoopA DS 81 w w' P ⟨cs, wipeA zs gs⟩ u' (outA zs gs) := by
  obtain ⟨sx, cx, rfl⟩ := rowOf_form hr
  have HL0 := Lib.hid (LoopA.start dsS h)
  have HR5 := Lib.hid hr
  have HU := Lib.hid hu
  have HGM := Lib.hid hm
  have HGN := Lib.hid hn
  have HGP := Lib.hid (show ∀ g, g ∈ gs → 0 ≤ g from fun g hg => by obtain ⟨j, rfl, _⟩ := hm g hg; omega)
  clear h hr hu hm hn
  go_enter Try.func40, Try.ntmps40
  go_wp2_with fail
  go_loopw [5, 10] (fun uv iv wr => ∃ k : Nat, k ≤ gs.length ∧ iv = .int .i64 k ∧ Hid (LoopA DS 81 w wr P ⟨cs, wipeA zs (gs.take k)⟩ uv (outA zs (gs.take k)))) (fun _ iv _ => gs.length - (intOf iv).toNat)
  case atStart => exact ⟨0, by omega, rfl, HL0⟩
  case round =>
    obtain ⟨k, hk, rfl, HI⟩ := hrel
    by_cases hlt : k < gs.length
    · obtain ⟨g, hg⟩ : ∃ g, gs[k]? = some g := ⟨_, List.getElem?_eq_getElem hlt⟩
      obtain ⟨j, rfl, hj⟩ := HGM.out g (List.mem_of_getElem? hg)
      obtain ⟨gb, go, gc, hgv, hgcell⟩ := z_cells (row_turn HR5.out HI.out.turn HU.out) hg
      injection hgv with e1 e2 e3
      subst e1 e3
      have hrd := wipe_read («as» := zs) HGP.out HGN.out hg
      rw [Int.toNat_natCast] at hrd
      have hwl : (wipeA zs (gs.take k)).length = zs.length := wipe_len
      obtain ⟨z, hz⟩ : ∃ z, (wipeA zs (gs.take k))[j]? = some z := ⟨_, List.getElem?_eq_getElem (by omega)⟩
      have hz2 : zs.getD j 0 = z := by rw [← hrd, List.getD_eq_getElem?_getD, hz]; rfl
      have hst := out_step («as» := zs) hg
      have hwt := wipe_step («as» := zs) hg
      rw [Int.toNat_natCast, hz2] at hst
      rw [Int.toNat_natCast] at hwt
      have a1 := HI.out.am.at.2
      simp only at a1
      rw [hwl] at a1
      have a2 := HI.out.am.get hz
      have z2 := HI.out.am.frozen j
      by_cases h0 : z = 0
      · rw [if_neg (by omega), List.append_nil] at hst
        have hN := HI.out.set dsS j 0
        rw [← hst] at hN
        simp only at hN
        rw [← hwt] at hN
        have HN := Lib.hid hN
        have d3 : (z != 0) = false := by simp [h0]
        clear hg hrd hwl hz hz2 hst hwt hN h0 HI
        go_wp2_with fail
        go_roundw
        case rel => exact ⟨k + 1, by omega, by go_num, HN⟩
        case measure => simp [intOf]; omega
      · rw [if_pos h0] at hst
        have d3 : (z != 0) = true := by simpa using h0
        obtain ⟨Z, hZ⟩ : ∃ Z, outA zs (gs.take k) = Z := ⟨_, rfl⟩
        have hZl : Z.length ≤ 4096 := by
          rw [← hZ]
          unfold outA
          refine Nat.le_trans (List.length_filter_le _ _) ?_
          rw [List.length_map, List.length_take]
          omega
        rw [hZ] at HI hst
        have HST := Lib.hid hst
        have HWT := Lib.hid hwt
        have HA1 := Lib.hid hz
        obtain ⟨sa, sc, hu⟩ := OwnOf.form HI.out.own
        subst hu
        have hlast : ∀ (g9 c9 : Nat) (w9 : World), ZOwn w9 w.heap.size (.slice (some ⟨g9, 0, none⟩) (Z.length + 1) c9) (Z ++ [z]) → (wr.alloc (.cells #[.int .i64 z] 3)).grownBy w9 (Value.slice sa Z.length sc).ownBlock → w9.cell? ⟨P.a, 1, none⟩ = some (.slice (some ⟨P.g, 0, none⟩) zs.length zs.length) ∧ w9.cell? ⟨P.g, j, none⟩ = some (.int .i64 z) ∧ w9.frozen? ⟨P.g, j, none⟩ = false ∧ LoopA DS 81 w (w9.setCell ⟨P.g, j, none⟩ (.int .i64 0)) P ⟨cs, wipeA zs (gs.take (k + 1))⟩ (.slice (some ⟨g9, 0, none⟩) (Z.length + 1) c9) (outA zs (gs.take (k + 1))) := by
          intro g9 c9 w9 hown9 hgrow9
          have h9 := HI.out.app dsS hgrow9 hown9
          have b1 := h9.am.at.2
          simp only at b1
          rw [hwl] at b1
          have b2 := h9.am.get HA1.out
          have h10 := h9.set dsS j 0
          simp only at h10
          rw [← HWT.out, ← HST.out] at h10
          exact ⟨b1, b2, h9.am.frozen j, h10⟩
        have HL := Lib.hid hlast
        clear hg hrd hwl hz hz2 hst hwt h0 hZ hlast z2
        go_wp2_with (at_builtin; refine wpList_zpush wr rfl _ _ rfl w.heap.size (.slice sa Z.length sc) Z z rfl HI.out.own wr.heap.size 1 rfl rfl (by omega) HI.out.turn.size ?_; intro g9 c9 w9 hown9 hgrow9; obtain ⟨b1, b2, b3, hm9⟩ := HL.out g9 c9 w9 hown9 hgrow9; have HN := Lib.hid hm9; clear hown9 hgrow9 hm9)
        go_roundw
        case rel => exact ⟨k + 1, by omega, by go_num, HN⟩
        case measure => simp [intOf]; omega
    · obtain rfl : k = gs.length := by omega
      rw [List.take_length] at HI
      go_wp2_with fail
      go_ret
      exact ⟨_, rfl, HI.out⟩

section
variable {w w1 w' : World} {p most : Nat} {v : Value} {L : AmL} {S : Nat → AmP}
theorem PA.nothing (h : PA w p most v L S) (hg : GoodL most L) (k : w.grownBy w' none) (n : Int) {e : Int} : DropR PAS w p most (blkA p v L S) ⟨n, [], e, L⟩ (.returned (.tuple #[.slice none 0 0, .int .i64 e])) w' :=
  ⟨_, rfl, RowAt.nil _ _, (fun b e => by cases e), PA.same h hg k⟩
theorem may_span {x : AmV} (hg : GoodA x) {lo hi : Int} (hlt : lo < hi) (h : mayJ x.cs lo hi (-1)) : spanA x lo hi := ⟨h.1.1, hlt, by have := h.1.2.1; have := hg.len; omega⟩
theorem may_cov {x : AmV} {lo hi : Int} (h : mayJ x.cs lo hi (-1)) : allCov x.cs lo hi := fun i hi' hin e => by have := h.2 i hi' hin; omega

set_option maxHeartbeats 2000000 in
theorem pa_drop (h : PA w p most v L S) (hg : GoodL most L) (id lo hi : Int) (hid : okI id) (hlo : okI lo) (hhi : okI hi) : Calls Try.prog 17 #[.pointer (some ⟨p, 0, none⟩), .int .i64 id, .int .i64 lo, .int .i64 hi] w (DropR PAS w p most (blkA p v L S) (dropA L id lo hi)) := by
  have hG := dropA_good (id := id) (lo := lo) (hi := hi) hg
  rcases of_cases L id with ⟨e, -⟩ | ⟨i, a, rfl, hi', ha, e⟩
  · rw [show dropA L id lo hi = ⟨0, [], 7, L⟩ by unfold dropA; rw [e]]
    have HK := Lib.hid (pa_cover_no h hg id lo hi (-1) hid hlo hhi e)
    have HR := Lib.hid (fun W (k : w.grownBy W none) => PA.nothing h hg k 0 (e := 7))
    clear h e hG
    go_enter Try.func17, Try.ntmps17
    go_wp2_with fail
    refine HK.out.mono ?_
    rintro e w2 ⟨rfl, g2⟩
    have HG := Lib.hid g2
    clear g2
    go_wp2_with fail
    go_ret2
    exact HR.out _ HG.out
  · have hga := ofA_good hg e
    have hl := hg.len
    have hm4 := hg.most
    by_cases hok : lo < hi ∧ allCov a.cs lo hi
    · have HK := Lib.hid (pa_cover_add h hg ha lo hi (-1) hlo hhi (okS (by decide) (by decide)) hok.1 hok.2)
      have HH := Lib.hid h
      have HA := Lib.hid ha
      by_cases hm : mayJ a.cs lo hi (-1)
      · have HE := Lib.hid (drop_eq ha (may_span hga hok.1 hm) hm)
        rw [HE.out] at hG
        have had : addJ a.cs lo hi (-1) = (goneJ a.cs lo hi (-1), 0, moreJ a.cs lo hi (-1)) := by unfold addJ; rw [if_pos hm]
        have HAD := Lib.hid had
        have hgl := goneJ_len a.cs lo hi (-1)
        have hgc := hga.cs.len
        have hlen : a.as.length ≤ 4096 := by have h2 := hga.cs.len; have h3 := hga.len; omega
        have hgm : ∀ g, g ∈ goneJ a.cs lo hi (-1) → ∃ j : Nat, g = j ∧ j < a.as.length := fun g hg => by
          obtain ⟨j, rfl, hj⟩ := goneJ_nat hg
          exact ⟨j, rfl, by have := hga.len; omega⟩
        have HGM := Lib.hid hgm
        have HGN := Lib.hid (goneJ_nodup (cs := a.cs) (lo := lo) (hi := hi) (by_ := -1))
        have HJ := Lib.hid (show JOk (moreJ a.cs lo hi (-1)) by have := hga.cs.add (lo := lo) (hi := hi) (by_ := -1); rwa [had] at this)
        have HG0 := Lib.hid hG
        generalize hgs : goneJ a.cs lo hi (-1) = gs at *
        generalize hcs : moreJ a.cs lo hi (-1) = cs at *
        clear h e hG hga ha hid hlo hhi hok hm had hgs hcs hgm
        go_enter Try.func17, Try.ntmps17
        go_wp2_with fail
        refine HK.out.mono ?_
        rintro e w5 ⟨u5, P2, rfl, r5, o5, ea, eg, hb2, ht2, ho2⟩
        rw [HAD.out] at r5 hb2 ⊢
        simp only at r5 hb2 ⊢
        have hu5 : ∀ b, u5.ownBlock = some b → b ∉ [P2.g] := fun b e hm => by
          have h1 := o5 b e
          have h2 : b = P2.g := by simpa using hm
          have h3 := (HH.out.am.each i a HA.out).glt
          rw [← eg] at h3
          omega
        have hcl := pa_clear hb2 r5 hu5 HGM.out HGN.out hlen (by omega)
        rw [ea] at hcl
        have HCl := Lib.hid hcl
        obtain ⟨sx, cx, rfl⟩ := rowOf_form r5
        have HT2 := Lib.hid ht2
        have HO2 := Lib.hid ho2
        have HEA := Lib.hid ea
        have HEG := Lib.hid eg
        have hb5 : w.heap.size ≤ w5.heap.size := ht2.size
        clear hb2 r5 o5 hu5 hcl ht2 ho2 ea eg HK
        go_wp2_with fail
        refine HCl.out.mono ?_
        rintro e w6 ⟨u6, rfl, hI⟩
        have hT : Turn (S i).blk w w6 := HT2.out.trans hI.turn fun b hb => .inl (AmP.mem.2 (.inr (.inl (by have e := List.mem_singleton.1 hb; rw [e, HEG.out]))))
        obtain ⟨m1, m2, m3⟩ := PoolA.turned dsS HH.out HA.out hI.am HEA.out hT HO2.out
        have HP := Lib.hid m1
        have HPT := Lib.hid m2
        have HPO := Lib.hid m3
        have HI := Lib.hid hI
        have a1 := hI.am.at.1
        rw [HEA.out] at a1
        have HS := Lib.hid (spOk.sum hI.am.d HJ.out)
        obtain ⟨y, hy⟩ : ∃ y, sumJ cs = y := ⟨_, rfl⟩
        rw [hy] at HS HE HG0
        obtain ⟨sa, sc, rfl⟩ := OwnOf.form hI.own
        clear m1 m2 m3 hT hI HCl
        by_cases h0 : y = 0
        · have d3 : (y == 0) = true := by simp [h0]
          rw [if_pos h0] at HG0 HE
          obtain ⟨gv, cv, rfl⟩ := HH.out.there (by omega)
          clear h0 hy
          go_wp2_with fail
          refine HS.out.mono ?_
          rintro e w7 ⟨rfl, g7⟩
          have hp7 := PoolA.grow dsS HP.out g7
          have him : i < most := by omega
          have p1 := hp7.at.2
          have p2 := hp7.live (j := i) him (x := ⟨cs, wipeA a.as gs⟩) (by rw [List.getElem?_set, if_pos rfl, if_pos hi'])
          rw [updA_same] at p2
          have p3 := hp7.vfrozen i
          obtain ⟨n1, n2, n3⟩ := hp7.gone dsS him
          have HN1 := Lib.hid n1
          have HN2 := Lib.hid n2
          have HN3 := Lib.hid n3
          have hgv := HH.out.vlt (b := gv) rfl
          have HG7 := Lib.hid g7
          clear hp7 n1 n2 n3 g7
          go_wp2_with fail
          go_ret2
          rw [HE.out]
          refine ⟨_, rfl, OwnOf.row (OwnOf.kept (OwnOf.grow HI.out.own HG7.out) fun b e => heap_setCell_other _ ⟨gv, i, none⟩ b _ ?_), fun b e => Nat.le_trans hb5 (OwnOf.lt HI.out.own e).1, _, ⟨.slice (some ⟨gv, 0, none⟩) most cv, updA S i P2, ?_, HG0.out, rfl⟩, (HPT.out.trans' (Turn.grown HG7.out)).trans HN2.out HPO.out, fun b hb => HPO.out b (HN3.out b ?_)⟩
          · have h1 := (OwnOf.lt HI.out.own e).1
            first
              | exact fun e => by (have e : gv = b := e); omega
              | exact fun e => by (have e : b = gv := e); omega
          · have h1 := HN1.out
            rw [List.set_set] at h1
            exact h1
          · rw [List.set_set]; exact hb
        · have d3 : (y == 0) = false := by simpa using h0
          rw [if_neg h0] at HG0 HE
          clear h0 hy
          go_wp2_with fail
          refine HS.out.mono ?_
          rintro e w7 ⟨rfl, g7⟩
          have HG7 := Lib.hid g7
          clear g7
          go_wp2_with fail
          go_ret2
          rw [HE.out]
          exact ⟨_, rfl, rowOf_grow (OwnOf.row HI.out.own) HG7.out, fun b e => Nat.le_trans hb5 (OwnOf.lt HI.out.own e).1, _, ⟨v, updA S i P2, PoolA.grow dsS HP.out HG7.out, HG0.out, rfl⟩, HPT.out.trans' (Turn.grown HG7.out), HPO.out⟩
      · rw [drop_no ha fun k => hm k.2]
        have HAD := Lib.hid (addJ_no hm)
        clear h e hG hga ha hid hlo hhi hok hm
        go_enter Try.func17, Try.ntmps17
        go_wp2_with fail
        refine HK.out.mono ?_
        rintro e w5 ⟨u5, P2, rfl, r5, o5, ea, eg, hb2, ht2, ho2⟩
        rw [HAD.out] at r5 hb2 ⊢
        simp only at r5 hb2 ⊢
        have hf := PA.turned HH.out (grown_refl w none) HA.out hb2 ea ht2 ho2 (by rw [set_same HA.out]; exact hg)
        rw [show (⟨a.cs, a.as⟩ : AmV) = a from rfl, set_same HA.out] at hf
        have HF := Lib.hid hf
        obtain ⟨sx, cx, rfl⟩ := rowOf_form r5
        clear r5 hb2 ht2 ho2 hf o5
        go_wp2_with fail
        go_ret2
        exact ⟨_, rfl, RowAt.nil _ _, (fun b e => by cases e), HF.out⟩
    · rw [drop_no ha fun k => hok ⟨k.1.2.1, may_cov k.2⟩]
      have HK := Lib.hid (pa_cover_bad h hg ha lo hi (-1) hlo hhi hok)
      have HR := Lib.hid (fun W (k : w.grownBy W none) => PA.nothing h hg k 0 (e := 2))
      clear h e hG hga ha hok
      go_enter Try.func17, Try.ntmps17
      go_wp2_with fail
      refine HK.out.mono ?_
      rintro e w2 ⟨rfl, g2⟩
      have HG := Lib.hid g2
      clear g2
      go_wp2_with fail
      go_ret2
      exact HR.out _ HG.out
end
end Go.Proofs.Ytfmihbiongnpnaa
