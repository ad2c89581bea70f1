/- WalkFinds, walked out of what package walk says: it answers true, and nothing that was there has turned. -/
import Derived.Test.YtomkhdefjfjlnaaWFinds1
import Derived.Test.YtomkhdefjfjlnaaWWrites
namespace Go.Proofs.Ytomkhdefjfjlnaa
open Go.ChangeShapes Go.WideShapes Go.ChangeAt Go.RowKit Go.Deep
set_option linter.unusedVariables false

theorem okI_8 : okI 8 := ⟨by decide, by decide⟩
theorem okI_38 : okI 274877906944 := ⟨by decide, by decide⟩
theorem UintsAre.grown {w w' : World} {g o l d : Nat} {xs : List Int} (h : UintsAre w (some ⟨g, o, none⟩) l xs) (G : w.grownBy w' (some d)) (hg : g ≠ d) : UintsAre w' (some ⟨g, o, none⟩) l xs := by
  refine ⟨h.len, ?_, h.ok⟩
  rcases h.cells with h0 | ⟨g2, o2, hs, hc⟩
  · exact .inl h0
  · cases hs
    exact .inr ⟨g, o, rfl, fun i x hi => World.grownBy.cell G (hc i x hi) (by simpa using hg)⟩

set_option maxRecDepth 100000 in
set_option maxHeartbeats 4000000 in
theorem finds_walk (HWalk : WalkOk) (w : World) (s : Option Addr) (l c : Nat) (Ps : List Int) (hP : UintsAre w s l Ps) (ask : Int) (wr : Bool) (hask : okU ask) :
    Calls Try.prog 7 #[.slice s l c, .int .u64 ask, .bool wr] w fun e w' => e = .returned (.bool true) ∧ Below w.heap.size w w' := by
  have HLv := Lib.hid (lives4 HWalk)
  unfold WalkOk at HWalk
  have HWk := Lib.hid HWalk
  have HP := Lib.hid hP
  have HA := Lib.hid hask
  clear HWalk hP hask
  by_cases hbig : 60 < l
  · have d0 : decide ((l : Int) > 60) = true := by simp; omega
    clear hbig
    go_enter Try.func7, Try.ntmps7
    go_wp2_with fail
    refine (HLv.out _).mono ?_
    rintro e w2 ⟨rfl, g2⟩
    have HB := Lib.hid (below_of_grown g2 (Nat.le_refl _) (by simp))
    clear g2
    go_wp2_with fail
    go_ret
    exact ⟨rfl, HB.out⟩
  · have d0 : decide ((l : Int) > 60) = false := by simp; omega
    have hl : l ≤ 60 := by omega
    clear hbig
    cases wr
    · have okI_way : okI 1 := ⟨by decide, by decide⟩
      have HB0 := Lib.hid ((Below.refl _ w).alloc (Nat.le_refl _) (.cells #[.int .i64 0, .int .i64 0, .int .i64 1, .int .i64 1, .int .i64 1, .int .i64 0, .int .i64 1, .int .i64 2] 66))
      have HW0 := Lib.hid (WordsOwn.base2 w)
      have HB1 := Lib.hid (HB0.out.alloc HB0.out.size (.cells (zerosI.map (Value.int .i64)).toArray 67))
      have HW1 := Lib.hid (HW0.out.kept (w' := (w.alloc (.cells #[.int .i64 0, .int .i64 0, .int .i64 1, .int .i64 1, .int .i64 1, .int .i64 0, .int .i64 1, .int .i64 2] 66)).alloc (.cells (zerosI.map (Value.int .i64)).toArray 67)) fun g hg => (World.grownBy_alloc _ (.cells (zerosI.map (Value.int .i64)).toArray 67) none).block g (HW0.out.lt hg).2 (by simp))
      have HY1 := Lib.hid (show ArrAt ((w.alloc (.cells #[.int .i64 0, .int .i64 0, .int .i64 1, .int .i64 1, .int .i64 1, .int .i64 0, .int .i64 1, .int .i64 2] 66)).alloc (.cells (zerosI.map (Value.int .i64)).toArray 67)) (w.heap.size + 1) zerosI by have h := heap_alloc_new (w.alloc (.cells #[.int .i64 0, .int .i64 0, .int .i64 1, .int .i64 1, .int .i64 1, .int .i64 0, .int .i64 1, .int .i64 2] 66)) (.cells (zerosI.map (Value.int .i64)).toArray 67); rw [show (w.alloc (.cells #[.int .i64 0, .int .i64 0, .int .i64 1, .int .i64 1, .int .i64 1, .int .i64 0, .int .i64 1, .int .i64 2] 66)).heap.size = w.heap.size + 1 by simp] at h; exact h)
      have hz := run_zero_ints
      go_enter Try.func7, Try.ntmps7
      go_wp2_with fail
      clear hz
      go_loopw [7, 37] (fun lv kv wr => ∃ (q : Nat) (Ws : List WordV) (ats : List Int), q ≤ l ∧ kv = .int .i64 q ∧ Ws.length = 2 + q ∧ Hid (WordsOwn wr w.heap.size lv Ws) ∧ Hid (ArrAt wr (w.heap.size + 1) ats) ∧ Hid (Spread (madeL noL Ws) ats) ∧ Hid (Below w.heap.size w wr)) (fun _ kv _ => l - (intOf kv).toNat)
      case atStart => exact ⟨0, _, _, by omega, rfl, rfl, HW1.out, HY1.out, Spread.base, HB1.out⟩
      case round =>
        obtain ⟨q, Ws, ats, hq, rfl, hWl, HW, HY, HS, HB⟩ := hrel
        by_cases hlt : q < l
        · obtain ⟨x, g, o, hx, rfl, hxc, hxo⟩ := (HP.out.below HB.out).get q hlt
          obtain ⟨j, hj⟩ : ∃ j : Nat, x % 512 = (j : Int) := ⟨(x % 512).toNat, by omega⟩
          have hj5 : j < 512 := by omega
          have hx0 := hxo.1
          have hx1 := hxo.2
          obtain ⟨hc, hf⟩ := HY.out.cell j (by rw [HS.out.al]; exact hj5)
          have hq5 : 0 ≤ (q : Int) % 5 ∧ (q : Int) % 5 < 5 := by omega
          have HYt := Lib.hid (HW.out.tag HY.out (by decide))
          have HY6 := Lib.hid (HY.out.set j (1 + (q : Int) % 5))
          have HW6 := Lib.hid (HW.out.kept (w' := wr.setCell ⟨w.heap.size + 1, j, none⟩ (.int .i64 (1 + (q : Int) % 5))) fun b hb => heap_setCell_other wr _ b _ (by simpa using fun e => HYt.out (by rw [← e]; exact hb)))
          have HB6 := Lib.hid (show Below w.heap.size w (wr.setCell ⟨w.heap.size + 1, j, none⟩ (.int .i64 (1 + (q : Int) % 5))) from HB.out.grown (grown_setCells wr (w.heap.size + 1) j [.int .i64 (1 + (q : Int) % 5)]) HB.out.size (by intro b hb; cases hb; omega))
          have HS6 := Lib.hid (HS.out.put j hj5 (1 + (q : Int) % 5) (by omega))
          have HQ := Lib.hid hq5
          clear hx hxo hq5
          have hyl := Nat.lt_of_lt_of_le HY.out.lt (grown_setCells wr (w.heap.size + 1) j [.int .i64 (1 + (q : Int) % 5)]).size
          go_wp2_with (at_builtin; refine wpList_word _ rfl _ _ rfl w.heap.size _ Ws ⟨2, j, 23, 3 + (q : Int) % 5⟩ (by rfl) HW6.out wr.heap.size _ (by rfl) (by simp [World.setCell]) (by omega) HB.out.size ?_; intro g8 cap8 w8 hown8 hg8)
          have HW8 := Lib.hid hown8
          have HG8 := Lib.hid hg8
          have HSn := Lib.hid (madeL_snoc ⟨2, j, 23, 3 + (q : Int) % 5⟩ Ws noL)
          clear hown8 hg8 hc hf hyl
          go_wp2_with fail
          go_roundw
          case rel =>
            have hga := World.grownBy_alloc (wr.setCell ⟨w.heap.size + 1, j, none⟩ (.int .i64 (1 + (q : Int) % 5))) (.cells #[.int .i64 2, .int .i64 (j : Int), .int .i64 23, .int .i64 (3 + (q : Int) % 5)] 66) none
            have hba := HB6.out.grown hga HB6.out.size (by simp)
            refine ⟨q + 1, Ws ++ [⟨2, j, 23, 3 + (q : Int) % 5⟩], ats.set j (1 + (q : Int) % 5), by omega, by go_num, by simp; omega, ?_, ?_, ?_, ?_⟩
            · show WordsOwn _ _ _ _
              have h := HW8.out
              rw [hWl] at h
              exact h
            · exact blk_kept (blk_kept HY6.out hga (by simp)) HG8.out HYt.out
            · rw [HSn.out]
              have h := HS6.out
              have e : (2 : Int) + (1 + (q : Int) % 5) = 3 + (q : Int) % 5 := by omega
              rw [e] at h
              exact h
            · exact hba.grown HG8.out hba.size (fun b hb => (HW.out.lt hb).1)
          case measure => simp [intOf]; omega
        · obtain rfl : q = l := by omega
          obtain ⟨a7, c7, rfl⟩ := HW.out.form
          have hwa := HW.out.are
          rw [hWl] at hwa
          have HWA := Lib.hid hwa
          clear hwa
          go_wp2_with fail
          with_reducible refine (made_ok wr a7 (2 + q) c7 Ws HWA.out (by omega)).mono ?_
          rintro e w2 ⟨m, d, r, f, R, rfl, h2⟩
          have HT2 := Lib.hid (h2.st.lower HB.out)
          have hYd : w.heap.size + 1 ≠ d := by have := h2.st.dge; have := HY.out.lt; omega
          have HY2 := Lib.hid (blk_kept HY.out (grown_of_below h2.st.below none) (by simp))
          have hMge := h2.st.mge
          clear h2 hMge
          have HPw := Lib.hid (HP.out.below ((HT2.out.below).alloc HT2.out.below.size (.cells #[] 53)))
          have hPl := HP.out.len
          have hd2 := HT2.out.dlt
          have hs2 := HT2.out.below.size
          have hOk : ∀ x, x ∈ Ps ++ [ask] → okU x := by
            intro x hx
            rw [List.mem_append, List.mem_singleton] at hx
            rcases hx with hx | rfl
            · exact HP.out.ok x hx
            · exact HA.out
          have HOk := Lib.hid hOk
          clear hOk
          go_wp2_with (at_builtin; first | (refine wpList_cloneU rfl _ _ rfl w2.heap.size (heap_alloc_new w2 _) (by rfl) s q c Ps (by rfl) HPw.out (by omega) ?_; intro g9 cap9 w9 hown9 hg9; have HO9 := Lib.hid hown9; have HG9 := Lib.hid (grown_alloc_then hg9); clear hown9 hg9) | (refine wpList_uint w9 rfl _ _ rfl w2.heap.size _ Ps ask (by rfl) HO9.out w9.heap.size _ (by rfl) rfl (by omega) HG9.out.size ?_; intro g10 cap10 w10 hown10 hg10))
          have HO10 := Lib.hid hown10
          have hg9l := (HO9.out.lt (g := g9) rfl).1
          have HG10 := Lib.hid (grown_some (grown_trans HG9.out (World.grownBy_alloc w9 (.cells #[.int .u64 ask] 53) none)) hg10 hg9l)
          have hg10l := (HO10.out.lt (g := g10) rfl).1
          have HS10 := Lib.hid (HT2.out.grow HG10.out)
          have HY10 := Lib.hid (blk_kept HY2.out HG10.out (by simp))
          have HU10 := Lib.hid (HO10.out.are (by simp) HOk.out)
          have hgd : g10 ≠ d := by omega
          clear hown10 hg10 hd2 hs2
          rw [hPl] at HU10
          have hYd2 := hYd
          go_loopw [73] (fun kv wy => ∃ (t : Nat) (LL : List UInt8), t ≤ q + 1 ∧ kv = .int .i64 t ∧ Hid (St w wy m d 8 LL) ∧ Hid (Spread LL ats) ∧ Hid (ArrAt wy (w.heap.size + 1) ats) ∧ Hid (UintsAre wy (some ⟨g10, 0, none⟩) (q + 1) (Ps ++ [ask]))) (fun kv _ => q + 1 - (intOf kv).toNat)
          case atStart => exact ⟨0, _, by omega, rfl, HS10.out, HS.out, HY10.out, HU10.out⟩
          case round =>
            obtain ⟨t, LL, ht, rfl, HSt, HSp, HYt, HUt⟩ := hrel
            by_cases htl : t < q + 1
            · obtain ⟨x, gx, ox, hx, hge, hxc, hxo⟩ := HUt.out.get t htl
              obtain ⟨j, hj⟩ : ∃ j : Nat, x % 512 = (j : Int) := ⟨(x % 512).toNat, by omega⟩
              have hj5 : j < 512 := by omega
              have hx0 := hxo.1
              have hx1 := hxo.2
              cases hge
              rw [Nat.zero_add] at hxc
              obtain ⟨v, hv⟩ : ∃ v, ats.getD j 0 = v := ⟨_, rfl⟩
              have hvr := HSp.out.rng j
              rw [hv] at hvr
              obtain ⟨v0, v5⟩ := hvr
              have hte := HSp.out.tells j hj5 1 (by decide)
              rw [hv] at hte
              have HSp2 := Lib.hid (HSp.out.walk j hj5 9 1 (by decide))
              have HVA := Lib.hid (show okI ((j : Int) * 4096 + 9) from ⟨by omega, by omega⟩)
              have HV := Lib.hid hv
              by_cases hv0 : v = 0
              · have htl2 := Lib.hid (hte.1 hv0)
                clear hx hxo hte
                go_wp2_with fail
                with_reducible refine (HWk.out w _ m d LL HSt.out HSp.out.clean 0 ((j : Int) * 4096 + 9) 1 true okI_0 HVA.out okI_way).mono ?_
                rw [htl2.out]
                rintro e w12 ⟨rfl, h12, g12⟩
                have HS12 := Lib.hid h12
                have HY12 := Lib.hid (show ArrAt w12 (w.heap.size + 1) ats from blk_kept HYt.out g12 (by simpa using Ne.symm hYd))
                have HU12 := Lib.hid (HUt.out.grown g12 hgd)
                obtain ⟨hc, hf⟩ := HY12.out.cell j (by rw [HSp.out.al]; exact hj5)
                rw [HV.out, hv0] at hc
                clear h12 g12 hxc hv hv0
                go_wp2_with fail
                go_roundw
                case rel => exact ⟨t + 1, _, by omega, by go_num, HS12.out, HSp2.out, HY12.out, HU12.out⟩
                case measure => simp [intOf]; omega
              · have htl2 := Lib.hid (hte.2 hv0)
                have e0 : (v == 0) = false := by simp [hv0]
                clear hx hxo hte
                go_wp2_with fail
                with_reducible refine (HWk.out w _ m d LL HSt.out HSp.out.clean 0 ((j : Int) * 4096 + 9) 1 true okI_0 HVA.out okI_way).mono ?_
                rw [htl2.out]
                rintro e w12 ⟨rfl, h12, g12⟩
                have HS12 := Lib.hid h12
                have HY12 := Lib.hid (show ArrAt w12 (w.heap.size + 1) ats from blk_kept HYt.out g12 (by simpa using Ne.symm hYd))
                have HU12 := Lib.hid (HUt.out.grown g12 hgd)
                obtain ⟨hc, hf⟩ := HY12.out.cell j (by rw [HSp.out.al]; exact hj5)
                rw [HV.out] at hc
                clear h12 g12 hxc hv hv0
                go_wp2_with fail
                go_roundw
                case rel => exact ⟨t + 1, _, by omega, by go_num, HS12.out, HSp2.out, HY12.out, HU12.out⟩
                case measure => simp [intOf]; omega
            · have O1 := Lib.hid (way_out LL 1).1
              have O2 := Lib.hid (way_out (walkL 8 LL 8 0 1 true) 1).2
              have HC2 := Lib.hid (HSp.out.clean.walk 8 0 1 true)
              go_wp2_with fail
              with_reducible refine (HWk.out w _ m d LL HSt.out HSp.out.clean 8 0 1 true okI_8 okI_0 okI_way).mono ?_
              rw [O1.out]
              rintro e w13 ⟨rfl, h13, g13⟩
              have HS13 := Lib.hid h13
              clear h13 g13
              go_wp2_with fail
              with_reducible refine (HWk.out w _ m d _ HS13.out HC2.out 0 274877906944 1 true okI_0 okI_38 okI_way).mono ?_
              rw [O2.out]
              rintro e w14 ⟨rfl, h14, g14⟩
              have HS14 := Lib.hid h14
              clear h14 g14
              go_wp2_with fail
              refine (HLv.out _).mono ?_
              rintro e w17 ⟨rfl, g17⟩
              have HBz := Lib.hid (HS14.out.below.trans (below_of_grown g17 HS14.out.below.size (by simp)))
              clear g17
              go_wp2_with fail
              go_ret
              exact ⟨rfl, HBz.out⟩
    · have okI_way : okI 2 := ⟨by decide, by decide⟩
      have HB0 := Lib.hid ((Below.refl _ w).alloc (Nat.le_refl _) (.cells #[.int .i64 0, .int .i64 0, .int .i64 1, .int .i64 1, .int .i64 1, .int .i64 0, .int .i64 1, .int .i64 2] 66))
      have HW0 := Lib.hid (WordsOwn.base2 w)
      have HB1 := Lib.hid (HB0.out.alloc HB0.out.size (.cells (zerosI.map (Value.int .i64)).toArray 67))
      have HW1 := Lib.hid (HW0.out.kept (w' := (w.alloc (.cells #[.int .i64 0, .int .i64 0, .int .i64 1, .int .i64 1, .int .i64 1, .int .i64 0, .int .i64 1, .int .i64 2] 66)).alloc (.cells (zerosI.map (Value.int .i64)).toArray 67)) fun g hg => (World.grownBy_alloc _ (.cells (zerosI.map (Value.int .i64)).toArray 67) none).block g (HW0.out.lt hg).2 (by simp))
      have HY1 := Lib.hid (show ArrAt ((w.alloc (.cells #[.int .i64 0, .int .i64 0, .int .i64 1, .int .i64 1, .int .i64 1, .int .i64 0, .int .i64 1, .int .i64 2] 66)).alloc (.cells (zerosI.map (Value.int .i64)).toArray 67)) (w.heap.size + 1) zerosI by have h := heap_alloc_new (w.alloc (.cells #[.int .i64 0, .int .i64 0, .int .i64 1, .int .i64 1, .int .i64 1, .int .i64 0, .int .i64 1, .int .i64 2] 66)) (.cells (zerosI.map (Value.int .i64)).toArray 67); rw [show (w.alloc (.cells #[.int .i64 0, .int .i64 0, .int .i64 1, .int .i64 1, .int .i64 1, .int .i64 0, .int .i64 1, .int .i64 2] 66)).heap.size = w.heap.size + 1 by simp] at h; exact h)
      have hz := run_zero_ints
      go_enter Try.func7, Try.ntmps7
      go_wp2_with fail
      clear hz
      go_loopw [7, 37] (fun lv kv wr => ∃ (q : Nat) (Ws : List WordV) (ats : List Int), q ≤ l ∧ kv = .int .i64 q ∧ Ws.length = 2 + q ∧ Hid (WordsOwn wr w.heap.size lv Ws) ∧ Hid (ArrAt wr (w.heap.size + 1) ats) ∧ Hid (Spread (madeL noL Ws) ats) ∧ Hid (Below w.heap.size w wr)) (fun _ kv _ => l - (intOf kv).toNat)
      case atStart => exact ⟨0, _, _, by omega, rfl, rfl, HW1.out, HY1.out, Spread.base, HB1.out⟩
      case round =>
        obtain ⟨q, Ws, ats, hq, rfl, hWl, HW, HY, HS, HB⟩ := hrel
        by_cases hlt : q < l
        · obtain ⟨x, g, o, hx, rfl, hxc, hxo⟩ := (HP.out.below HB.out).get q hlt
          obtain ⟨j, hj⟩ : ∃ j : Nat, x % 512 = (j : Int) := ⟨(x % 512).toNat, by omega⟩
          have hj5 : j < 512 := by omega
          have hx0 := hxo.1
          have hx1 := hxo.2
          obtain ⟨hc, hf⟩ := HY.out.cell j (by rw [HS.out.al]; exact hj5)
          have hq5 : 0 ≤ (q : Int) % 5 ∧ (q : Int) % 5 < 5 := by omega
          have HYt := Lib.hid (HW.out.tag HY.out (by decide))
          have HY6 := Lib.hid (HY.out.set j (1 + (q : Int) % 5))
          have HW6 := Lib.hid (HW.out.kept (w' := wr.setCell ⟨w.heap.size + 1, j, none⟩ (.int .i64 (1 + (q : Int) % 5))) fun b hb => heap_setCell_other wr _ b _ (by simpa using fun e => HYt.out (by rw [← e]; exact hb)))
          have HB6 := Lib.hid (show Below w.heap.size w (wr.setCell ⟨w.heap.size + 1, j, none⟩ (.int .i64 (1 + (q : Int) % 5))) from HB.out.grown (grown_setCells wr (w.heap.size + 1) j [.int .i64 (1 + (q : Int) % 5)]) HB.out.size (by intro b hb; cases hb; omega))
          have HS6 := Lib.hid (HS.out.put j hj5 (1 + (q : Int) % 5) (by omega))
          have HQ := Lib.hid hq5
          clear hx hxo hq5
          have hyl := Nat.lt_of_lt_of_le HY.out.lt (grown_setCells wr (w.heap.size + 1) j [.int .i64 (1 + (q : Int) % 5)]).size
          go_wp2_with (at_builtin; refine wpList_word _ rfl _ _ rfl w.heap.size _ Ws ⟨2, j, 23, 3 + (q : Int) % 5⟩ (by rfl) HW6.out wr.heap.size _ (by rfl) (by simp [World.setCell]) (by omega) HB.out.size ?_; intro g8 cap8 w8 hown8 hg8)
          have HW8 := Lib.hid hown8
          have HG8 := Lib.hid hg8
          have HSn := Lib.hid (madeL_snoc ⟨2, j, 23, 3 + (q : Int) % 5⟩ Ws noL)
          clear hown8 hg8 hc hf hyl
          go_wp2_with fail
          go_roundw
          case rel =>
            have hga := World.grownBy_alloc (wr.setCell ⟨w.heap.size + 1, j, none⟩ (.int .i64 (1 + (q : Int) % 5))) (.cells #[.int .i64 2, .int .i64 (j : Int), .int .i64 23, .int .i64 (3 + (q : Int) % 5)] 66) none
            have hba := HB6.out.grown hga HB6.out.size (by simp)
            refine ⟨q + 1, Ws ++ [⟨2, j, 23, 3 + (q : Int) % 5⟩], ats.set j (1 + (q : Int) % 5), by omega, by go_num, by simp; omega, ?_, ?_, ?_, ?_⟩
            · show WordsOwn _ _ _ _
              have h := HW8.out
              rw [hWl] at h
              exact h
            · exact blk_kept (blk_kept HY6.out hga (by simp)) HG8.out HYt.out
            · rw [HSn.out]
              have h := HS6.out
              have e : (2 : Int) + (1 + (q : Int) % 5) = 3 + (q : Int) % 5 := by omega
              rw [e] at h
              exact h
            · exact hba.grown HG8.out hba.size (fun b hb => (HW.out.lt hb).1)
          case measure => simp [intOf]; omega
        · obtain rfl : q = l := by omega
          obtain ⟨a7, c7, rfl⟩ := HW.out.form
          have hwa := HW.out.are
          rw [hWl] at hwa
          have HWA := Lib.hid hwa
          clear hwa
          go_wp2_with fail
          with_reducible refine (made_ok wr a7 (2 + q) c7 Ws HWA.out (by omega)).mono ?_
          rintro e w2 ⟨m, d, r, f, R, rfl, h2⟩
          have HT2 := Lib.hid (h2.st.lower HB.out)
          have hYd : w.heap.size + 1 ≠ d := by have := h2.st.dge; have := HY.out.lt; omega
          have HY2 := Lib.hid (blk_kept HY.out (grown_of_below h2.st.below none) (by simp))
          have hMge := h2.st.mge
          clear h2 hMge
          have HPw := Lib.hid (HP.out.below ((HT2.out.below).alloc HT2.out.below.size (.cells #[] 53)))
          have hPl := HP.out.len
          have hd2 := HT2.out.dlt
          have hs2 := HT2.out.below.size
          have hOk : ∀ x, x ∈ Ps ++ [ask] → okU x := by
            intro x hx
            rw [List.mem_append, List.mem_singleton] at hx
            rcases hx with hx | rfl
            · exact HP.out.ok x hx
            · exact HA.out
          have HOk := Lib.hid hOk
          clear hOk
          go_wp2_with (at_builtin; first | (refine wpList_cloneU rfl _ _ rfl w2.heap.size (heap_alloc_new w2 _) (by rfl) s q c Ps (by rfl) HPw.out (by omega) ?_; intro g9 cap9 w9 hown9 hg9; have HO9 := Lib.hid hown9; have HG9 := Lib.hid (grown_alloc_then hg9); clear hown9 hg9) | (refine wpList_uint w9 rfl _ _ rfl w2.heap.size _ Ps ask (by rfl) HO9.out w9.heap.size _ (by rfl) rfl (by omega) HG9.out.size ?_; intro g10 cap10 w10 hown10 hg10))
          have HO10 := Lib.hid hown10
          have hg9l := (HO9.out.lt (g := g9) rfl).1
          have HG10 := Lib.hid (grown_some (grown_trans HG9.out (World.grownBy_alloc w9 (.cells #[.int .u64 ask] 53) none)) hg10 hg9l)
          have hg10l := (HO10.out.lt (g := g10) rfl).1
          have HS10 := Lib.hid (HT2.out.grow HG10.out)
          have HY10 := Lib.hid (blk_kept HY2.out HG10.out (by simp))
          have HU10 := Lib.hid (HO10.out.are (by simp) HOk.out)
          have hgd : g10 ≠ d := by omega
          clear hown10 hg10 hd2 hs2
          rw [hPl] at HU10
          have hYd2 := hYd
          go_loopw [73] (fun kv wy => ∃ (t : Nat) (LL : List UInt8), t ≤ q + 1 ∧ kv = .int .i64 t ∧ Hid (St w wy m d 8 LL) ∧ Hid (Spread LL ats) ∧ Hid (ArrAt wy (w.heap.size + 1) ats) ∧ Hid (UintsAre wy (some ⟨g10, 0, none⟩) (q + 1) (Ps ++ [ask]))) (fun kv _ => q + 1 - (intOf kv).toNat)
          case atStart => exact ⟨0, _, by omega, rfl, HS10.out, HS.out, HY10.out, HU10.out⟩
          case round =>
            obtain ⟨t, LL, ht, rfl, HSt, HSp, HYt, HUt⟩ := hrel
            by_cases htl : t < q + 1
            · obtain ⟨x, gx, ox, hx, hge, hxc, hxo⟩ := HUt.out.get t htl
              obtain ⟨j, hj⟩ : ∃ j : Nat, x % 512 = (j : Int) := ⟨(x % 512).toNat, by omega⟩
              have hj5 : j < 512 := by omega
              have hx0 := hxo.1
              have hx1 := hxo.2
              cases hge
              rw [Nat.zero_add] at hxc
              obtain ⟨v, hv⟩ : ∃ v, ats.getD j 0 = v := ⟨_, rfl⟩
              have hvr := HSp.out.rng j
              rw [hv] at hvr
              obtain ⟨v0, v5⟩ := hvr
              have hte := HSp.out.tells j hj5 2 (by decide)
              rw [hv] at hte
              have HSp2 := Lib.hid (HSp.out.walk j hj5 9 2 (by decide))
              have HVA := Lib.hid (show okI ((j : Int) * 4096 + 9) from ⟨by omega, by omega⟩)
              have HV := Lib.hid hv
              by_cases hv0 : v = 0
              · have htl2 := Lib.hid (hte.1 hv0)
                clear hx hxo hte
                go_wp2_with fail
                with_reducible refine (HWk.out w _ m d LL HSt.out HSp.out.clean 0 ((j : Int) * 4096 + 9) 2 true okI_0 HVA.out okI_way).mono ?_
                rw [htl2.out]
                rintro e w12 ⟨rfl, h12, g12⟩
                have HS12 := Lib.hid h12
                have HY12 := Lib.hid (show ArrAt w12 (w.heap.size + 1) ats from blk_kept HYt.out g12 (by simpa using Ne.symm hYd))
                have HU12 := Lib.hid (HUt.out.grown g12 hgd)
                obtain ⟨hc, hf⟩ := HY12.out.cell j (by rw [HSp.out.al]; exact hj5)
                rw [HV.out, hv0] at hc
                clear h12 g12 hxc hv hv0
                go_wp2_with fail
                go_roundw
                case rel => exact ⟨t + 1, _, by omega, by go_num, HS12.out, HSp2.out, HY12.out, HU12.out⟩
                case measure => simp [intOf]; omega
              · have htl2 := Lib.hid (hte.2 hv0)
                have e0 : (v == 0) = false := by simp [hv0]
                clear hx hxo hte
                go_wp2_with fail
                with_reducible refine (HWk.out w _ m d LL HSt.out HSp.out.clean 0 ((j : Int) * 4096 + 9) 2 true okI_0 HVA.out okI_way).mono ?_
                rw [htl2.out]
                rintro e w12 ⟨rfl, h12, g12⟩
                have HS12 := Lib.hid h12
                have HY12 := Lib.hid (show ArrAt w12 (w.heap.size + 1) ats from blk_kept HYt.out g12 (by simpa using Ne.symm hYd))
                have HU12 := Lib.hid (HUt.out.grown g12 hgd)
                obtain ⟨hc, hf⟩ := HY12.out.cell j (by rw [HSp.out.al]; exact hj5)
                rw [HV.out] at hc
                clear h12 g12 hxc hv hv0
                go_wp2_with fail
                go_roundw
                case rel => exact ⟨t + 1, _, by omega, by go_num, HS12.out, HSp2.out, HY12.out, HU12.out⟩
                case measure => simp [intOf]; omega
            · have O1 := Lib.hid (way_out LL 2).1
              have O2 := Lib.hid (way_out (walkL 8 LL 8 0 2 true) 2).2
              have HC2 := Lib.hid (HSp.out.clean.walk 8 0 2 true)
              go_wp2_with fail
              with_reducible refine (HWk.out w _ m d LL HSt.out HSp.out.clean 8 0 2 true okI_8 okI_0 okI_way).mono ?_
              rw [O1.out]
              rintro e w13 ⟨rfl, h13, g13⟩
              have HS13 := Lib.hid h13
              clear h13 g13
              go_wp2_with fail
              with_reducible refine (HWk.out w _ m d _ HS13.out HC2.out 0 274877906944 2 true okI_0 okI_38 okI_way).mono ?_
              rw [O2.out]
              rintro e w14 ⟨rfl, h14, g14⟩
              have HS14 := Lib.hid h14
              clear h14 g14
              go_wp2_with fail
              refine (HLv.out _).mono ?_
              rintro e w17 ⟨rfl, g17⟩
              have HBz := Lib.hid (HS14.out.below.trans (below_of_grown g17 HS14.out.below.size (by simp)))
              clear g17
              go_wp2_with fail
              go_ret
              exact ⟨rfl, HBz.out⟩
end Go.Proofs.Ytomkhdefjfjlnaa
