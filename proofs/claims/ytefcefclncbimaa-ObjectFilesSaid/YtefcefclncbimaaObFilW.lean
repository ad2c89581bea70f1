/- ObjectFiles, walked out of what package object says. -/
import Derived.Test.YtefcefclncbimaaObFil
import Derived.Test.YtefcefclncbimaaZUints
import Derived.BigQuiet
import Derived.Deep.QuietTactic
namespace Go.Proofs.Ytefcefclncbimaa
open Go.ChangeShapes Go.WideShapes Go.ChangeAt Go.RowKit Go.Deep
set_option linter.unusedVariables false

theorem eql_pool_nil (w : World) (a : Addr) : (binOp .eql 24 (.pointer (some a)) (.pointer none)).run Try.prog w = .ok (.bool false) w := by go_simp
set_option maxRecDepth 100000 in
set_option maxHeartbeats 1000000 in
theorem files_walk14 {D : World → Nat → Nat → ObL → List Nat → Prop} (H : ObOk D) (w : World) (sa : Option Addr) (l c : Nat) (ds : List Int) (x0 : Int) (hx0 : okU x0) (hU : UintsAre w sa l ds) :
    Calls Try.prog 7 #[.slice sa l c, .int .u64 x0] w fun e w' => e = .returned (.bool true) ∧ w.grownBy w' none := by
  have HLv := Lib.hid (fun wx => lives14 H wx)
  have HT := Lib.hid H
  have HU := Lib.hid hU
  have HN := Lib.hid (H.new 40 w (by decide))
  have hq0 := eql_pool_nil
  have hq1 := neq_pool_nil
  by_cases hl30 : l ≤ 30
  · have d30 : decide ((l : Int) > 30) = false := decide_eq_false (by omega)
    obtain ⟨k, hk1, hk2⟩ : ∃ k : Nat, x0 % 4096 = k ∧ k < 4096 := ⟨(x0 % 4096).toNat, by omega, by omega⟩
    have hkm : x0.tmod 4096 = (k : Int) := by rw [Int.tmod_eq_emod_of_nonneg hx0.1]; exact hk1
    clear H hU hk1
    go_enter Try.func7, Try.ntmps7
    go_wp2_with fail
    refine HN.out.mono ?_
    rintro e w1 ⟨p, O, rfl, h1, g1, o1⟩
    have H1 := Lib.hid (show FJ D w w1 p 40 (filesL k []) O (.slice none 0 0) (.slice none 0 0) [] [] from ⟨⟨h1, o1, g1⟩, OwnOf.nil _ _, OwnOf.nil _ _, (fun b e => by cases e), (fun b e => by cases e), fun b e => by cases e⟩)
    clear h1 g1 o1 HN
    go_wp2_with fail
    go_loopw [7, 8, 39] (fun uv vv iv wr => ∃ (j : Nat) (F Y : List Int) (O : List Nat), j ≤ l ∧ iv = .int .i64 (j : Int) ∧ Hid (F.length ≤ j) ∧ Hid (∀ g, g ∈ F → 0 ≤ g ∧ g < 4) ∧ Hid (Y = (List.range F.length).map fun i : Nat => (i : Int) + 1) ∧ Hid (FJ D w wr p 40 (filesL k F) O uv vv Y F)) (fun _ _ iv _ => l - (intOf iv).toNat)
    case atStart => exact ⟨0, [], [], O, by omega, rfl, Lib.hid (Nat.le_refl _), Lib.hid (fun g hg => by cases hg), Lib.hid rfl, H1⟩
    case round =>
      clear H1
      obtain ⟨j, F, Y, O, hj, rfl, HF, HR4, HY, HJ⟩ := hrel
      have hfl := HF.out
      have HYl := Lib.hid (show Y.length = F.length by rw [HY.out, List.length_map, List.length_range])
      have hyb : Y.length ≤ 30 := by have := HYl.out; omega
      by_cases hlt : j < l
      · obtain ⟨d, g, o, hd, hs, cd, hdo⟩ := HU.out.get j hlt
        have cd2 := HJ.out.o.grown.cell (a := ⟨g, o + j, none⟩) cd (by simp)
        subst hs
        obtain ⟨f, hf1, hf2⟩ : ∃ f : Nat, d % 4 = f ∧ f < 4 := ⟨(d % 4).toNat, by omega, by omega⟩
        have hfm : d.tmod 4 = (f : Int) := by rw [Int.tmod_eq_emod_of_nonneg hdo.1]; exact hf1
        have hgd := HT.out.good HJ.out.o.d
        have hk := HT.out.make HJ.out.o.d (f : Int) (okS (by omega) (by omega))
        obtain ⟨su, cu, hu⟩ := OwnOf.form HJ.out.r
        obtain ⟨sv, cv, hv⟩ := OwnOf.form HJ.out.s
        subst hu hv
        obtain ⟨mk, hmk⟩ : ∃ mk, makeO 40 (filesL k F) (f : Int) = mk := ⟨_, rfl⟩
        rw [hmk] at hk
        obtain ⟨mn, me, ml⟩ := mk
        simp only at hk
        have HMk := Lib.hid hmk
        have HGd := Lib.hid hgd
        have HK := Lib.hid hk
        clear hk hf1 hd cd hdo hgd hmk
        go_wp2_with fail
        refine HK.out.mono ?_
        rintro e w5 ⟨rfl, h5⟩
        obtain ⟨O5, h5⟩ := HJ.out.left h5
        have H5 := Lib.hid h5
        clear h5 HK HJ
        go_wp2_with fail
        go_loopw [14, 54] (fun tv iv wr => ∃ i : Nat, i ≤ F.length ∧ iv = .int .i64 (i : Int) ∧ tv = .bool (twiceO (f : Int) (F.take i)) ∧ wr = w5) (fun _ iv _ => F.length - (intOf iv).toNat)
        case atStart => exact ⟨0, by omega, rfl, by simp [twiceO], rfl⟩
        case round =>
          obtain ⟨i, hi, rfl, rfl, rfl⟩ := hrel
          by_cases hlt2 : i < F.length
          · obtain ⟨z, hz⟩ : ∃ z, F[i]? = some z := ⟨_, List.getElem?_eq_getElem hlt2⟩
            obtain ⟨g8, o8, cc, hv8, k0⟩ := z_cells (OwnOf.row H5.out.s) hz
            injection hv8 with e1 e2 e3
            subst e1 e3
            have HS := Lib.hid (twice_snoc (f := (f : Int)) hz)
            clear hz
            rcases Bool.eq_false_or_eq_true (twiceO (f : Int) (F.take i)) with hb | hb
            · rw [hb] at HS
              rw [hb]
              go_wp2_with fail
              go_roundw
              case rel => exact ⟨i + 1, by omega, by go_num, by rw [HS.out]; rfl, by trivial⟩
              case measure => simp [intOf]; omega
            · rw [hb] at HS
              rw [hb]
              by_cases hfp : 0 < f
              · have d0 : decide (0 < f) = true := decide_eq_true hfp
                have d1 : decide ((0 : Int) < (f : Int)) = true := decide_eq_true (by omega)
                rw [d1] at HS
                go_wp2_with fail
                go_roundw
                case rel => exact ⟨i + 1, by omega, by go_num, by rw [HS.out]; rfl, by trivial⟩
                case measure => simp [intOf]; omega
              · have d0 : decide (0 < f) = false := decide_eq_false hfp
                have d1 : decide ((0 : Int) < (f : Int)) = false := decide_eq_false (by omega)
                rw [d1] at HS
                go_wp2_with fail
                go_roundw
                case rel => exact ⟨i + 1, by omega, by go_num, by rw [HS.out]; rfl, by trivial⟩
                case measure => simp [intOf]; omega
          · obtain rfl : i = F.length := by omega
            rw [List.take_length]
            cases htw : twiceO (f : Int) F with
            | true =>
              obtain ⟨t0, t1⟩ := twice_iff.1 htw
              have hmk := HMk.out
              rw [make_busy (by omega) (files_busy HGd.out t0 t1)] at hmk
              injection hmk with e1 e2 e3
              subst e1 e2 e3
              clear htw t0 t1 HMk
              go_wp2_with fail
              go_roundw
              case rel => exact ⟨j + 1, F, Y, O5, by omega, by go_num, Lib.hid (by omega), HR4, HY, H5⟩
              case measure => simp [intOf]; omega
            | false =>
              have htn : ¬ (0 < (f : Int) ∧ (f : Int) ∈ F) := fun h => by rw [twice_iff.2 h] at htw; cases htw
              have hmk := HMk.out
              rw [files_make htn (by omega) (by omega)] at hmk
              injection hmk with e1 e2 e3
              subst e1 e2 e3
              have hk := HT.out.put H5.out.o.d ((F.length : Int) + 1) (k : Int) (F.length : Int) 0 false (okS (by omega) (by omega)) (okS (by omega) (by omega))
              rw [files_put files_len (by omega), ← files_more] at hk
              have HK := Lib.hid (show Calls Try.prog 15 #[.pointer (some ⟨p, 0, none⟩), .int .i64 ((F.length : Int) + 1), .int .i64 (k : Int), .agg #[.int .i64 (Y.length : Int), .int .i64 0, .bool false]] wr fun e w' => e = .returned (.int .i64 0) ∧ ALo D wr w' p 40 O5 (filesL (k : Int) (F ++ [(f : Int)])) by rw [HYl.out]; exact hk)
              have HY2 := Lib.hid (show Y ++ [(F.length : Int) + 1] = (List.range (F ++ [(f : Int)]).length).map fun i : Nat => (i : Int) + 1 by rw [HY.out, List.length_append, List.length_singleton, List.range_succ, List.map_append]; rfl)
              clear hk htw htn HMk
              go_wp2_with fail
              refine HK.out.mono ?_
              rintro e w6 ⟨rfl, h6⟩
              obtain ⟨O6, h6⟩ := H5.out.left h6
              have H6 := Lib.hid h6
              have hws6 : w.heap.size ≤ w6.heap.size := h6.o.grown.size
              clear h6 HK
              go_wp2_with (first
                | (at_builtin; refine wpList_zpush2 w6 rfl _ _ rfl w.heap.size (.slice su Y.length cu) Y ((F.length : Int) + 1) rfl H6.out.r w6.heap.size 1 rfl rfl (by omega) hws6 ?_; intro g9 c9 w9 hown9 hgrow9 hat9; have H7 := Lib.hid (H6.out.push HT.out.toStOkO hgrow9 hown9 hat9); have hws7 : w.heap.size ≤ w9.heap.size := H7.out.o.grown.size; clear hown9 hgrow9 hat9)
                | (at_builtin; refine wpList_zpush2 w9 rfl _ _ rfl w.heap.size (.slice sv F.length cv) F (f : Int) rfl H7.out.s w9.heap.size 1 rfl rfl (by omega) hws7 ?_; intro g8 c8 w8 hown8 hgrow8 hat8; have H8 := Lib.hid (H7.out.swap.push HT.out.toStOkO hgrow8 hown8 hat8).swap; clear hown8 hgrow8 hat8))
              go_roundw
              case rel => exact ⟨j + 1, F ++ [(f : Int)], _, O6, by omega, by go_num, Lib.hid (by simp; omega), Lib.hid (fun g hg => by
                rcases List.mem_append.1 hg with h | h
                · exact HR4.out g h
                · have := List.mem_singleton.1 h; omega), HY2, H8⟩
              case measure => simp [intOf]; omega
      · obtain rfl : j = l := by omega
        obtain ⟨su, cu, hu⟩ := OwnOf.form HJ.out.r
        obtain ⟨sv, cv, hv⟩ := OwnOf.form HJ.out.s
        have hgd := HT.out.good HJ.out.o.d
        subst hu hv
        go_wp2_with fail
        go_loopw [102] (fun iv wr => ∃ i : Nat, i ≤ Y.length ∧ iv = .int .i64 (i : Int) ∧ Hid (FJ D w wr p 40 (filesL (k : Int) F) O (.slice su Y.length cu) (.slice sv F.length cv) Y F)) (fun iv _ => Y.length - (intOf iv).toNat)
        case atStart => exact ⟨0, by omega, rfl, HJ⟩
        case round =>
          clear HJ
          obtain ⟨i, hi, rfl, HJ⟩ := hrel
          by_cases hlt : i < Y.length
          · have hlF : i < F.length := by rw [← HYl.out]; exact hlt
            obtain ⟨f, hf⟩ : ∃ f, F[i]? = some f := ⟨_, List.getElem?_eq_getElem hlF⟩
            have hyi : Y[i]? = some ((i : Int) + 1) := by rw [HY.out, List.getElem?_map, List.getElem?_range hlF]; rfl
            obtain ⟨g1, o1, c1, hv1, k0⟩ := z_cells (OwnOf.row HJ.out.r) hyi
            injection hv1 with e1 e2 e3
            subst e1 e3
            have hk := HT.out.get HJ.out.o.d ((i : Int) + 1) (k : Int) (okS (by omega) (by omega)) (okS (by omega) (by omega))
            rw [files_get hf] at hk
            unfold getVO pgAgg at hk
            simp only at hk
            have HK := Lib.hid hk
            have HFi := Lib.hid (files_file (k := (k : Int)) hf)
            have HFd := Lib.hid (fun h0 : 0 < f => files_find hgd hf h0)
            have HFf := Lib.hid hf
            clear hk hyi hf
            go_wp2_with fail
            refine HK.out.mono ?_
            rintro e w6 ⟨rfl, g6⟩
            have g7 := grown_trans g6 (World.grownBy_alloc w6 (.cells #[.int .i64 (i : Int), .int .i64 0, .bool false] 30 (0, 0)) none)
            have hJ7 := HJ.out.grow HT.out.toStOkO g7
            obtain ⟨g2, o2, c2, hv2, k2⟩ := z_cells (OwnOf.row hJ7.s) HFf.out
            injection hv2 with e1 e2 e3
            subst e1 e3
            have hbx : (w6.alloc (.cells #[.int .i64 (i : Int), .int .i64 0, .bool false] 30 (0, 0))).cell? ⟨w6.heap.size, 0, none⟩ = some (.int .i64 (i : Int)) := by
              have h := heap_alloc_new w6 (.cells #[.int .i64 (i : Int), .int .i64 0, .bool false] 30 (0, 0))
              rw [cell_of_row _ _ _ _ _ _ h]; rfl
            have HB := Lib.hid hJ7
            have hio : okI ((i : Int) + 1) := okS (by omega) (by omega)
            have hgf := ofO_good hgd (ofO_at (files_at (k := (k : Int)) hlF))
            have hfo : okI f := by
              have e : F.getD i 0 = f := by rw [List.getD_eq_getElem?_getD, HFf.out]; rfl
              have h0 := hgf.f0
              have h1 := hgf.f1
              simp only at h0 h1
              rw [e] at h0 h1
              exact ⟨by omega, h1⟩
            clear g6 g7 HK HJ k0 hJ7 hgf
            have HQ1 := Lib.hid (fun n : Nat => by have h := HT.out.file (HB.out.o.grow HT.out.toStOkO (grown_draws (w6.alloc (.cells #[.int .i64 (i : Int), .int .i64 0, .bool false] 30 (0, 0))) n)).d ((i : Int) + 1) hio; rw [HFi.out] at h; exact h)
            have HQ2 := Lib.hid (fun (h0 : 0 < f) (n : Nat) => by have h := HT.out.of (HB.out.o.grow HT.out.toStOkO (grown_draws (w6.alloc (.cells #[.int .i64 (i : Int), .int .i64 0, .bool false] 30 (0, 0))) n)).d f hfo; rw [HFd.out h0] at h; exact h)
            clear HFf
            by_cases hf0 : 0 < f
            · have d0 : decide (f > 0) = true := decide_eq_true hf0
              go_wp2_with fail
              go_quiet (first
                | (go_at_call 23; exact Calls.quiet_of_same (HQ1.out _))
                | (go_at_call 21; exact Calls.quiet_of_same (HQ2.out hf0 _)))
              go_wp2_with fail
              go_roundw
              case rel => exact ⟨i + 1, by omega, by go_num, Lib.hid (HB.out.grow HT.out.toStOkO (grown_draws _ _))⟩
              case measure => simp [intOf]; omega
            · have d0 : decide (f > 0) = false := decide_eq_false hf0
              go_wp2_with fail
              go_quiet (first
                | (go_at_call 23; exact Calls.quiet_of_same (HQ1.out _)))
              go_wp2_with fail
              go_roundw
              case rel => exact ⟨i + 1, by omega, by go_num, Lib.hid (HB.out.grow HT.out.toStOkO (grown_draws _ _))⟩
              case measure => simp [intOf]; omega
          · obtain rfl : i = Y.length := by omega
            have HI := Lib.hid (HT.out.ids HJ.out.o.d)
            have hil : (idsO (filesL (k : Int) F)).length = Y.length := by rw [files_ids, HYl.out]
            obtain ⟨m, hm⟩ : ∃ m, Y.length = m := ⟨_, rfl⟩
            rw [hm] at hil
            have HM := Lib.hid hil
            clear hil
            rw [hm]
            go_wp2_with fail
            refine HI.out.mono ?_
            rintro e w6 ⟨u, rfl, hu, -, g6⟩
            obtain ⟨s6, c6, hv6⟩ := rowOf_form hu
            rw [HM.out] at hv6
            subst hv6
            have HG6 := Lib.hid (grown_trans HJ.out.o.grown g6)
            clear hu g6
            go_wp2_with fail
            refine (HLv.out _).mono ?_
            rintro e w7 ⟨rfl, g7⟩
            have HG7 := Lib.hid (grown_trans HG6.out g7)
            clear g7
            go_wp2_with fail
            go_ret
            exact ⟨rfl, HG7.out⟩
  · have d30 : decide ((l : Int) > 30) = true := decide_eq_true (by omega)
    clear H hU
    go_enter Try.func7, Try.ntmps7
    go_wp2_with fail
    refine HN.out.mono ?_
    rintro e w1 ⟨p, O, rfl, -, g1, -⟩
    have HG := Lib.hid g1
    clear g1 HN
    go_wp2_with fail
    refine (HLv.out _).mono ?_
    rintro e w2 ⟨rfl, g2⟩
    have HG2 := Lib.hid (grown_trans HG.out g2)
    clear g2
    go_wp2_with fail
    go_ret
    exact ⟨rfl, HG2.out⟩
end Go.Proofs.Ytefcefclncbimaa
