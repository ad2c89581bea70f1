/- SwapActs, walked out of what package swap says, beside the document's own device. -/
import Derived.Test.YtnfofhnjeinmfaaVActs
namespace Go.Proofs.Ytnfofhnjeinmfaa
open Go.ChangeShapes Go.WideShapes Go.ChangeAt Go.RowKit Go.Deep
open Extern.Stop (cell)
set_option linter.unusedVariables false

set_option maxRecDepth 100000 in
set_option maxHeartbeats 8000000 in
theorem acts_walk9 {D : World → Nat → VS → List Nat → Prop} (H : SwOk D) (w : World) (n0 : Int) (sa : Option Addr) (l c : Nat) (As : List VActV) (hA : VActsAre w sa l As) (hn : okI n0) :
    Calls Try.prog 3 #[.int .i64 n0, .slice sa l c] w fun e w' => e = .returned (.bool true) ∧ w.grownBy w' none := by
  have HLv := Lib.hid (fun wx => lives9 H wx)
  have HT := Lib.hid H
  have q1 := eql_dev
  have q2 := eql_dev_none
  have q3 := eql_rd
  have q4 := eql_rd_none
  have HA := Lib.hid hA
  have HLt := Lib.hid (light_ok c hA)
  cases hlv : lightV l As with
  | false =>
    rw [hlv] at HLt
    clear H hA hlv
    go_enter Try.func3, Try.ntmps3
    go_wp2_with fail
    refine HLt.out.mono ?_
    rintro e w1 ⟨rfl, g1⟩
    have HG1 := Lib.hid g1
    clear g1
    go_wp2_with fail
    refine (HLv.out _).mono ?_
    rintro e w2 ⟨rfl, g2⟩
    have HG := Lib.hid (grown_trans HG1.out g2)
    clear g2
    go_wp2_with fail
    go_ret
    exact ⟨rfl, HG.out⟩
  | true =>
    rw [hlv] at HLt
    obtain ⟨hl60, hal⟩ := lightV_all hlv
    have HAL := Lib.hid hal
    clear hlv hal hA
    by_cases hs : 0 ≤ n0 ∧ n0 ≤ 256
    · obtain ⟨N, rfl⟩ := Int.eq_ofNat_of_zero_le hs.1
      have hN : N ≤ 256 := by omega
      have HN := Lib.hid (fun wx => H.new wx N hN)
      have HR0 := Lib.hid (fun wx => rnew_ok N wx hN)
      clear H hs hn
      go_enter Try.func3, Try.ntmps3
      go_wp2_with fail
      refine HLt.out.mono ?_
      rintro e w1 ⟨rfl, g1⟩
      have HG1 := Lib.hid g1
      clear g1
      go_wp2_with fail
      refine (HN.out _).mono ?_
      rintro e w2 ⟨p, O, rfl, h2, g2, o2⟩
      have H2 := Lib.hid (show LV D w w2 p (newV N) O 0 from ⟨h2, fun b hb => Nat.le_trans HG1.out.size (o2 b hb), grown_trans HG1.out g2, newV_ok N hN⟩)
      clear h2 g2 o2 HN
      go_wp2_with fail
      refine (HR0.out _).mono ?_
      rintro e w3 ⟨rfl, R, v, h3⟩
      have g3 := grown_of_below h3.below none
      have hr3 := newW_rv h3 hN
      have HD := Lib.hid (show DS D w w3 p (newV N) O 0 w2.heap.size (newV N) v (R.map fun p => (p, 4096)) from ⟨H2.out.grow HT.out g3, hr3, fun b hb => by
        simp only [blocksV, List.mem_cons, List.mem_append, Option.mem_toList, List.mem_map, List.map_map] at hb
        have := H2.out.grown.size
        rcases hb with rfl | hb | ⟨x, hx, e⟩
        · omega
        · have := (h3.own.lt _ hb).1; omega
        · have e : x = b := e
          have := h3.Rge x hx; omega, fun b hb hm => by
        have h9 := HT.out.lt H2.out.d b hm
        simp only [blocksV, List.mem_cons, List.mem_append, Option.mem_toList, List.mem_map, List.map_map] at hb
        rcases hb with rfl | hb | ⟨x, hx, e⟩
        · omega
        · have := (h3.own.lt _ hb).1; omega
        · have e : x = b := e
          have := h3.Rge x hx; omega⟩)
      generalize (R.map fun p => (p, 4096)) = PP at HD hr3
      generalize newV N = S0 at *
      generalize hq : w2.heap.size = q at *
      clear h3 g3 hr3 HR0 H2 HG1 HLt
      go_wp2_with fail
      clear q1 q2 q3 q4 hq
      go_loopw [34] (fun iv wr => ∃ (j : Nat) (S : VS) (O : List Nat) (v : Value) (PP : List (Nat × Nat)), j ≤ l ∧ iv = .int .i64 j ∧ Hid (DS D w wr p S O (j : Int) q S v PP)) (fun iv _ => l - (intOf iv).toNat)
      case atStart => exact ⟨0, S0, O, v, PP, by omega, rfl, HD.out⟩
      case round =>
        clear HD
        obtain ⟨j, S, O2, v2, P2, hj2, rfl, HJ⟩ := hrel
        by_cases hlt : j < l
        · obtain ⟨A, hAj⟩ : ∃ A, As[j]? = some A := ⟨_, List.getElem?_eq_getElem (by rw [HA.out.len]; exact hlt)⟩
          have hmem := List.mem_of_getElem? hAj
          have HOk := Lib.hid (HA.out.ok A hmem)
          have HAl := Lib.hid (HAL.out A hmem)
          obtain ⟨b, o, hs, a0, a1, a2, a3⟩ := HA.out.at HJ.out.lv.grown hAj
          subst hs
          have HR := Lib.hid (DX.new HT.out HJ.out A)
          have HBl := Lib.hid (bytesV_len HOk.out HAl.out)
          have HkN := Lib.hid (show ((j : Int)) ≤ 1000000 by omega)
          have HSk := Lib.hid HJ.out.lv.ok
          clear hAj hmem
          obtain ⟨k, n, s1, l1, cc, bs, raw⟩ := A
          simp only at a0 a1 a2 a3 HR
          generalize hwB : wr.alloc (.cells #[.int .i64 k, .int .i64 n, .slice s1 l1 cc, .bool raw] 31 (0, 0)) = wB at *
          obtain ⟨b0, b1, b2, b3⟩ := HR.out.b.at
          simp only at b0 b1 b2 b3
          clear HJ
          generalize hY : wr.heap.size = Y at *
          go_upto_block 2 with fail
          clear a0 a1 a2 a3
          go_cut [9, 10, 11, 12, 13] from 40 to 93 (fun ok _ _ _ _ wx => ok = .bool true ∧ ∃ (S' : VS) (O' : List Nat) (v' : Value) (P' : List (Nat × Nat)), Hid (DX D w wx p S' O' ((j : Int) + 1) q S' v' P' Y ⟨k, n, s1, l1, cc, bs, raw⟩))
          case first =>
            by_cases k0 : k = 0
            · subst k0
              have HB := Lib.hid (HR.out.grow HT.out (grown_drew1 _))
              have hkd := HB.out.b.at
              simp only at hkd
              have HM1 := Lib.hid (True.intro)
              obtain ⟨X, hX⟩ : ∃ X, writeV S n (bytesV ⟨0, n, s1, l1, cc, bs, raw⟩) = X := ⟨_, rfl⟩
              have HXk := Lib.hid (show X.2.Ok ((j : Int) + 1) by rw [← hX]; exact HSk.out.write)
              have HXe := Lib.hid hX
              clear HR b0 b1 b2 b3 hX
              go_wp2_with fail
              go_region_held3 (fun w' => w'.cell? ⟨Y, 0, none⟩ = some (.int .i64 0) ∧ w'.cell? ⟨Y, 1, none⟩ = some (.int .i64 n) ∧ w'.cell? ⟨Y, 2, none⟩ = some (.slice s1 l1 cc) ∧ w'.cell? ⟨Y, 3, none⟩ = some (.bool raw)) (exact hkd)
                (first
                  | (go_at_call 13; (have hm1 := HM1.out); with_reducible refine ((bytes_ok ⟨0, n, s1, l1, cc, bs, raw⟩ (HOk.out.grow HB.out.d.lv.grown) HAl.out).mono ?_); rintro e w5 ⟨s5, c5, rfl, h5, g5, x5⟩; have HX5 := Lib.hid (HB.out.apart HT.out HOk.out x5); replace HB := Lib.hid (HB.out.grow HT.out g5); replace hkd := HB.out.b.at; simp only at hkd; have HS5 := Lib.hid h5; clear h5 g5 x5 HM1 hm1)
                  | (go_at_call 13; with_reducible refine ((bytes_ok ⟨0, n, s1, l1, cc, bs, raw⟩ (HOk.out.grow HB.out.d.lv.grown) HAl.out).mono ?_); rintro e w7 ⟨s7, c7, rfl, h7, g7, x7⟩; have HX7 := Lib.hid (HB.out.apart HT.out HOk.out x7); replace HB := Lib.hid (HB.out.grow HT.out g7); replace hkd := HB.out.b.at; simp only at hkd; have HS7 := Lib.hid h7; clear h7 g7 x7)
                  | (go_at_call 12; with_reducible refine ((HT.out.write HB.out.d.lv.d HB.out.d.lv.ok HkN.out n s5 _ c5 (bytesV ⟨0, n, s1, l1, cc, bs, raw⟩) HOk.out.n HS5.out (Nat.le_trans HBl.out (by decide)) (fun hl ad e => (HX5.out (fun hr => raw_pos HOk.out hl hr) ad e).1)).mono ?_); rw [HXe.out]; rintro e w6 ⟨rfl, h6⟩; obtain ⟨O6, h6⟩ := HB.out.left h6 HXk.out; replace HB := Lib.hid h6; replace hkd := HB.out.b.at; simp only at hkd; clear h6)
                  | (go_at_call 14; with_reducible refine ((rf_write HB.out.d.r HSk.out HkN.out n s7 _ c7 (bytesV ⟨0, n, s1, l1, cc, bs, raw⟩) HS7.out (Nat.le_trans HBl.out (by decide)) (fun hl ad e => (HX7.out (fun hr => raw_pos HOk.out hl hr) ad e).2)).mono ?_); rw [HXe.out]; rintro e w8 ⟨rfl, v8, P8, h8, t8, o8⟩; replace HB := Lib.hid (HB.out.right HT.out h8 t8 o8); replace hkd := HB.out.b.at; simp only at hkd; clear h8 t8 o8))
              all_goals
                go_wp2
                go_meet
                case rel => exact ⟨by first | rfl | trivial, X.2, _, _, _, HB⟩

            · have e0 : (k == 0) = false := by simpa using k0
              by_cases k1 : k = 1
              · subst k1
                obtain ⟨X, hX⟩ : ∃ X, readV S n = X := ⟨_, rfl⟩
                have HXk := Lib.hid (show X.2.2.Ok ((j : Int) + 1) by rw [← hX]; exact HSk.out.read)
                have hk := HT.out.read HR.out.d.lv.d HR.out.d.lv.ok HkN.out n HOk.out.n
                rw [hX] at hk
                have HK := Lib.hid hk
                have HXe := Lib.hid hX
                have HLt2 := Lib.hid HR.out.d.r.lt
                clear hk hX
                go_wp2_with fail
                refine HK.out.mono ?_
                rintro e w5 ⟨u5, O5, rfl, h5, t5, o5, f5⟩
                have H5 := Lib.hid (HR.out.to h5 t5 o5 HXk.out)
                have HF5 := Lib.hid f5
                obtain ⟨z0, z1, z2, z3⟩ := H5.out.b.at
                simp only at z0 z1 z2 z3
                have hk := rf_read H5.out.d.r HSk.out HkN.out n
                rw [HXe.out] at hk
                have HK2 := Lib.hid hk
                clear h5 t5 o5 f5 HK hk
                go_wp2_with fail
                refine HK2.out.mono ?_
                rintro e w6 ⟨u6, rfl, f6, h6, t6⟩
                have H6 := Lib.hid (H5.out.right HT.out h6 (Turn.one t6 (by simp)) fun b hb => .inl hb)
                obtain ⟨s6, c6, rfl, hs6⟩ := f6.src
                obtain ⟨s5, c5, rfl, hs5⟩ := HF5.out.turn (Turn.one (O := [q]) t6 (by simp)) (fun b hb => by rw [List.mem_singleton.1 hb]; exact HLt2.out q (by simp [blocksV]))
                have HEq := Lib.hid (bytesEq hs5 hs6 c5 c6 true (by simp))
                clear f6 h6 t6 hs5 hs6 HK2 HF5 z0 z1 z2 z3
                go_wp2_with fail
                refine HEq.out.mono ?_
                rintro e w7 ⟨rfl, e7⟩
                subst w7
                go_wp2
                go_meet
                case rel => exact ⟨by first | rfl | trivial, X.2.2, _, _, _, H6⟩

              · have e1 : (k == 1) = false := by simpa using k1
                by_cases k2 : k = 2
                · subst k2
                  have HB := Lib.hid (HR.out.grow HT.out (grown_drew1 _))
                  have hkd := HB.out.b.at
                  simp only at hkd
                  obtain ⟨X, hX⟩ : ∃ X, planV S raw n = X := ⟨_, rfl⟩
                  have HXk := Lib.hid (show X.2.Ok ((j : Int) + 1) by rw [← hX]; exact (HSk.out.plan HOk.out.n).up (by omega))
                  have HXe := Lib.hid hX
                  clear HR b0 b1 b2 b3 hX
                  go_wp2_with fail
                  go_region_held3 (fun w' => w'.cell? ⟨Y, 0, none⟩ = some (.int .i64 2) ∧ w'.cell? ⟨Y, 1, none⟩ = some (.int .i64 n) ∧ w'.cell? ⟨Y, 2, none⟩ = some (.slice s1 l1 cc) ∧ w'.cell? ⟨Y, 3, none⟩ = some (.bool raw)) (exact hkd)
                    (first
                      | (go_at_call 18; with_reducible refine ((HT.out.plan HB.out.d.lv.d HB.out.d.lv.ok raw n HOk.out.n).mono ?_); rw [HXe.out]; rintro e w6 ⟨rfl, h6⟩; obtain ⟨O6, h6⟩ := HB.out.left h6 HXk.out; replace HB := Lib.hid h6; replace hkd := HB.out.b.at; simp only at hkd; clear h6)
                      | (go_at_call 19; with_reducible refine ((rf_plan HB.out.d.r raw n).mono ?_); rw [HXe.out]; rintro e w8 ⟨rfl, h8, t8⟩; replace HB := Lib.hid (HB.out.right HT.out h8 (Turn.one t8 (by simp)) fun b hb => .inl hb); replace hkd := HB.out.b.at; simp only at hkd; clear h8 t8))
                  all_goals
                    go_wp2
                    go_meet
                    case rel => exact ⟨by first | rfl | trivial, X.2, _, _, _, HB⟩

                · have e2 : (k == 2) = false := by simpa using k2
                  clear k0 k1 k2
                  have HR2 := Lib.hid (show DX D w wB p S O2 ((j : Int) + 1) q S v2 P2 Y ⟨k, n, s1, l1, cc, bs, raw⟩ from ⟨⟨⟨HR.out.d.lv.d, HR.out.d.lv.own, HR.out.d.lv.grown, HR.out.d.lv.ok.up (by omega)⟩, HR.out.d.r, HR.out.d.own, HR.out.d.ap⟩, HR.out.b, HR.out.yn, HR.out.yq⟩)
                  go_wp2
                  go_meet
                  case rel => exact ⟨by first | rfl | trivial, S, _, _, _, HR2⟩

          case rest =>
            obtain ⟨rfl, S3, O3, v3, P3, HX3⟩ := hcut
            clear HR b0 b1 b2 b3
            obtain ⟨at3, c3, hv3, -⟩ := HX3.out.d.r.tab
            have HC := Lib.hid (HT.out.count HX3.out.d.lv.d)
            have HV3 := Lib.hid hv3
            clear hv3
            go_wp2_with fail
            refine HC.out.mono ?_
            rintro e w5 ⟨rfl, g5⟩
            have HB := Lib.hid ((HX3.out.grow HT.out g5).grow HT.out (grown_drew1 _))
            have hkd := HB.out.cells HV3.out
            simp only at hkd
            have HSL := Lib.hid (show S3.L.length ≤ 256 from HB.out.d.lv.ok.len)
            clear g5 HC HX3
            go_wp2_with fail
            go_region_held3 (fun w' => w'.cell? ⟨Y, 1, none⟩ = some (.int .i64 n) ∧ w'.cell? ⟨q, 0, none⟩ = some (.slice at3 S3.L.length c3) ∧ w'.cell? ⟨q, 3, none⟩ = some (.int .i64 S3.cr) ∧ w'.cell? ⟨q, 4, none⟩ = some (.int .i64 S3.cw)) (exact hkd)
              (first
                | (go_at_call 21; with_reducible refine ((HT.out.peek HB.out.d.lv.d HB.out.d.lv.ok n HOk.out.n).mono ?_); rintro e w6 ⟨u6, rfl, f6, g6⟩; obtain ⟨s6, c6, rfl, hs6⟩ := f6.src; replace HB := Lib.hid (HB.out.grow HT.out g6); replace hkd := HB.out.cells HV3.out; simp only at hkd; have HS6 := Lib.hid hs6; clear f6 g6 hs6)
                | (go_at_call 22; with_reducible refine ((rf_peek HB.out.d.r n).mono ?_); rintro e w7 ⟨u7, rfl, f7, g7⟩; obtain ⟨s7, c7, rfl, hs7⟩ := f7.src; replace HB := Lib.hid (HB.out.grow HT.out g7); replace hkd := HB.out.cells HV3.out; simp only at hkd; have HS7 := Lib.hid hs7; (try replace HS6 := Lib.hid (HS6.out.grown g7)); clear f7 g7 hs7)
                | (go_at_call 17; with_reducible refine ((bytesEq HS6.out HS7.out c6 c7 true (by simp)).mono ?_); rintro e w8 ⟨rfl, e8⟩; subst w8)
                | (go_at_call 23; with_reducible refine ((HT.out.places HB.out.d.lv.d).mono ?_); rintro e w9 ⟨rfl, g9⟩; replace HB := Lib.hid (HB.out.grow HT.out g9); replace hkd := HB.out.cells HV3.out; simp only at hkd; clear g9))
            all_goals
              go_wp2_with fail
              go_roundw
              case rel => exact ⟨j + 1, S3, _, _, _, by omega, by go_num, HB.out.d⟩
              case measure => simp [intOf]; omega
        · obtain rfl : j = l := by omega
          go_wp2_with fail
          refine (HLv.out _).mono ?_
          rintro e w6 ⟨rfl, g6⟩
          have HG := Lib.hid (grown_trans HJ.out.lv.grown g6)
          clear g6
          go_wp2_with fail
          go_ret
          exact ⟨rfl, HG.out⟩
    · have HN := Lib.hid (fun wx => H.newNo wx n0 hs)
      have HR0 := Lib.hid (fun wx => rnew_no n0 wx hs)
      clear H hs hn
      go_enter Try.func3, Try.ntmps3
      go_wp2_with fail
      refine HLt.out.mono ?_
      rintro e w1 ⟨rfl, g1⟩
      have HG1 := Lib.hid g1
      clear g1
      go_wp2_with fail
      refine (HN.out _).mono ?_
      rintro e w2 ⟨rfl, g2⟩
      have HG2 := Lib.hid (grown_trans HG1.out g2)
      clear g2
      go_wp2_with fail
      refine (HR0.out _).mono ?_
      rintro e w3 ⟨rfl, e3⟩
      subst w3
      go_wp2_with fail
      refine (HLv.out _).mono ?_
      rintro e w6 ⟨rfl, g6⟩
      have HG := Lib.hid (grown_trans HG2.out g6)
      clear g6
      go_wp2_with fail
      go_ret
      exact ⟨rfl, HG.out⟩
end Go.Proofs.Ytnfofhnjeinmfaa
