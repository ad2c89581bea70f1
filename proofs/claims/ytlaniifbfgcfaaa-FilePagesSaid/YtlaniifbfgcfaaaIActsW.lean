/- FileActs, walked out of what package file says, beside the document's own files. -/
import Derived.Test.YtlaniifbfgcfaaaIActs
namespace Go.Proofs.Ytlaniifbfgcfaaa
open Go.ChangeShapes Go.WideShapes Go.ChangeAt Go.RowKit Go.Deep
open Extern.Stop (cell)
set_option linter.unusedVariables false

theorem ri_empty (w : World) : RI (w.alloc (.cells #[.slice none 0 0, .slice none 0 0, .int .i64 0] 31 (0, 0))) w.heap.size newI (.slice none 0 0) (.slice none 0 0) [] :=
  ⟨heap_alloc_new w _, RowAt.nil _ _, RowAt.nil _ _, by simp, fun _ _ => rfl, by simp [Value.ownBlock], by simp [Value.ownBlock], by simp⟩
theorem ids_at {s : IS} {j : Nat} (h : j < s.Z.length) : (idsI s)[j]? = some ((j : Int) + 1) := by
  unfold idsI
  rw [List.getElem?_map, List.getElem?_range h]
  rfl
theorem ids_len (s : IS) : (idsI s).length = s.Z.length := by
  unfold idsI
  rw [List.length_map, List.length_range]

set_option maxRecDepth 100000 in
set_option maxHeartbeats 8000000 in
theorem acts_walk10 {D : World → Nat → IS → List Nat → Nat → Prop} (H : FlOk D) (w : World) (sa : Option Addr) (l c : Nat) (As : List IActV) (hA : IActsAre w sa l As) :
    Calls Try.prog 3 #[.slice sa l c] w fun e w' => e = .returned (.bool true) ∧ w.grownBy w' none := by
  have HLv := Lib.hid (fun wx => lives10 H wx)
  have HT := Lib.hid H
  have HA := Lib.hid hA
  have HLt := Lib.hid (light_ok c hA)
  cases hlv : lightV l As with
  | false =>
    rw [hlv] at HLt
    clear H hA hlv
    go_enter Try.func3, Try.ntmps3
    go_wp2_with fail
    refine HLt.out.mono ?_
    rintro e w1 ⟨rfl, g1⟩
    have HG1 := Lib.hid g1
    clear g1
    go_wp2_with fail
    refine (HLv.out _).mono ?_
    rintro e w2 ⟨rfl, g2⟩
    have HG := Lib.hid (grown_trans HG1.out g2)
    clear g2
    go_wp2_with fail
    go_ret
    exact ⟨rfl, HG.out⟩
  | true =>
    rw [hlv] at HLt
    obtain ⟨hl60, hal⟩ := lightV_all hlv
    have HAL := Lib.hid hal
    have HN := Lib.hid (fun wx => H.new wx)
    clear hlv hal hA H
    go_enter Try.func3, Try.ntmps3
    go_wp2_with fail
    refine HLt.out.mono ?_
    rintro e w1 ⟨rfl, g1⟩
    have HG1 := Lib.hid g1
    clear g1
    go_wp2_with fail
    refine (HN.out _).mono ?_
    rintro e w2 ⟨p, O, rfl, h2, g2, o2⟩
    have H2 := Lib.hid (show LI D w w2 p newI O 0 from ⟨h2, fun b hb => Nat.le_trans HG1.out.size (o2 b hb), grown_trans HG1.out g2, newI_ok⟩)
    have g3 := World.grownBy_alloc w2 (.cells #[.slice none 0 0, .slice none 0 0, .int .i64 0] 31 (0, 0)) none
    have HD := Lib.hid (show DS D w (w2.alloc (.cells #[.slice none 0 0, .slice none 0 0, .int .i64 0] 31 (0, 0))) p newI O 0 0 w2.heap.size newI (.slice none 0 0) (.slice none 0 0) [] from ⟨H2.out.grow HT.out g3, Nat.le_refl _, Nat.le_refl _, ri_empty w2, fun b hb => by
      simp [blocksI, Value.ownBlock] at hb
      have := H2.out.grown.size
      omega, fun b hb hm => by
      have h9 := HT.out.lt H2.out.d b hm
      simp [blocksI, Value.ownBlock] at hb
      omega⟩)
    clear h2 g2 o2 HN g3 HG1 HLt
    generalize newI = S0 at *
    go_wp2_with fail
    generalize hw3 : w2.alloc (.cells #[.slice none 0 0, .slice none 0 0, .int .i64 0] 31 (0, 0)) = w3 at *
    generalize hq : w2.heap.size = q at *
    clear hw3 hq H2
    go_loopw [31] (fun iv wr => ∃ (j : Nat) (S : IS) (O : List Nat) (K : Nat) (vz vl : Value) (L : List PE), j ≤ l ∧ iv = .int .i64 j ∧ Hid (DS D w wr p S O K j q S vz vl L)) (fun iv _ => l - (intOf iv).toNat)
    case atStart => exact ⟨0, S0, O, 0, .slice none 0 0, .slice none 0 0, [], by omega, rfl, HD.out⟩
    case round =>
      clear HD
      obtain ⟨j, S, O2, K, vz, vl, L, hj2, rfl, HJ⟩ := hrel
      by_cases hlt : j < l
      · obtain ⟨A, hAj⟩ : ∃ A, As[j]? = some A := ⟨_, List.getElem?_eq_getElem (by rw [HA.out.len]; exact hlt)⟩
        have hmem := List.mem_of_getElem? hAj
        have HOk := Lib.hid (HA.out.ok A hmem)
        have HAl := Lib.hid (HAL.out A hmem)
        obtain ⟨b, o, hs, a0, a1, a2, a3, a4⟩ := HA.out.at HJ.out.lv.grown hAj
        subst hs
        have HR := Lib.hid ((DX.new HT.out HJ.out A).up (n' := j + 1) (by omega))
        have HBl := Lib.hid (bytesV_len HOk.out HAl.out)
        have HKj := Lib.hid HJ.out.kn
        have HLj := Lib.hid HJ.out.len
        have HkN := Lib.hid (show K ≤ 100000 by have := HKj.out; omega)
        have HlN := Lib.hid (show L.length ≤ 900000 by have := HLj.out; omega)
        have HlM := Lib.hid (show L.length ≤ 1000000 by have := HLj.out; omega)
        have HSk := Lib.hid HJ.out.lv.ok
        clear hAj hmem
        obtain ⟨k, i, n, s1, l1, cc, bs, raw⟩ := A
        simp only at a0 a1 a2 a3 a4 HR
        generalize hwB : wr.alloc (.cells #[.int .i64 k, .int .i64 i, .int .i64 n, .slice s1 l1 cc, .bool raw] 34 (0, 0)) = wB at *
        obtain ⟨b0, b1, b2, b3, b4⟩ := HR.out.b.at
        simp only at b0 b1 b2 b3 b4
        clear HJ
        generalize hY : wr.heap.size = Y at *
        go_upto_block 2 with fail
        clear a0 a1 a2 a3 a4
        go_cut [7, 8, 9, 10, 11, 12, 13, 14, 15] from 37 to 133 (fun ok _ _ _ _ _ _ _ _ wx => ok = .bool true ∧ ∃ (S' : IS) (O' : List Nat) (K' : Nat) (vz' vl' : Value) (L' : List PE), Hid (DX D w wx p S' O' K' (j + 1) q S' vz' vl' L' Y ⟨k, i, n, s1, l1, cc, bs, raw⟩))
        case first =>
          by_cases k0 : k = 0
          · subst k0
            obtain ⟨X, hX⟩ : ∃ X, makeI S n = X := ⟨_, rfl⟩
            have HXk := Lib.hid (show X.2.2.Ok by rw [← hX]; exact HSk.out.make)
            have hk := HT.out.make HR.out.d.lv.d HR.out.d.lv.ok n HOk.out.n
            rw [hX] at hk
            have HK := Lib.hid hk
            have HXe := Lib.hid hX
            clear hk hX
            go_wp2_with fail
            refine HK.out.mono ?_
            rintro e w5 ⟨rfl, h5⟩
            obtain ⟨O5, h5⟩ := HR.out.left h5 HXk.out (by have := HKj.out; omega)
            have H5 := Lib.hid h5
            obtain ⟨z0, z1, z2, z3, z4⟩ := H5.out.b.at
            simp only at z0 z1 z2 z3 z4
            have hk := ri_make H5.out.d.r HSk.out n
            rw [HXe.out] at hk
            have HK2 := Lib.hid hk
            clear h5 HK hk HR b0 b1 b2 b3 b4
            go_wp2_with fail
            refine HK2.out.mono ?_
            rintro e w6 ⟨rfl, vz6, vl6, L6, h6, l6, t6, o6⟩
            have H6 := Lib.hid (H5.out.right HT.out h6 t6 o6 (by have := HLj.out; omega))
            clear h6 t6 l6 o6 HK2 z0 z1 z2 z3 z4
            go_wp2
            go_meet
            case rel => exact ⟨by first | rfl | trivial, X.2.2, _, _, _, _, _, H6⟩

          · have e0 : (k == 0) = false := by simpa using k0
            by_cases k1 : k = 1
            · subst k1
              have HB := Lib.hid (HR.out.grow HT.out (grown_drew1 _))
              have hkd := HB.out.b.at
              simp only at hkd
              obtain ⟨X, hX⟩ : ∃ X, resizeI S i n = X := ⟨_, rfl⟩
              have HXk := Lib.hid (show X.2.Ok by rw [← hX]; exact HSk.out.resize)
              have HXe := Lib.hid hX
              clear HR b0 b1 b2 b3 b4 hX
              go_wp2_with fail
              go_region_held3 (fun w' => w'.cell? ⟨Y, 0, none⟩ = some (.int .i64 1) ∧ w'.cell? ⟨Y, 1, none⟩ = some (.int .i64 i) ∧ w'.cell? ⟨Y, 2, none⟩ = some (.int .i64 n) ∧ w'.cell? ⟨Y, 3, none⟩ = some (.slice s1 l1 cc) ∧ w'.cell? ⟨Y, 4, none⟩ = some (.bool raw)) (exact hkd)
                (first
                  | (go_at_call 14; with_reducible refine ((HT.out.resize HB.out.d.lv.d HB.out.d.lv.ok HkN.out i n HOk.out.i HOk.out.n).mono ?_); rw [HXe.out]; rintro e w6 ⟨rfl, h6⟩; obtain ⟨O6, h6⟩ := HB.out.left h6 HXk.out (by have := HKj.out; omega); replace HB := Lib.hid h6; replace hkd := HB.out.b.at; simp only at hkd; clear h6)
                  | (go_at_call 15; with_reducible refine ((ri_resize HB.out.d.r HSk.out HlN.out i n HOk.out.i).mono ?_); rw [HXe.out]; rintro e w8 ⟨rfl, h8⟩; obtain ⟨vz8, vl8, L8, h8, l8, t8, o8⟩ := leftI_open h8; replace HB := Lib.hid (HB.out.right HT.out h8 t8 o8 (by have := HLj.out; omega)); replace hkd := HB.out.b.at; simp only at hkd; clear h8 t8 o8 l8))
              all_goals
                go_wp2
                go_meet
                case rel => exact ⟨by first | rfl | trivial, X.2, _, _, _, _, _, HB⟩

            · have e1 : (k == 1) = false := by simpa using k1
              by_cases k2 : k = 2
              · subst k2
                obtain ⟨X, hX⟩ : ∃ X, readI S i n = X := ⟨_, rfl⟩
                have HXk := Lib.hid (show X.2.2.Ok by rw [← hX]; exact HSk.out.read)
                have hk := HT.out.read HR.out.d.lv.d HR.out.d.lv.ok HkN.out i n HOk.out.i HOk.out.n
                rw [hX] at hk
                have HK := Lib.hid hk
                have HXe := Lib.hid hX
                have HLt2 := Lib.hid HR.out.d.r.lt
                clear hk hX
                go_wp2_with fail
                refine HK.out.mono ?_
                rintro e w5 ⟨u5, O5, rfl, h5, t5, o5, f5⟩
                have H5 := Lib.hid (HR.out.to h5 t5 o5 HXk.out (by have := HKj.out; omega))
                have HF5 := Lib.hid f5
                obtain ⟨z0, z1, z2, z3, z4⟩ := H5.out.b.at
                simp only at z0 z1 z2 z3 z4
                have hk := ri_read H5.out.d.r HSk.out HlM.out i n HOk.out.i
                rw [HXe.out] at hk
                have HK2 := Lib.hid hk
                clear h5 t5 o5 f5 HK hk HR b0 b1 b2 b3 b4
                go_wp2_with fail
                refine HK2.out.mono ?_
                rintro e w6 ⟨u6, rfl, f6, h6, t6⟩
                have H6 := Lib.hid (H5.out.right HT.out h6 (Turn.one t6 (by simp)) (fun b hb => .inl hb) (by have := HLj.out; omega))
                obtain ⟨s6, c6, rfl, hs6⟩ := f6.src
                obtain ⟨s5, c5, rfl, hs5⟩ := HF5.out.turnP (Turn.one (O := [q]) t6 (by simp)) (fun b hb => by rw [List.mem_singleton.1 hb]; exact HLt2.out q (by simp [blocksI]))
                have HEq := Lib.hid (bytesEq hs5 hs6 c5 c6 true (by simp))
                clear f6 h6 t6 hs5 hs6 HK2 HF5 z0 z1 z2 z3 z4
                go_wp2_with fail
                refine HEq.out.mono ?_
                rintro e w7 ⟨rfl, e7⟩
                subst w7
                go_wp2
                go_meet
                case rel => exact ⟨by first | rfl | trivial, X.2.2, _, _, _, _, _, H6⟩

              · have e2 : (k == 2) = false := by simpa using k2
                by_cases k3 : k = 3
                · subst k3
                  have HB := Lib.hid (HR.out.grow HT.out (grown_drew1 _))
                  have hkd := HB.out.b.at
                  simp only at hkd
                  have HM1 := Lib.hid (True.intro)
                  obtain ⟨X, hX⟩ : ∃ X, writeI S i n (bytesV ⟨3, i, n, s1, l1, cc, bs, raw⟩) = X := ⟨_, rfl⟩
                  have HXk := Lib.hid (show X.2.Ok by rw [← hX]; exact HSk.out.write)
                  have HXe := Lib.hid hX
                  clear HR b0 b1 b2 b3 b4 hX
                  go_wp2_with fail
                  go_region_held3 (fun w' => w'.cell? ⟨Y, 0, none⟩ = some (.int .i64 3) ∧ w'.cell? ⟨Y, 1, none⟩ = some (.int .i64 i) ∧ w'.cell? ⟨Y, 2, none⟩ = some (.int .i64 n) ∧ w'.cell? ⟨Y, 3, none⟩ = some (.slice s1 l1 cc) ∧ w'.cell? ⟨Y, 4, none⟩ = some (.bool raw)) (exact hkd)
                    (first
                      | (go_at_call 20; (have hm1 := HM1.out); with_reducible refine ((bytes_ok ⟨3, i, n, s1, l1, cc, bs, raw⟩ (HOk.out.grow HB.out.d.lv.grown) HAl.out).mono ?_); rintro e w5 ⟨s5, c5, rfl, h5, g5, x5⟩; have HX5 := Lib.hid (HB.out.apart HT.out HOk.out x5); replace HB := Lib.hid (HB.out.grow HT.out g5); replace hkd := HB.out.b.at; simp only at hkd; have HS5 := Lib.hid h5; clear h5 g5 x5 HM1 hm1)
                      | (go_at_call 20; with_reducible refine ((bytes_ok ⟨3, i, n, s1, l1, cc, bs, raw⟩ (HOk.out.grow HB.out.d.lv.grown) HAl.out).mono ?_); rintro e w7 ⟨s7, c7, rfl, h7, g7, x7⟩; have HX7 := Lib.hid (HB.out.apart HT.out HOk.out x7); replace HB := Lib.hid (HB.out.grow HT.out g7); replace hkd := HB.out.b.at; simp only at hkd; have HS7 := Lib.hid h7; clear h7 g7 x7)
                      | (go_at_call 19; with_reducible refine ((HT.out.write HB.out.d.lv.d HB.out.d.lv.ok HkN.out i n s5 _ c5 (bytesV ⟨3, i, n, s1, l1, cc, bs, raw⟩) HOk.out.i HOk.out.n HS5.out (Nat.le_trans HBl.out (by decide)) (fun hl ad e => (HX5.out (fun hr => raw_pos HOk.out hl hr) ad e).1)).mono ?_); rw [HXe.out]; rintro e w6 ⟨rfl, h6⟩; obtain ⟨O6, h6⟩ := HB.out.left h6 HXk.out (by have := HKj.out; omega); replace HB := Lib.hid h6; replace hkd := HB.out.b.at; simp only at hkd; clear h6)
                      | (go_at_call 21; with_reducible refine ((ri_write HB.out.d.r HSk.out HlN.out i n HOk.out.i s7 _ c7 (bytesV ⟨3, i, n, s1, l1, cc, bs, raw⟩) HS7.out (Nat.le_trans HBl.out (by decide)) (fun hl ad e => (HX7.out (fun hr => raw_pos HOk.out hl hr) ad e).2)).mono ?_); rw [HXe.out]; rintro e w8 ⟨rfl, h8⟩; obtain ⟨vz8, vl8, L8, h8, l8, t8, o8⟩ := leftI_open h8; replace HB := Lib.hid (HB.out.right HT.out h8 t8 o8 (by have := HLj.out; omega)); replace hkd := HB.out.b.at; simp only at hkd; clear h8 t8 o8 l8))
                  all_goals
                    go_wp2
                    go_meet
                    case rel => exact ⟨by first | rfl | trivial, X.2, _, _, _, _, _, HB⟩

                · have e3 : (k == 3) = false := by simpa using k3
                  by_cases k4 : k = 4
                  · subst k4
                    have HB := Lib.hid (HR.out.grow HT.out (grown_drew1 _))
                    have hkd := HB.out.b.at
                    simp only at hkd
                    obtain ⟨X, hX⟩ : ∃ X, planI S n = X := ⟨_, rfl⟩
                    have HXk := Lib.hid (show X.2.Ok by rw [← hX]; exact HSk.out.plan HOk.out.n)
                    have HXe := Lib.hid hX
                    clear HR b0 b1 b2 b3 b4 hX
                    go_wp2_with fail
                    go_region_held3 (fun w' => w'.cell? ⟨Y, 0, none⟩ = some (.int .i64 4) ∧ w'.cell? ⟨Y, 1, none⟩ = some (.int .i64 i) ∧ w'.cell? ⟨Y, 2, none⟩ = some (.int .i64 n) ∧ w'.cell? ⟨Y, 3, none⟩ = some (.slice s1 l1 cc) ∧ w'.cell? ⟨Y, 4, none⟩ = some (.bool raw)) (exact hkd)
                      (first
                        | (go_at_call 22; with_reducible refine ((HT.out.plan HB.out.d.lv.d HB.out.d.lv.ok n HOk.out.n).mono ?_); rw [HXe.out]; rintro e w6 ⟨rfl, h6⟩; obtain ⟨O6, h6⟩ := HB.out.left h6 HXk.out (by have := HKj.out; omega); replace HB := Lib.hid h6; replace hkd := HB.out.b.at; simp only at hkd; clear h6)
                        | (go_at_call 23; with_reducible refine ((ri_plan HB.out.d.r n).mono ?_); rw [HXe.out]; rintro e w8 ⟨rfl, h8, t8⟩; replace HB := Lib.hid (HB.out.right HT.out h8 (Turn.one t8 (by simp)) (fun b hb => .inl hb) (by have := HLj.out; omega)); replace hkd := HB.out.b.at; simp only at hkd; clear h8 t8))
                    all_goals
                      go_wp2
                      go_meet
                      case rel => exact ⟨by first | rfl | trivial, X.2, _, _, _, _, _, HB⟩

                  · have e4 : (k == 4) = false := by simpa using k4
                    clear k0 k1 k2 k3 k4
                    go_wp2
                    go_meet
                    case rel => exact ⟨by first | rfl | trivial, S, _, _, _, _, _, HR⟩

        case rest =>
          obtain ⟨rfl, S3, O3, K3, vz3, vl3, L3, HX3⟩ := hcut
          clear HR b0 b1 b2 b3 b4 HKj HLj HkN HlN HlM HSk
          obtain ⟨b0, b1, b2, b3, b4⟩ := HX3.out.b.at
          simp only at b0 b1 b2 b3 b4
          have HC := Lib.hid (HT.out.size HX3.out.d.lv.d HX3.out.d.lv.ok i HOk.out.i)
          obtain ⟨zs, hzs⟩ : ∃ zs, sizeI S3 i = zs := ⟨_, rfl⟩
          have HZs := Lib.hid hzs
          rw [hzs] at HC
          clear hzs
          go_wp2_with fail
          refine HC.out.mono ?_
          rintro e w5 ⟨rfl, g5⟩
          have HB5 := Lib.hid (HX3.out.grow HT.out g5)
          clear b0 b1 b2 b3 b4 g5 HC HX3
          obtain ⟨b0, b1, b2, b3, b4⟩ := HB5.out.b.at
          simp only at b0 b1 b2 b3 b4
          have hk := ri_size HB5.out.d.r HB5.out.d.lv.ok i HOk.out.i
          rw [HZs.out] at hk
          have HC := Lib.hid hk
          clear hk
          go_wp2_with fail
          refine HC.out.mono ?_
          rintro e w6 ⟨rfl, e6⟩
          subst w6
          obtain ⟨at3, c3, -, -, hv3, -⟩ := HB5.out.d.r.form
          have HV3 := Lib.hid hv3
          have HB := Lib.hid (HB5.out.grow HT.out (grown_drew1 _))
          have hkd := HB.out.cells HV3.out
          simp only at hkd
          have HK3 := Lib.hid (show K3 ≤ 100000 by have := HB.out.d.kn; omega)
          have HL3 := Lib.hid (show L3.length ≤ 1000000 by have := HB.out.d.len; omega)
          have HSL := Lib.hid (show S3.Z.length ≤ 16 from HB.out.d.lv.ok.len)
          clear HC HB5 b0 b1 b2 b3 b4 hv3
          go_wp2_with fail
          go_region_held3 (fun w' => w'.cell? ⟨Y, 1, none⟩ = some (.int .i64 i) ∧ w'.cell? ⟨Y, 2, none⟩ = some (.int .i64 n) ∧ w'.cell? ⟨q, 0, none⟩ = some (.slice at3 S3.Z.length c3)) (exact hkd)
            (first
              | (go_at_call 26; with_reducible refine ((HT.out.peek HB.out.d.lv.d HB.out.d.lv.ok HK3.out i n HOk.out.i HOk.out.n).mono ?_); rintro e w6 ⟨u6, rfl, f6, g6⟩; obtain ⟨s6, c6, rfl, hs6⟩ := f6.src; replace HB := Lib.hid (HB.out.grow HT.out g6); replace hkd := HB.out.cells HV3.out; simp only at hkd; have HS6 := Lib.hid hs6; clear f6 g6 hs6)
              | (go_at_call 27; with_reducible refine ((ri_peek HB.out.d.r HB.out.d.lv.ok HL3.out i n HOk.out.i).mono ?_); rintro e w7 ⟨u7, rfl, f7, g7⟩; obtain ⟨s7, c7, rfl, hs7⟩ := f7.src; replace HB := Lib.hid (HB.out.grow HT.out g7); replace hkd := HB.out.cells HV3.out; simp only at hkd; have HS7 := Lib.hid hs7; (try replace HS6 := Lib.hid (HS6.out.grown g7)); clear f7 g7 hs7)
              | (go_at_call 18; with_reducible refine ((bytesEq HS6.out HS7.out c6 c7 true (by simp)).mono ?_); rintro e w8 ⟨rfl, e8⟩; subst w8)
              | (go_at_call 28; with_reducible refine ((HT.out.ids HB.out.d.lv.d HB.out.d.lv.ok).mono ?_); rintro e w9 ⟨u9, rfl, r9, g9⟩; obtain ⟨s9, c9, rfl⟩ := rowOf_form r9; rw [ids_len]; replace HB := Lib.hid (HB.out.grow HT.out g9); replace hkd := HB.out.cells HV3.out; simp only at hkd; clear g9 r9))
          all_goals
            go_wp2_with fail
            go_roundw
            case rel => exact ⟨j + 1, S3, _, _, _, _, _, by omega, by go_num, HB.out.d⟩
            case measure => simp [intOf]; omega
      · obtain rfl : j = l := by omega
        have HI := Lib.hid (HT.out.ids HJ.out.lv.d HJ.out.lv.ok)
        have HSL := Lib.hid (show S.Z.length ≤ 16 from HJ.out.lv.ok.len)
        go_wp2_with fail
        refine HI.out.mono ?_
        rintro e w6 ⟨u6, rfl, r6, g6⟩
        obtain ⟨s6, c6, hu6⟩ := r6.form
        have HR6 := Lib.hid r6
        have HG6 := Lib.hid (grown_trans HJ.out.lv.grown g6)
        subst hu6
        rw [ids_len] at HR6 ⊢
        have hzl := HSL.out
        clear r6 g6 HI HJ hlt
        go_wp2_with fail
        go_loopw [191] (fun iv wx => ∃ t : Nat, t ≤ S.Z.length ∧ iv = .int .i64 t ∧ wx = w6) (fun iv _ => S.Z.length - (intOf iv).toNat)
        case atStart => exact ⟨0, by omega, rfl, rfl⟩
        case round =>
          obtain ⟨t, ht, rfl, rfl⟩ := hrel
          by_cases htl : t < S.Z.length
          · obtain ⟨g, o, c', hsl, hc⟩ := RowOf.at z_len HR6.out (ids_at htl)
            have k0 := hc 0 _ rfl
            injection hsl with e1 e2 e3
            subst e1
            rw [Nat.mul_one, Nat.add_zero] at k0
            clear hc
            go_wp2_with fail
            go_roundw
            case rel => exact ⟨t + 1, by omega, by go_num, by first | rfl | trivial⟩
            case measure => simp [intOf]; omega
          · obtain rfl : t = S.Z.length := by omega
            go_wp2_with fail
            refine (HLv.out _).mono ?_
            rintro e w7 ⟨rfl, g7⟩
            have HG := Lib.hid (grown_trans HG6.out g7)
            clear g7
            go_wp2_with fail
            go_ret
            exact ⟨rfl, HG.out⟩
end Go.Proofs.Ytlaniifbfgcfaaa
