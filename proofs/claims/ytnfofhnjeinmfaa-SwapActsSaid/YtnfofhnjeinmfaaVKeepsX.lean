/- SwapKeeps, walked out of what package swap says. -/
import Derived.Test.YtnfofhnjeinmfaaVKeepsW
namespace Go.Proofs.Ytnfofhnjeinmfaa
open Go.ChangeShapes Go.WideShapes Go.ChangeAt Go.RowKit Go.Deep
open Extern.Stop (cell)
set_option linter.unusedVariables false

theorem bytesV_len {A : VActV} {w : World} (h : A.Ok w) (hl : A.l ≤ 5000) : (bytesV A).length ≤ 5000 := by
  unfold bytesV
  split
  · rw [h.len]; exact hl
  · rw [fillOf_len]; decide

theorem KS.to {D : World → Nat → VS → List Nat → Prop} {w wx w2 : World} {p h n : Nat} {s s' : VS} {O O' : List Nat} {k k' : Int} {vs : List Value} {M : List (List UInt8)} (q : KS D w wx p s O k h vs M n) (h1 : D w2 p s' O') (t1 : Turn O wx w2) (o1 : ∀ b, b ∈ O' → b ∈ O ∨ wx.heap.size ≤ b) (hk : s'.Ok k') : KS D w w2 p s' O' k' h vs M n := by
  refine ⟨⟨h1, fun b hb => ?_, ((Turn.grown q.v.grown).trans' t1).noGrown q.v.own, hk⟩, (t1.block h q.hlt q.hn).trans q.hh, fun hm => ?_, q.hw, q.vl, q.ml, fun i u pg hi hu hp => ⟨(q.good i u pg hi hu hp).1.turn t1 o1, (q.good i u pg hi hu hp).2⟩⟩
  · rcases o1 b hb with h3 | h3
    · exact q.v.own b h3
    · have := q.v.grown.size; omega
  · rcases o1 h hm with h2 | h2
    · exact q.hn h2
    · have := q.hlt; omega
theorem Fresh.page {w w' : World} {O : List Nat} {v : Value} {p : List UInt8} (h : Fresh w w' O v p) (hl : p.length = 4096) : ∃ g c, v = .slice (some ⟨g, 0, none⟩) 4096 c ∧ w.heap.size ≤ g ∧ g ∉ O ∧ Bs w' g p := by
  obtain ⟨s, c, rfl, h0 | ⟨g, rfl, h1, h2, h3⟩⟩ := h
  · omega
  · exact ⟨g, c, by rw [hl], h1, h2, h3⟩
theorem good_bytes {w : World} {O : List Nat} {a : Option Addr} {c : Nat} {p : List UInt8} (h : Src w a p.length p) (hl : p.length = 4096) (hn : ∀ ad, a = some ad → ad.block ∉ O) : GoodP w O (.slice a p.length c) p :=
  ⟨a, c, by rw [hl], by rw [hl] at h; exact h, hn⟩
theorem raw_len {w : World} {A : VActV} (h : A.Ok w) (hb : (bytesV A).length = 4096) (hr : A.raw = true) : 0 < A.l := by
  unfold bytesV at hb
  rw [if_pos hr, h.len] at hb
  omega
theorem KB.lay {D : World → Nat → VS → List Nat → Prop} {w wx : World} {p h y : Nat} {s : VS} {O : List Nat} {k : Int} {vs : List Value} {M : List (List UInt8)} {A : VActV} (H : SwOk D) (q : KB D w wx p s O k h vs M y A) {i : Nat} {u : Value} {pg : List UInt8} (hi : i < 4) (hu : GoodP wx O u pg) (hne : ∀ a c, u = .slice (some a) 4096 c → a.block ≠ h) : KB D w (wx.setCell ⟨h, i, none⟩ u) p s O k h (vs.set i u) (M.set i pg) y A :=
  ⟨q.s.lay H hi hu hne (by omega) (.inl (Nat.le_refl _)), (heap_setCell_other wx ⟨h, i, none⟩ y u (by first | exact q.yh | exact q.yh.symm)).trans q.b, q.yn, q.yh⟩

set_option maxRecDepth 100000 in
set_option maxHeartbeats 8000000 in
theorem keeps_walk9 {D : World → Nat → VS → List Nat → Prop} (H : SwOk D) (w : World) (sa : Option Addr) (l c : Nat) (As : List VActV) (hA : VActsAre w sa l As) :
    Calls Try.prog 4 #[.slice sa l c] w fun e w' => e = .returned (.bool true) ∧ w.grownBy w' none := by
  have HLv := Lib.hid (fun wx => lives9 H wx)
  have HT := Lib.hid H
  have q1 := eql_dev
  have q2 := neq_dev
  have HN := Lib.hid (H.new w 4 (by decide))
  have HA := Lib.hid hA
  clear H hA
  go_enter Try.func4, Try.ntmps4
  go_wp2_with fail
  refine HN.out.mono ?_
  rintro e w1 ⟨p, O, rfl, h1, g1, o1⟩
  have H1 := Lib.hid (show LV D w w1 p (newV 4) O 0 from ⟨h1, o1, g1, newV_ok 4 (by decide)⟩)
  have HLt := Lib.hid (light_ok c (HA.out.grow g1))
  clear h1 g1 o1 HN
  cases hlv : lightV l As with
  | false =>
    rw [hlv] at HLt
    go_wp2_with fail
    refine HLt.out.mono ?_
    rintro e w2 ⟨rfl, g2⟩
    have HG2 := Lib.hid (grown_trans H1.out.grown g2)
    clear g2
    go_wp2_with fail
    refine (HLv.out _).mono ?_
    rintro e w3 ⟨rfl, g3⟩
    have HG := Lib.hid (grown_trans HG2.out g3)
    clear g3
    go_wp2_with fail
    go_ret
    exact ⟨rfl, HG.out⟩
  | true =>
    rw [hlv] at HLt
    obtain ⟨hl60, hal⟩ := lightV_all hlv
    have HAL := Lib.hid hal
    clear hlv hal
    go_wp2_with fail
    refine HLt.out.mono ?_
    rintro e w2 ⟨rfl, g2⟩
    have ga := World.grownBy_alloc w2 (.cells #[.slice none 0 0, .slice none 0 0, .slice none 0 0, .slice none 0 0] 52 (0, 0)) none
    have hnew := heap_alloc_new w2 (.cells #[.slice none 0 0, .slice none 0 0, .slice none 0 0, .slice none 0 0] 52 (0, 0))
    have H2 := H1.out.grow HT.out g2
    have HK0 := Lib.hid (show KS D w (w2.alloc (.cells #[.slice none 0 0, .slice none 0 0, .slice none 0 0, .slice none 0 0] 52 (0, 0))) p (newV 4) O 0 w2.heap.size [.slice none 0 0, .slice none 0 0, .slice none 0 0, .slice none 0 0] (List.replicate 4 pageZ) 0 from
      ⟨H2.grow HT.out ga, hnew, fun hm => by have := HT.out.lt H2.d _ hm; omega, H2.grown.size, rfl, by simp, fun i u pg hi => by omega⟩)
    clear g2 ga hnew H2 HLt H1
    go_wp2_with fail
    generalize hwA : w2.alloc (.cells #[.slice none 0 0, .slice none 0 0, .slice none 0 0, .slice none 0 0] 52 (0, 0)) = wA at *
    generalize hh : w2.heap.size = h at *
    go_loopw [5, 26] (fun _ iv wr => ∃ (j : Nat) (vs : List Value), j ≤ 4 ∧ iv = .int .i64 j ∧ Hid (KS D w wr p (newV 4) O 0 h vs (List.replicate 4 pageZ) j)) (fun _ iv _ => 4 - (intOf iv).toNat)
    case atStart => exact ⟨0, _, by omega, rfl, HK0.out⟩
    case round =>
      clear HK0
      obtain ⟨j, vs, hj, rfl, HJ⟩ := hrel
      by_cases hlt : j < 4
      · have e0 : decide ((j : Int) < 4) = true := by simp; omega
        have HPz := Lib.hid (page_ok 0 (nil_src wr) (by decide))
        obtain ⟨u0, hu0⟩ : ∃ u, vs[j]? = some u := ⟨_, List.getElem?_eq_getElem (by rw [HJ.out.vl]; exact hlt)⟩
        have HU := Lib.hid hu0
        clear hu0
        go_wp2_with fail
        refine HPz.out.mono ?_
        rintro e w3 ⟨g, rfl, hg, hbz, g3⟩
        have HJ3 := Lib.hid (HJ.out.grow HT.out g3)
        obtain ⟨ch, fh⟩ := HJ3.out.ccell HU.out
        have hsrc := hbz.src
        rw [fillOf_len, fill_nil] at hsrc
        have HL := Lib.hid (HJ3.out.lay HT.out (i := j) (pg := pageZ) hlt ⟨_, 4096, rfl, hsrc, fun ad e hm => by cases e; have : g < wr.heap.size := HT.out.lt HJ.out.v.d _ hm; omega⟩ (fun a c e => by cases e; have := HJ.out.hlt; show g ≠ h; omega) (n' := j + 1) (by omega) (.inr rfl))
        rw [set_rep] at HL
        clear hg hbz g3 hsrc HPz
        go_wp2_with fail
        go_roundw
        case rel => exact ⟨j + 1, _, by omega, by go_num, HL⟩
        case measure => simp [intOf]; omega
      · have e0 : decide ((j : Int) < 4) = false := by simp; omega
        have HJ4 := Lib.hid (show KS D w wr p (newV 4) O 0 h vs (List.replicate 4 pageZ) 4 from (show j = 4 by omega) ▸ HJ.out)
        clear hlt hj HJ
        go_wp2_with fail
        go_loopw [7, 35] (fun _ iv wr => ∃ (j : Nat) (s : VS) (O : List Nat) (vs : List Value) (M : List (List UInt8)), j ≤ l ∧ iv = .int .i64 j ∧ Hid (KS D w wr p s O (j : Int) h vs M 4) ∧ Hid (s.L = M)) (fun _ iv _ => l - (intOf iv).toNat)
        case atStart => exact ⟨0, _, _, _, _, by omega, rfl, HJ4.out, rfl⟩
        case round =>
          clear HJ4
          obtain ⟨j, s, O2, vs2, M, hj2, rfl, HJ, HM⟩ := hrel
          by_cases hlt : j < l
          · obtain ⟨A, hAj⟩ : ∃ A, As[j]? = some A := ⟨_, List.getElem?_eq_getElem (by rw [HA.out.len]; exact hlt)⟩
            have hmem := List.mem_of_getElem? hAj
            have HOk := Lib.hid (HA.out.ok A hmem)
            have HAl := Lib.hid (HAL.out A hmem)
            obtain ⟨b, o, hs, a0, a1, a2, a3⟩ := HA.out.at HJ.out.v.grown hAj
            subst hs
            have HR := Lib.hid (KB.new HT.out HJ.out A)
            have HBl := Lib.hid (bytesV_len HOk.out HAl.out)
            have HkN := Lib.hid (show ((j : Int)) ≤ 1000000 by omega)
            clear hAj hmem
            obtain ⟨k, n, s1, l1, cc, bs, raw⟩ := A
            simp only at a0 a1 a2 a3 HR
            generalize hwB : wr.alloc (.cells #[.int .i64 k, .int .i64 n, .slice s1 l1 cc, .bool raw] 31 (0, 0)) = wB at *
            obtain ⟨b0, b1, b2, b3⟩ := HR.out.b.at
            simp only at b0 b1 b2 b3
            clear HJ
            generalize hY : wr.heap.size = Y at *
            by_cases k0 : k = 0
            · subst k0
              have HB := Lib.hid (HR.out.grow HT.out (grown_drew1 _))
              have hkd := HB.out.b.at
              simp only at hkd
              clear HR
              go_wp2_with fail
              go_region_held3 (fun w' => w'.cell? ⟨Y, 0, none⟩ = some (.int .i64 0) ∧ w'.cell? ⟨Y, 1, none⟩ = some (.int .i64 n) ∧ w'.cell? ⟨Y, 2, none⟩ = some (.slice s1 l1 cc) ∧ w'.cell? ⟨Y, 3, none⟩ = some (.bool raw)) (exact hkd)
                (first
                  | (go_at_call 13; with_reducible refine ((bytes_ok ⟨0, n, s1, l1, cc, bs, raw⟩ (HOk.out.grow HB.out.s.v.grown) HAl.out).mono ?_); rintro e w5 ⟨s5, c5, rfl, h5, g5, x5⟩; have HX5 := Lib.hid (HB.out.s.apart HT.out HOk.out x5); replace HB := Lib.hid (HB.out.grow HT.out g5); replace hkd := HB.out.b.at; simp only at hkd; have HS5 := Lib.hid h5; clear h5 g5 x5)
                  | (go_at_call 12; with_reducible refine ((HT.out.write HB.out.s.v.d HB.out.s.v.ok HkN.out n s5 _ c5 (bytesV ⟨0, n, s1, l1, cc, bs, raw⟩) HOk.out.n HS5.out (Nat.le_trans HBl.out (by decide)) (fun hl ad e => (HX5.out (fun hr => (by subst hr; have h9 := HOk.out.len; simp only at h9; have h10 : (bytesV ⟨0, n, s1, l1, cc, bs, true⟩) = bs := rfl; rw [h10] at hl; omega)) ad e).1)).mono ?_); rintro e w6 ⟨rfl, h6⟩; obtain ⟨O6, h6⟩ := HB.out.left h6 (k' := (j : Int) + 1) HB.out.s.v.ok.write; have HB6 := Lib.hid h6; have hkd := HB6.out.b.at; simp only at hkd; clear h6))
              all_goals
                by_cases hz : (writeV s n (bytesV ⟨0, n, s1, l1, cc, bs, raw⟩)).1 = 0
                · obtain ⟨hs, hbl, hL⟩ := write_zero hz
                  have hzb : ((writeV s n (bytesV ⟨0, n, s1, l1, cc, bs, raw⟩)).1 == 0) = true := beq_iff_eq.2 hz
                  obtain ⟨m, rfl⟩ := Int.eq_ofNat_of_zero_le hs.1
                  have hm4 : m < 4 := by have h1 := hs.2; rw [HM.out, HB6.out.s.ml] at h1; omega
                  rw [Int.toNat_natCast, HM.out] at hL
                  have i0 : (0 : Int) ≤ (m : Int) := by omega
                  have i1 : (m : Int) < 4 := by omega
                  have HL := Lib.hid hL
                  have HBl4 := Lib.hid hbl
                  have d1 : decide ((m : Int) < 0) = false := decide_eq_false (by omega)
                  have d2 : decide ((m : Int) ≥ 4) = false := decide_eq_false (by omega)
                  obtain ⟨u0, hu0⟩ : ∃ u, vs2[m]? = some u := ⟨_, List.getElem?_eq_getElem (by rw [HB6.out.s.vl]; exact hm4)⟩
                  have HU0 := Lib.hid hu0
                  clear hz hs hbl hL hu0
                  have HB7 := Lib.hid (HB6.out.grow HT.out (grown_drew1 _))
                  have hkd7 := HB7.out.b.at
                  simp only at hkd7
                  go_wp2_with fail
                  go_region_held3 (fun w' => w'.cell? ⟨Y, 0, none⟩ = some (.int .i64 0) ∧ w'.cell? ⟨Y, 1, none⟩ = some (.int .i64 (m : Int)) ∧ w'.cell? ⟨Y, 2, none⟩ = some (.slice s1 l1 cc) ∧ w'.cell? ⟨Y, 3, none⟩ = some (.bool raw)) (first | with_reducible exact hkd7 | with_reducible exact hkd8)
                    (first
                      | (go_at_call 13; with_reducible refine ((bytes_ok ⟨0, (m : Int), s1, l1, cc, bs, raw⟩ (HOk.out.grow HB7.out.s.v.grown) HAl.out).mono ?_); rintro e w8 ⟨s8, c8, rfl, h8, g8, x8⟩; have HX8 := Lib.hid (HB7.out.s.apart HT.out HOk.out x8); replace HB7 := Lib.hid (HB7.out.grow HT.out g8); replace hkd7 := HB7.out.b.at; simp only at hkd7; obtain ⟨ch, fh⟩ := HB7.out.s.ccell HU0.out; have HB8 := Lib.hid (HB7.out.lay HT.out hm4 (u := .slice s8 (bytesV ⟨0, (m : Int), s1, l1, cc, bs, raw⟩).length c8) (pg := bytesV ⟨0, (m : Int), s1, l1, cc, bs, raw⟩) (good_bytes h8 HBl4.out fun ad e => (HX8.out (raw_len HOk.out HBl4.out) ad e).1) (fun a c e => by injection e with e1; exact (HX8.out (raw_len HOk.out HBl4.out) a e1).2)); have hkd8 := HB8.out.b.at; simp only at hkd8; clear h8 g8 x8))
                  all_goals
                    go_wp2_with fail
                    go_roundw
                    case rel => exact ⟨j + 1, _, _, _, _, by omega, by go_num, HB8.out.s, HL.out⟩
                    case measure => simp [intOf]; omega
                · have hL := write_not hz
                  have hzb : ((writeV s n (bytesV ⟨0, n, s1, l1, cc, bs, raw⟩)).1 == 0) = false := beq_eq_false_iff_ne.2 hz
                  have HL := Lib.hid (hL.trans HM.out)
                  clear hz hL
                  go_wp2_with fail
                  go_roundw
                  case rel => exact ⟨j + 1, _, _, _, _, by omega, by go_num, HB6.out.s, HL.out⟩
                  case measure => simp [intOf]; omega
            · have e0 : (k == 0) = false := by simpa using k0
              by_cases k2 : k = 2
              · subst k2
                have hk := HT.out.plan HR.out.s.v.d HR.out.s.v.ok raw n HOk.out.n
                have HK := Lib.hid hk
                have HPo := Lib.hid (HR.out.s.v.ok.plan (b := raw) HOk.out.n)
                have HPl := Lib.hid ((plan_len (s := s) (b := raw) (n := n)).trans HM.out)
                generalize planV s raw n = T at *
                clear hk k0
                go_wp2_with fail
                refine HK.out.mono ?_
                rintro e w5 ⟨rfl, h5⟩
                obtain ⟨O5, h5⟩ := HR.out.left h5 (k' := (j : Int) + 1) (HPo.out.up (by omega))
                have H5 := Lib.hid h5
                clear h5 HK
                go_wp2_with fail
                go_roundw
                case rel => exact ⟨j + 1, _, _, _, _, by omega, by go_num, H5.out.s, HPl.out⟩
                case measure => simp [intOf]; omega
              · have e2 : (k == 2) = false := by simpa using k2
                clear k0 k2
                have H5 := Lib.hid (show KS D w wB p s O2 ((j : Int) + 1) h vs2 M 4 from ⟨⟨HR.out.s.v.d, HR.out.s.v.own, HR.out.s.v.grown, HR.out.s.v.ok.up (by omega)⟩, HR.out.s.hh, HR.out.s.hn, HR.out.s.hw, HR.out.s.vl, HR.out.s.ml, HR.out.s.good⟩)
                go_wp2_with fail
                go_roundw
                case rel => exact ⟨j + 1, _, _, _, _, by omega, by go_num, H5.out, HM.out⟩
                case measure => simp [intOf]; omega
          · have el : j = l := by omega
            have eb : decide (j < l) = false := decide_eq_false (by omega)
            have hk := HT.out.plan HJ.out.v.d HJ.out.v.ok false 0 (okS (by decide) (by decide))
            have hok := HJ.out.v.ok.plan (b := false) (n := 0) (okS (by decide) (by decide))
            rw [plan_zero] at hk hok
            have hL0 : (VS.mk s.L 0 s.pw s.cr s.cw).L = M := HM.out
            have hP0 : (VS.mk s.L 0 s.pw s.cr s.cw).pr = 0 := rfl
            simp only at hk hok
            generalize VS.mk s.L 0 s.pw s.cr s.cw = S at hk hok hL0 hP0
            have HK := Lib.hid hk
            have HOk := Lib.hid hok
            have HL0 := Lib.hid hL0
            have HP0 := Lib.hid hP0
            have HEl := Lib.hid el
            clear hk hok hL0 hP0 hlt el
            go_wp2_with fail
            refine HK.out.mono ?_
            rintro e w5 ⟨rfl, h5⟩
            obtain ⟨O5, h5, -, -⟩ := HJ.out.left h5 (k' := 100) (HOk.out.up (by omega))
            have H5 := Lib.hid h5
            clear h5 HK HJ HOk
            go_wp2_with fail
            go_loopw [8, 9, 10, 11, 12, 74] (fun _ _ _ _ _ iv wr => ∃ (i : Nat) (S : VS) (O : List Nat), i ≤ 4 ∧ iv = .int .i64 i ∧ Hid (KS D w wr p S O (100 + 2 * (i : Int)) h vs2 M 4) ∧ Hid (S.L = M) ∧ Hid (S.pr = 0)) (fun _ _ _ _ _ iv _ => 4 - (intOf iv).toNat)
            case atStart => exact ⟨0, S, O5, by omega, rfl, H5.out, HL0.out, HP0.out⟩
            case round =>
              clear H5 HL0 HP0
              obtain ⟨i, S, O6, hi, rfl, HJ, HL, HP⟩ := hrel
              by_cases hlt : i < 4
              · have e4 : decide ((i : Int) < 4) = true := by simp; omega
                obtain ⟨pg, hpg⟩ : ∃ pg, M[i]? = some pg := ⟨_, List.getElem?_eq_getElem (by rw [HJ.out.ml]; exact hlt)⟩
                obtain ⟨u0, hu0⟩ : ∃ u, vs2[i]? = some u := ⟨_, List.getElem?_eq_getElem (by rw [HJ.out.vl]; exact hlt)⟩
                have hpl : pg.length = 4096 := HJ.out.v.ok.page pg (by rw [HL.out]; exact List.mem_of_getElem? hpg)
                have hSi : i < S.L.length := by rw [HL.out, HJ.out.ml]; exact hlt
                have hrd := read_zero hSi HP.out
                have hgd : S.L.getD i [] = pg := by rw [HL.out, List.getD_eq_getElem?_getD, hpg]; rfl
                rw [hgd] at hrd
                have hk := HT.out.read HJ.out.v.d HJ.out.v.ok (by omega) (i : Int) (okS (by omega) (by omega))
                have hok := HJ.out.v.ok.read (i := (i : Int))
                rw [hrd] at hk hok
                have HK := Lib.hid hk
                have HOk := Lib.hid hok
                have HPg := Lib.hid hpg
                have HU0 := Lib.hid hu0
                have HPl := Lib.hid hpl
                clear hk hok hpg hu0 hpl hrd hgd hSi
                go_wp2_with fail
                refine HK.out.mono ?_
                rintro e w6 ⟨u, O7, rfl, h6, t6, o6, f6⟩
                obtain ⟨g, cu, rfl, hg, hgO, hbs⟩ := f6.page HPl.out
                have H6 := Lib.hid (HJ.out.to h6 t6 o6 HOk.out)
                obtain ⟨ch, -⟩ := H6.out.ccell HU0.out
                obtain ⟨⟨a0, c0, hu, hs0, -⟩, -⟩ := H6.out.good i u0 pg hlt HU0.out HPg.out
                have HU := Lib.hid hu
                rw [hu] at ch
                have hsu := hbs.src
                rw [HPl.out] at hsu
                have HEq := Lib.hid (bytesEq hsu hs0 cu c0 true (by simp))
                obtain ⟨x, hx⟩ : ∃ x, pg[0]? = some x := ⟨_, List.getElem?_eq_getElem (by rw [HPl.out]; decide)⟩
                obtain ⟨cx, fx⟩ := hbs.at hx
                have hgh : g ≠ h := by have := HJ.out.hlt; omega
                have HA6 := Lib.hid (H6.out.aside HT.out (x := g) (o := 0) (v := .int .u8 (((x.toNat : Int) + 1) % 256)) hgO hgh (Nat.le_trans HJ.out.v.grown.size hg) (fun i2 u2 hi2 hu2 a c e => by
                  obtain ⟨p2, hp2⟩ : ∃ p2, M[i2]? = some p2 := ⟨_, List.getElem?_eq_getElem (by rw [HJ.out.ml]; exact hi2)⟩
                  obtain ⟨⟨a3, c3, hu3, hs3, -⟩, -⟩ := HJ.out.good i2 u2 p2 hi2 hu2 hp2
                  obtain ⟨b3, o3, e3, hb3⟩ := src_lt hs3
                  rw [hu3, e3] at e
                  injection e with e
                  have e := Option.some.inj e
                  rw [← e]
                  show b3 ≠ g
                  omega))
                clear h6 t6 o6 f6 hg hgO hbs hu hs0 hsu hx hgh HK HOk
                go_wp2_with fail
                refine HEq.out.mono ?_
                rintro e w7 ⟨rfl, e7⟩
                subst w7
                go_wp2_with fail
                generalize w6.setCell ⟨g, 0, none⟩ (.int .u8 (((x.toNat : Int) + 1) % 256)) = w7 at *
                obtain ⟨S2, hS2⟩ : ∃ S2, VS.mk S.L 0 S.pw (S.cr + 1) S.cw = S2 := ⟨_, rfl⟩
                rw [hS2] at HA6
                have hL2 : S2.L = M := by rw [← hS2]; exact HL.out
                have hP2 : S2.pr = 0 := by rw [← hS2]
                have hSi : i < S2.L.length := by rw [hL2, HA6.out.ml]; exact hlt
                have hrd := read_zero hSi hP2
                have hgd : S2.L.getD i [] = pg := by rw [hL2, List.getD_eq_getElem?_getD, HPg.out]; rfl
                rw [hgd] at hrd
                have hk := HT.out.read HA6.out.v.d HA6.out.v.ok (by omega) (i : Int) (okS (by omega) (by omega))
                have hok := HA6.out.v.ok.read (i := (i : Int))
                rw [hrd] at hk hok
                have HK := Lib.hid hk
                have HOk := Lib.hid hok
                have HL2 := Lib.hid hL2
                clear hk hok hL2 hP2 hrd hgd hSi hS2 ch cx fx HEq H6
                refine HK.out.mono ?_
                rintro e w8 ⟨u, O8, rfl, h8, t8, o8, f8⟩
                obtain ⟨g8, cu8, rfl, -, -, hbs8⟩ := f8.page HPl.out
                have H8 := Lib.hid (HA6.out.to h8 t8 o8 HOk.out)
                obtain ⟨ch, -⟩ := H8.out.ccell HU0.out
                obtain ⟨⟨a8, c8, hu8, hs8, -⟩, -⟩ := H8.out.good i u0 pg hlt HU0.out HPg.out
                rw [hu8] at ch
                have hsu := hbs8.src
                rw [HPl.out] at hsu
                have HEq := Lib.hid (bytesEq hsu hs8 cu8 c8 true (by simp))
                clear h8 t8 o8 f8 hbs8 hu8 hs8 hsu HK HOk
                go_wp2_with fail
                refine HEq.out.mono ?_
                rintro e w9 ⟨rfl, e9⟩
                subst w9
                go_wp2_with fail
                go_roundw
                case rel => exact ⟨i + 1, _, O8, by omega, by go_num, ⟨⟨H8.out.v.d, H8.out.v.own, H8.out.v.grown, H8.out.v.ok.up (by omega)⟩, H8.out.hh, H8.out.hn, H8.out.hw, H8.out.vl, H8.out.ml, H8.out.good⟩, HL2.out, rfl⟩
                case measure => simp [intOf]; omega
              · obtain rfl : i = 4 := by omega
                go_wp2_with fail
                refine (HLv.out _).mono ?_
                rintro e w6 ⟨rfl, g6⟩
                have HG := Lib.hid (grown_trans HJ.out.v.grown g6)
                clear g6
                go_wp2_with fail
                go_ret
                exact ⟨rfl, HG.out⟩
end Go.Proofs.Ytnfofhnjeinmfaa
