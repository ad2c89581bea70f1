/- SpreadActs, walked out of what package spread says, beside the document's own counts. -/
import Derived.Test.YtohealhkgmagmaaJActs
namespace Go.Proofs.Ytohealhkgmagmaa
open Go.ChangeShapes Go.WideShapes Go.ChangeAt Go.RowKit Go.Deep
set_option linter.unusedVariables false

set_option maxRecDepth 100000 in
set_option maxHeartbeats 8000000 in
theorem acts_walk11 {D : World → Nat → List Int → List Nat → Prop} (H : SpOk D) (w : World) (n0 : Int) (sa : Option Addr) (l c : Nat) (As : List JActV) (hA : JActsAre w sa l As) (hn : okI n0) :
    Calls Try.prog 3 #[.int .i64 n0, .slice sa l c] w fun e w' => e = .returned (.bool true) ∧ w.grownBy w' none := by
  have HLv := Lib.hid (fun wx => lives11 H wx)
  have HT := Lib.hid H
  have q1 := eql_ptr_nil
  have q2 := eql_ptr_none
  have q3 := eql_ref_nil
  have q4 := eql_ref_none
  have HA := Lib.hid hA
  by_cases hs : 0 ≤ n0 ∧ n0 ≤ 4096
  · obtain ⟨N, rfl⟩ := Int.eq_ofNat_of_zero_le hs.1
    have hN : N ≤ 4096 := by omega
    have HN := Lib.hid (fun wx => H.new N wx hN)
    have HR0 := Lib.hid (fun wx => rj_new N wx hN)
    have HZ := Lib.hid (JOk.zeros hN)
    by_cases hl60 : l ≤ 60
    · have d60 : decide ((l : Int) > 60) = false := decide_eq_false (by omega)
      clear H hs hn hA
      go_enter Try.func3, Try.ntmps3
      go_wp2_with fail
      refine (HN.out _).mono ?_
      rintro e w2 ⟨p, O, rfl, h2, g2, o2⟩
      have H2 := Lib.hid (show LJ D w w2 p (List.replicate N 0) O from ⟨h2, o2, g2, HZ.out⟩)
      clear h2 g2 o2 HN
      go_wp2_with fail
      refine (HR0.out _).mono ?_
      rintro e w3 ⟨q, P, rfl, h3, g3, o3⟩
      have HD := Lib.hid (Two.make HT.out.toStOk rsOk H2.out g3 h3 o3 HZ.out)
      generalize List.replicate N (0 : Int) = L0 at HD
      clear h3 g3 o3 HR0 H2 HZ
      go_wp2_with fail
      clear q1 q2 q3 q4
      go_loopw [32] (fun iv wr => ∃ (j : Nat) (L : List Int) (O P : List Nat), j ≤ l ∧ iv = .int .i64 j ∧ Hid (Two D RS w wr p L O q L P)) (fun iv _ => l - (intOf iv).toNat)
      case atStart => exact ⟨0, L0, O, P, by omega, rfl, HD.out⟩
      case round =>
        clear HD
        obtain ⟨j, L, O2, P2, hj2, rfl, HJ⟩ := hrel
        by_cases hlt : j < l
        · obtain ⟨A, hAj⟩ : ∃ A, As[j]? = some A := ⟨_, List.getElem?_eq_getElem (by rw [HA.out.len]; exact hlt)⟩
          have hmem := List.mem_of_getElem? hAj
          have HOk := Lib.hid (HA.out.ok A hmem)
          obtain ⟨b, o, hs, a0, a1, a2, a3⟩ := HA.out.at HJ.out.one.grown hAj
          subst hs
          have HR := Lib.hid (JX.new HT.out.toStOk HJ.out A)
          have HK := Lib.hid HJ.out.one.ok
          clear hAj hmem
          obtain ⟨lo, hi, by_, gr⟩ := A
          simp only at a0 a1 a2 a3 HR
          generalize hwB : wr.alloc (.cells #[.int .i64 lo, .int .i64 hi, .int .i64 by_, .bool gr] 29 (0, 0)) = wB at *
          obtain ⟨b0, b1, b2, b3⟩ := HR.out.b.at
          simp only at b0 b1 b2 b3
          clear HJ
          generalize hY : wr.heap.size = Y at *
          go_upto_region 9 with fail
          clear a0 a1 a2 a3
          cases gr with
          | true =>
            obtain ⟨X, hX⟩ : ∃ X, growJ L hi = X := ⟨_, rfl⟩
            have HX := Lib.hid (show JOk X.2 by rw [← hX]; exact HK.out.grow)
            have HXe := Lib.hid hX
            have HB := Lib.hid (HR.out.grow HT.out.toStOk (grown_drew1 _))
            have hkd := HB.out.b.at.2.1
            simp only at hkd
            clear HR hX
            go_wp2_with fail
            clear b0 b1 b2 b3
            go_region_held3 (fun W => W.cell? ⟨Y, 1, none⟩ = some (.int .i64 hi)) (exact hkd)
              (first
                | (go_at_call 11; with_reducible refine ((HT.out.grow HB.out.two.one.d HK.out hi HOk.out.hi).mono ?_); rw [HXe.out]; rintro e w5 ⟨rfl, h5⟩; obtain ⟨O5, h5⟩ := HB.out.first h5 HX.out; have HH := Lib.hid h5; replace hkd := HH.out.b.at.2.1; simp only at hkd; clear h5)
                | (go_at_call 12; with_reducible refine ((rs_grow HH.out.two.two.d HK.out hi HOk.out.hi).mono ?_); rw [HXe.out]; rintro e w6 ⟨rfl, h6⟩; obtain ⟨P6, h6, -⟩ := HH.out.second HT.out.toStOk h6 HX.out; have H7 := Lib.hid h6; replace hkd := H7.out.b.at.2.1; simp only at hkd; clear h6))
            obtain ⟨L7, hL7⟩ : ∃ L7, X.2 = L7 := ⟨_, rfl⟩
            rw [hL7] at H7
            clear HX HXe hL7 HH
            have HB := Lib.hid (H7.out.grow HT.out.toStOk (grown_drew1 _))
            obtain ⟨g7, c7, hkd, -⟩ := HB.out.cells
            simp only at hkd
            have HK7 := Lib.hid HB.out.two.one.ok
            have HRl := Lib.hid (runs_le HK7.out)
            clear H7
            go_wp2_with fail
            go_region_held3 (fun W => W.cell? ⟨Y, 0, none⟩ = some (.int .i64 lo) ∧ W.cell? ⟨q, 0, none⟩ = some (.slice (some ⟨g7, 0, none⟩) L7.length c7)) (exact hkd)
              (first
                | (go_at_call 16; with_reducible refine ((HT.out.len HB.out.two.one.d HK7.out).mono ?_); rintro e w9 ⟨rfl, g9⟩; replace hkd := HB.out.cells2 hkd.2 g9; simp only at hkd; replace HB := Lib.hid (HB.out.grow HT.out.toStOk g9); clear g9)
                | (go_at_call 17; with_reducible refine ((HT.out.at_ HB.out.two.one.d HK7.out lo HOk.out.lo).mono ?_); rintro e w9 ⟨rfl, g9⟩; replace hkd := HB.out.cells2 hkd.2 g9; simp only at hkd; replace HB := Lib.hid (HB.out.grow HT.out.toStOk g9); clear g9)
                | (go_at_call 18; with_reducible refine ((rs_at HB.out.two.two.d HK7.out lo).mono ?_); rintro e w9 ⟨rfl, g9⟩; replace hkd := HB.out.cells2 hkd.2 g9; simp only at hkd; replace HB := Lib.hid (HB.out.grow HT.out.toStOk g9); clear g9)
                | (go_at_call 19; with_reducible refine ((HT.out.sum HB.out.two.one.d HK7.out).mono ?_); rintro e w9 ⟨rfl, g9⟩; replace hkd := HB.out.cells2 hkd.2 g9; simp only at hkd; replace HB := Lib.hid (HB.out.grow HT.out.toStOk g9); clear g9)
                | (go_at_call 20; with_reducible refine ((rs_sum HB.out.two.two.d HK7.out).mono ?_); rintro e w9 ⟨rfl, g9⟩; replace hkd := HB.out.cells2 hkd.2 g9; simp only at hkd; replace HB := Lib.hid (HB.out.grow HT.out.toStOk g9); clear g9)
                | (go_at_call 22; with_reducible refine ((HT.out.runs HB.out.two.one.d HK7.out).mono ?_); rintro e w9 ⟨u8, rfl, r8, -, g9⟩; obtain ⟨s8, c8, rfl⟩ := rowOf_form r8; replace hkd := HB.out.cells2 hkd.2 g9; simp only at hkd; replace HB := Lib.hid (HB.out.grow HT.out.toStOk g9); have HR8 := Lib.hid r8; clear g9 r8)
                | (go_at_call 23; with_reducible refine ((rs_runs HB.out.two.two.d HK7.out).mono ?_); rintro e w9 ⟨u9, rfl, r9, -, g9⟩; obtain ⟨s9, c9, rfl⟩ := rowOf_form r9; replace hkd := HB.out.cells2 hkd.2 g9; simp only at hkd; replace HB := Lib.hid (HB.out.grow HT.out.toStOk g9); replace HR8 := Lib.hid (rowOf_grow HR8.out g9); have HR9 := Lib.hid r9; clear g9 r9)
                | (go_at_call 21; with_reducible refine ((same_ok c8 c9 HR8.out HR9.out (Nat.le_trans HRl.out (by decide)) true (by simp)).mono ?_); rintro e w9 ⟨rfl, g9⟩; replace hkd := HB.out.cells2 hkd.2 g9; simp only at hkd; replace HB := Lib.hid (HB.out.grow HT.out.toStOk g9); clear g9))
            all_goals
              go_wp2_with fail
              go_roundw
              case rel => exact ⟨j + 1, L7, _, _, by omega, by go_num, HB.out.two⟩
              case measure => simp [intOf]; omega
          | false =>
            obtain ⟨X, hX⟩ : ∃ X, addJ L lo hi by_ = X := ⟨_, rfl⟩
            have HX := Lib.hid (show JOk X.2.2 by rw [← hX]; exact HK.out.add)
            have HXl := Lib.hid (show X.1.length ≤ 1000000 by rw [← hX]; have := addJ_len L lo hi by_; have := HK.out.len; omega)
            have HXe := Lib.hid hX
            have HC := Lib.hid (HT.out.add HR.out.two.one.d HK.out lo hi by_ HOk.out.lo HOk.out.hi HOk.out.by_)
            clear hX
            go_wp2_with fail
            refine HC.out.mono ?_
            rintro e w5 ha
            obtain ⟨u5, rfl, r5, f5, h5⟩ := addA_open ha
            rw [HXe.out] at r5 h5 ⊢
            obtain ⟨s5, c5, rfl⟩ := r5.form
            have hlt5 : ∀ b, b ∈ P2 → b < wB.heap.size := fun b hb => rsOk.lt HR.out.two.two.d b hb
            obtain ⟨O5, h5⟩ := HR.out.first h5 HX.out
            have HH := Lib.hid h5
            have HR5 := Lib.hid r5
            have HF5 := Lib.hid (show ∀ b, (Value.slice s5 X.1.length c5).ownBlock = some b → b ∉ P2 from fun b e hm => by have := f5 b e; have := hlt5 b hm; omega)
            obtain ⟨z0, z1, z2, z3⟩ := HH.out.b.at
            simp only at z0 z1 z2 z3
            have HC2 := Lib.hid (rs_add HH.out.two.two.d HK.out lo hi by_ HOk.out.lo HOk.out.hi HOk.out.by_)
            clear ha r5 f5 h5 hlt5 HC HR b0 b1 b2 b3
            go_wp2_with fail
            refine HC2.out.mono ?_
            rintro e w6 ha
            obtain ⟨u6, rfl, r6, f6, h6⟩ := addA_open ha
            rw [HXe.out] at r6 h6 ⊢
            obtain ⟨s6, c6, rfl⟩ := r6.form
            obtain ⟨P6, h6, t6⟩ := HH.out.second HT.out.toStOk h6 HX.out
            have H7 := Lib.hid h6
            have HI := Lib.hid (ints_ok c5 c6 (row_turn HR5.out t6 HF5.out) r6 HXl.out true (by simp))
            clear ha r6 f6 h6 t6 HC2 z0 z1 z2 z3 HH HR5 HF5
            go_wp2_with fail
            refine HI.out.mono ?_
            rintro e w7 ⟨rfl, g7⟩
            replace H7 := Lib.hid (H7.out.grow HT.out.toStOk g7)
            obtain ⟨L7, hL7⟩ : ∃ L7, X.2.2 = L7 := ⟨_, rfl⟩
            rw [hL7] at H7
            clear HI HX HXl HXe g7 hL7
            have HB := Lib.hid (H7.out.grow HT.out.toStOk (grown_drew1 _))
            obtain ⟨g7, c7, hkd, -⟩ := HB.out.cells
            simp only at hkd
            have HK7 := Lib.hid HB.out.two.one.ok
            have HRl := Lib.hid (runs_le HK7.out)
            clear H7
            go_wp2_with fail
            go_region_held3 (fun W => W.cell? ⟨Y, 0, none⟩ = some (.int .i64 lo) ∧ W.cell? ⟨q, 0, none⟩ = some (.slice (some ⟨g7, 0, none⟩) L7.length c7)) (exact hkd)
              (first
                | (go_at_call 16; with_reducible refine ((HT.out.len HB.out.two.one.d HK7.out).mono ?_); rintro e w9 ⟨rfl, g9⟩; replace hkd := HB.out.cells2 hkd.2 g9; simp only at hkd; replace HB := Lib.hid (HB.out.grow HT.out.toStOk g9); clear g9)
                | (go_at_call 17; with_reducible refine ((HT.out.at_ HB.out.two.one.d HK7.out lo HOk.out.lo).mono ?_); rintro e w9 ⟨rfl, g9⟩; replace hkd := HB.out.cells2 hkd.2 g9; simp only at hkd; replace HB := Lib.hid (HB.out.grow HT.out.toStOk g9); clear g9)
                | (go_at_call 18; with_reducible refine ((rs_at HB.out.two.two.d HK7.out lo).mono ?_); rintro e w9 ⟨rfl, g9⟩; replace hkd := HB.out.cells2 hkd.2 g9; simp only at hkd; replace HB := Lib.hid (HB.out.grow HT.out.toStOk g9); clear g9)
                | (go_at_call 19; with_reducible refine ((HT.out.sum HB.out.two.one.d HK7.out).mono ?_); rintro e w9 ⟨rfl, g9⟩; replace hkd := HB.out.cells2 hkd.2 g9; simp only at hkd; replace HB := Lib.hid (HB.out.grow HT.out.toStOk g9); clear g9)
                | (go_at_call 20; with_reducible refine ((rs_sum HB.out.two.two.d HK7.out).mono ?_); rintro e w9 ⟨rfl, g9⟩; replace hkd := HB.out.cells2 hkd.2 g9; simp only at hkd; replace HB := Lib.hid (HB.out.grow HT.out.toStOk g9); clear g9)
                | (go_at_call 22; with_reducible refine ((HT.out.runs HB.out.two.one.d HK7.out).mono ?_); rintro e w9 ⟨u8, rfl, r8, -, g9⟩; obtain ⟨s8, c8, rfl⟩ := rowOf_form r8; replace hkd := HB.out.cells2 hkd.2 g9; simp only at hkd; replace HB := Lib.hid (HB.out.grow HT.out.toStOk g9); have HR8 := Lib.hid r8; clear g9 r8)
                | (go_at_call 23; with_reducible refine ((rs_runs HB.out.two.two.d HK7.out).mono ?_); rintro e w9 ⟨u9, rfl, r9, -, g9⟩; obtain ⟨s9, c9, rfl⟩ := rowOf_form r9; replace hkd := HB.out.cells2 hkd.2 g9; simp only at hkd; replace HB := Lib.hid (HB.out.grow HT.out.toStOk g9); replace HR8 := Lib.hid (rowOf_grow HR8.out g9); have HR9 := Lib.hid r9; clear g9 r9)
                | (go_at_call 21; with_reducible refine ((same_ok c8 c9 HR8.out HR9.out (Nat.le_trans HRl.out (by decide)) true (by simp)).mono ?_); rintro e w9 ⟨rfl, g9⟩; replace hkd := HB.out.cells2 hkd.2 g9; simp only at hkd; replace HB := Lib.hid (HB.out.grow HT.out.toStOk g9); clear g9))
            all_goals
              go_wp2_with fail
              go_roundw
              case rel => exact ⟨j + 1, L7, _, _, by omega, by go_num, HB.out.two⟩
              case measure => simp [intOf]; omega
        · obtain rfl : j = l := by omega
          go_wp2_with fail
          refine (HLv.out _).mono ?_
          rintro e w6 ⟨rfl, g6⟩
          have HG := Lib.hid (grown_trans HJ.out.one.grown g6)
          clear g6
          go_wp2_with fail
          go_ret
          exact ⟨rfl, HG.out⟩
    · have d60 : decide ((l : Int) > 60) = true := decide_eq_true (by omega)
      clear H hs hn hA hl60
      go_enter Try.func3, Try.ntmps3
      go_wp2_with fail
      refine (HN.out _).mono ?_
      rintro e w2 ⟨p, O, rfl, h2, g2, o2⟩
      have HG2 := Lib.hid g2
      clear h2 g2 o2 HN
      go_wp2_with fail
      refine (HR0.out _).mono ?_
      rintro e w3 ⟨q, P, rfl, h3, g3, o3⟩
      have HG3 := Lib.hid (grown_trans HG2.out g3)
      clear h3 g3 o3 HR0
      go_wp2_with fail
      refine (HLv.out _).mono ?_
      rintro e w6 ⟨rfl, g6⟩
      have HG := Lib.hid (grown_trans HG3.out g6)
      clear g6
      go_wp2_with fail
      go_ret
      exact ⟨rfl, HG.out⟩
  · have HN := Lib.hid (fun wx => H.newNo n0 wx hs)
    have HR0 := Lib.hid (fun wx => rj_new_no n0 wx hs)
    clear H hs hn hA
    go_enter Try.func3, Try.ntmps3
    go_wp2_with fail
    refine (HN.out _).mono ?_
    rintro e w2 ⟨rfl, g2⟩
    have HG2 := Lib.hid g2
    clear g2
    go_wp2_with fail
    refine (HR0.out _).mono ?_
    rintro e w3 ⟨rfl, g3⟩
    have HG3 := Lib.hid (grown_trans HG2.out g3)
    clear g3
    go_wp2_with fail
    refine (HLv.out _).mono ?_
    rintro e w6 ⟨rfl, g6⟩
    have HG := Lib.hid (grown_trans HG3.out g6)
    clear g6
    go_wp2_with fail
    go_ret
    exact ⟨rfl, HG.out⟩
end Go.Proofs.Ytohealhkgmagmaa
