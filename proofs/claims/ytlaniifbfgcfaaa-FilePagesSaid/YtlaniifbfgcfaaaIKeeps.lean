/- FileKeeps, walked out of what package file says. -/
import Derived.Test.YtlaniifbfgcfaaaIMany
namespace Go.Proofs.Ytlaniifbfgcfaaa
open Go.ChangeShapes Go.WideShapes Go.ChangeAt Go.RowKit Go.Deep
set_option linter.unusedVariables false

def keepI (pa : List UInt8) (l : Nat) : IS := ⟨[1], putI zerosI 1 0 pa, (l : Int)⟩
theorem keep_make : makeI newI 1 = (1, 0, ⟨[1], zerosI, 0⟩) := rfl
theorem keep_write {pa : List UInt8} (h : pa.length = 4096) : writeI ⟨[1], zerosI, 0⟩ 1 0 pa = (0, keepI pa 0) := by
  unfold writeI
  rw [if_pos (by decide), if_pos ⟨by decide, h⟩, if_neg (by show ¬ (0 : Int) = 1; decide)]
  rfl
theorem keep_plan (pa : List UInt8) (k : Nat) : planI (keepI pa 0) k = (0, keepI pa k) := by
  unfold planI
  rw [if_neg (by omega)]
  rfl
theorem keep_has (pa : List UInt8) (l : Nat) : (keepI pa l).has 1 := ⟨Int.le_refl _, by show (1 : Int) ≤ 1; decide⟩
theorem keep_page (pa : List UInt8) (l : Nat) : (keepI pa l).page 1 0 := ⟨keep_has pa l, Int.le_refl _, by show (0 : Int) < 1; decide⟩
theorem keep_at (pa : List UInt8) (l : Nat) : (keepI pa l).P 1 0 = pa := by
  show putI zerosI 1 0 pa 1 0 = pa
  unfold putI
  rw [if_pos ⟨rfl, rfl⟩]
theorem keep_dec (l : Nat) : decI (l : Int) = ((l - 1 : Nat) : Int) := by unfold decI; split <;> omega
theorem keep_read {pa : List UInt8} {l : Nat} (h : l ≠ 1) : readI (keepI pa l) 1 0 = (0, pa, keepI pa (l - 1)) := by
  unfold readI
  rw [if_pos (keep_has pa l), if_pos (keep_page pa l), if_neg (by show ¬ (l : Int) = 1; omega), keep_at]
  unfold failI keepI
  simp only
  rw [keep_dec]
theorem keep_fail {pa pb : List UInt8} (h : pb.length = 4096) : writeI (keepI pa 1) 1 0 pb = (6, keepI pa 0) := by
  unfold writeI
  rw [if_pos (keep_has pa 1), if_pos ⟨keep_page pa 1, h⟩, if_pos (by show ((1 : Nat) : Int) = 1; rfl)]
  rfl
theorem keep_last {pa pb : List UInt8} (h : pb.length = 4096) : (writeI (keepI pa 0) 1 0 pb).1 = 0 := by
  unfold writeI
  rw [if_pos (keep_has pa 0), if_pos ⟨keep_page pa 0, h⟩, if_neg (by show ¬ ((0 : Nat) : Int) = 1; decide)]
theorem keep_ok {pa : List UInt8} (h : pa.length = 4096) {l : Nat} (hl : l < 100) : (keepI pa l).Ok :=
  ⟨by show 1 ≤ 16; decide, fun z hz => by rw [List.mem_singleton.1 hz]; decide, fun z hz => by rw [List.mem_singleton.1 hz]; decide, fun i n => by
    show (putI zerosI 1 0 pa i n).length = 4096
    unfold putI
    split
    · exact h
    · exact pageZ_length, fun i n hp => by
    show putI zerosI 1 0 pa i n = pageZ
    unfold putI
    split
    · rename_i e
      exact absurd (e.1 ▸ e.2 ▸ keep_page pa l) hp
    · rfl, by show (0 : Int) ≤ (l : Int); omega, by show (l : Int) < _; omega⟩

set_option maxRecDepth 100000 in
set_option maxHeartbeats 4000000 in
theorem keeps_walk10 {D : World → Nat → IS → List Nat → Nat → Prop} (H : FlOk D) (w : World) (sa : Option Addr) (la ca : Nat) (A : List UInt8) (hA : Src w sa la A) (sb : Option Addr) (lb cb : Nat) (B : List UInt8) (hB : Src w sb lb B) (n0 : Int) (hn : okU n0) :
    Calls Try.prog 5 #[.slice sa la ca, .slice sb lb cb, .int .u64 n0] w fun e w' => e = .returned (.bool true) ∧ w.grownBy w' none := by
  have HLv := Lib.hid (fun wx => lives10 H wx)
  have HT := Lib.hid H
  have HA := Lib.hid hA
  have HBB := Lib.hid hB
  by_cases hl : la ≤ 4096 ∧ lb ≤ 4096
  · have d0 : decide ((la : Int) > 4096) = false := by simp; omega
    have d1 : decide ((lb : Int) > 4096) = false := by simp; omega
    have la1 : la ≤ 1000000 := by omega
    have lb1 : lb ≤ 1000000 := by omega
    obtain ⟨c, hc⟩ : ∃ c : Nat, n0 % 9 = c := Int.eq_ofNat_of_zero_le (by omega)
    have c1 : c < 9 := by omega
    have n1 := hn.1
    have n2 := hn.2
    have HN := Lib.hid (H.new w)
    clear H hn hA hB hl
    go_enter Try.func5, Try.ntmps5
    go_wp2_with fail
    refine HN.out.mono ?_
    rintro e w1 ⟨p, O, rfl, h1, g1, o1⟩
    have H1 := Lib.hid (show LI D w w1 p newI O 0 from ⟨h1, o1, g1, newI_ok⟩)
    have hk := HT.out.make h1 H1.out.ok 1 (okS (by decide) (by decide))
    have hok := H1.out.ok.make (n := 1)
    rw [keep_make] at hk hok
    have HK := Lib.hid hk
    have HO := Lib.hid hok
    clear hk h1 g1 o1 HN hok
    go_wp2_with fail
    refine HK.out.mono ?_
    rintro e w2 ⟨rfl, h2⟩
    obtain ⟨O2, h2, -, -⟩ := H1.out.left h2 HO.out
    have H2 := Lib.hid h2
    have HP := Lib.hid (page_ok ca (HA.out.grown h2.grown) la1)
    clear h2 HK H1 HO
    go_wp2_with fail
    refine HP.out.mono ?_
    rintro e w3 ⟨g, rfl, hg, hb, g3⟩
    have H3 := Lib.hid (H2.out.grow HT.out g3)
    have hsrc := hb.src
    rw [fillOf_len] at hsrc
    have hk := HT.out.write H3.out.d H3.out.ok (by decide) 1 0 (some ⟨g, 0, none⟩) 4096 4096 (fillOf A) (okS (by decide) (by decide)) (okS (by decide) (by decide)) hsrc (by decide) (fun _ ad e hm => by cases e; have h9 := HT.out.lt H2.out.d g hm; omega)
    have hpa := fillOf_len A
    rw [keep_write hpa] at hk
    obtain ⟨pa, hpe⟩ : ∃ pa, fillOf A = pa := ⟨_, rfl⟩
    have HPA := Lib.hid hpe
    rw [hpe] at hk hpa
    have HPl := Lib.hid hpa
    have HK := Lib.hid hk
    clear hk hsrc hb hg g3 HP H2 hpa hpe
    go_wp2_with fail
    refine HK.out.mono ?_
    rintro e w4 ⟨rfl, h4⟩
    obtain ⟨O4, h4, -, -⟩ := H3.out.left h4 (keep_ok HPl.out (by decide))
    have hk := HT.out.plan h4.d h4.ok ((c + 1 : Nat) : Int) (okS (by omega) (by omega))
    rw [keep_plan] at hk
    rw [show ((c + 1 : Nat) : Int) = 1 + (c : Int) by omega] at hk
    have HK := Lib.hid hk
    have H4 := Lib.hid h4
    clear h4 H3 hk
    go_wp2_with fail
    refine HK.out.mono ?_
    rintro e w5 ⟨rfl, h5⟩
    obtain ⟨O5, h5, -, -⟩ := H4.out.left h5 (keep_ok HPl.out (by omega))
    have H5 := Lib.hid h5
    clear h5 H4 HK
    go_wp2_with fail
    go_loopw [11] (fun iv wr => ∃ (j : Nat) (O : List Nat), j ≤ c ∧ iv = .int .i64 ((j : Int) + 1) ∧ Hid (LI D w wr p (keepI pa (c + 1 - j)) O 1)) (fun iv _ => c + 2 - (intOf iv).toNat)
    case atStart => exact ⟨0, O5, by omega, rfl, H5.out⟩
    case round =>
      clear H5
      obtain ⟨j, O6, hj, rfl, HJ⟩ := hrel
      by_cases hlt : j < c
      · have e0 : decide ((j : Int) + 1 < 1 + (c : Int)) = true := by simp; omega
        have hk := HT.out.read HJ.out.d HJ.out.ok (by decide) 1 0 (okS (by decide) (by decide)) (okS (by decide) (by decide))
        rw [keep_read (by omega)] at hk
        have HK := Lib.hid hk
        clear hk
        go_wp2_with fail
        refine HK.out.mono ?_
        rintro e w7 ⟨u, O7, rfl, h7, t7, o7, f7⟩
        obtain ⟨O8, h8, -, -⟩ := HJ.out.left ⟨O7, h7, t7, o7⟩ (keep_ok HPl.out (by omega))
        rw [show c + 1 - j - 1 = c + 1 - (j + 1) by omega] at h8
        have H8 := Lib.hid h8
        clear h7 t7 o7 f7 h8 HK HJ
        go_wp2_with fail
        go_roundw
        case rel => exact ⟨j + 1, O8, by omega, by go_num, H8⟩
        case measure => simp [intOf]; omega
      · have e0 : decide ((j : Int) + 1 < 1 + (c : Int)) = false := by simp; omega
        rw [show c + 1 - j = 1 by omega] at HJ
        have HP := Lib.hid (page_ok cb (HBB.out.grown HJ.out.grown) lb1)
        clear hlt
        go_wp2_with fail
        refine HP.out.mono ?_
        rintro e w7 ⟨g, rfl, hg, hb, g7⟩
        have H7 := Lib.hid (HJ.out.grow HT.out g7)
        have hsrc := hb.src
        rw [fillOf_len] at hsrc
        have hk := HT.out.write H7.out.d H7.out.ok (by decide) 1 0 (some ⟨g, 0, none⟩) 4096 4096 (fillOf B) (okS (by decide) (by decide)) (okS (by decide) (by decide)) hsrc (by decide) (fun _ ad e hm => by cases e; have h9 := HT.out.lt HJ.out.d g hm; omega)
        have hpb := fillOf_len B
        rw [keep_fail hpb] at hk
        have HK := Lib.hid hk
        clear hk hsrc hb hg g7 HP HJ
        go_wp2_with fail
        refine HK.out.mono ?_
        rintro e w8 ⟨rfl, h8⟩
        obtain ⟨O8, h8, -, -⟩ := H7.out.left h8 (keep_ok HPl.out (by decide))
        have hk := HT.out.read h8.d h8.ok (by decide) 1 0 (okS (by decide) (by decide)) (okS (by decide) (by decide))
        rw [keep_read (by decide)] at hk
        have HK := Lib.hid hk
        have H8 := Lib.hid h8
        clear hk h8 H7
        go_wp2_with fail
        refine HK.out.mono ?_
        rintro e w9 ⟨u, O9, rfl, h9, t9, o9, f9⟩
        obtain ⟨O9', h9', -, -⟩ := H8.out.left ⟨O9, h9, t9, o9⟩ (keep_ok HPl.out (by decide))
        obtain ⟨us, uc, rfl, usrc⟩ := f9.src
        rw [HPl.out] at usrc ⊢
        have H9 := Lib.hid h9'
        have HU := Lib.hid usrc
        have HP := Lib.hid (page_ok ca (HA.out.grown h9'.grown) la1)
        clear h9 t9 o9 f9 usrc HK H8 h9'
        go_wp2_with fail
        refine HP.out.mono ?_
        rintro e w10 ⟨g, rfl, hg, hb, g10⟩
        have hsrc := hb.src
        rw [fillOf_len, HPA.out] at hsrc
        have HB := Lib.hid (bytesEq (HU.out.grown g10) hsrc uc 4096 true (by rw [beq_self_eq_true]))
        have H10 := Lib.hid (H9.out.grow HT.out g10)
        clear hsrc hb hg g10 HP
        go_wp2_with fail
        refine HB.out.mono ?_
        rintro e w11 ⟨rfl, e11⟩
        subst w11
        have HP := Lib.hid (page_ok cb (HBB.out.grown H10.out.grown) lb1)
        clear HB HU H9
        go_wp2_with fail
        refine HP.out.mono ?_
        rintro e w11 ⟨g, rfl, hg, hb, g11⟩
        have H11 := Lib.hid (H10.out.grow HT.out g11)
        have hsrc := hb.src
        rw [fillOf_len] at hsrc
        have hk := HT.out.write H11.out.d H11.out.ok (by decide) 1 0 (some ⟨g, 0, none⟩) 4096 4096 (fillOf B) (okS (by decide) (by decide)) (okS (by decide) (by decide)) hsrc (by decide) (fun _ ad e hm => by cases e; have h9 := HT.out.lt H10.out.d g hm; omega)
        rw [show (writeI (keepI pa (0 - 1)) 1 0 (fillOf B)).1 = 0 from keep_last hpb] at hk
        have HO := Lib.hid (H11.out.ok.write (i := 1) (n := 0) (bs := fillOf B))
        generalize (writeI (keepI pa (0 - 1)) 1 0 (fillOf B)).2 = S at *
        have HK := Lib.hid hk
        clear hk hsrc hb hg g11 HP H10
        go_wp2_with fail
        refine HK.out.mono ?_
        rintro e w12 ⟨rfl, h12⟩
        obtain ⟨O12, h12, -, -⟩ := H11.out.left h12 HO.out
        have HG := Lib.hid h12.grown
        clear h12 HK H11 HO
        go_wp2_with fail
        refine (HLv.out _).mono ?_
        rintro e w13 ⟨rfl, g13⟩
        have HG13 := Lib.hid (grown_trans HG.out g13)
        clear g13
        go_wp2_with fail
        go_ret
        exact ⟨rfl, HG13.out⟩
  · clear H hn hA hB HA HBB
    rcases (show la > 4096 ∨ (¬ la > 4096 ∧ lb > 4096) by omega) with h1 | ⟨h1, h2⟩
    · have d0 : decide ((la : Int) > 4096) = true := by simp; omega
      clear hl h1
      go_enter Try.func5, Try.ntmps5
      go_wp2_with fail
      refine (HLv.out _).mono ?_
      rintro e w1 ⟨rfl, g1⟩
      have HG := Lib.hid g1
      clear g1
      go_wp2_with fail
      go_ret
      exact ⟨rfl, HG.out⟩
    · have d0 : decide ((la : Int) > 4096) = false := by simp; omega
      have d1 : decide ((lb : Int) > 4096) = true := by simp; omega
      clear hl h1 h2
      go_enter Try.func5, Try.ntmps5
      go_wp2_with fail
      refine (HLv.out _).mono ?_
      rintro e w1 ⟨rfl, g1⟩
      have HG := Lib.hid g1
      clear g1
      go_wp2_with fail
      go_ret
      exact ⟨rfl, HG.out⟩
end Go.Proofs.Ytlaniifbfgcfaaa
