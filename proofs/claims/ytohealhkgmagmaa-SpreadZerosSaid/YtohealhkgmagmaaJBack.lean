/- SpreadBack, walked out of what package spread says. -/
import Derived.Test.YtohealhkgmagmaaJActs
namespace Go.Proofs.Ytohealhkgmagmaa
open Go.ChangeShapes Go.WideShapes Go.ChangeAt Go.RowKit Go.Deep
set_option linter.unusedVariables false

theorem rowOf_lt {α : Type} {cells : α → List Value} {size : Nat} {w : World} {u : Value} {xs : List α} (h : RowOf cells size w u xs) {b : Nat} (hb : u.ownBlock = some b) : b < w.heap.size := by
  rcases h.2 with ⟨h0, _⟩ | ⟨g, o, c, hv, hg, _⟩
  · rw [h0] at hb; cases hb
  · rw [hv] at hb
    have e : g = b := by simpa [Value.ownBlock] using hb
    rw [← e]; exact hg
/-- Two counts, and runs that were told. -/
structure BK (D : World → Nat → List Int → List Nat → Prop) (w wx : World) (p q : Nat) (L M : List Int) (O P : List Nat) (u : Value) (R : List JR) : Prop where
  two : Two D D w wx p L O q M P
  row : RowOf runCells 3 wx u R
  an : ∀ b, u.ownBlock = some b → b ∉ O
  bn : ∀ b, u.ownBlock = some b → b ∉ P
section
variable {D : World → Nat → List Int → List Nat → Prop} {w wx w2 : World} {p q : Nat} {L M L' : List Int} {O P : List Nat} {u : Value} {R : List JR}
theorem BK.grow (H : StOk D) (h : BK D w wx p q L M O P u R) (g : wx.grownBy w2 none) : BK D w w2 p q L M O P u R := ⟨h.two.grow H H g, rowOf_grow h.row g, h.an, h.bn⟩
theorem BK.first (H : StOk D) (h : BK D w wx p q L M O P u R) (t : SL D wx w2 p O L') (hk : JOk L') : ∃ O', BK D w w2 p q L' M O' P u R := by
  obtain ⟨O', h2, t2, o2⟩ := h.two.first H t hk
  refine ⟨O', h2, row_turn h.row t2 h.an, fun b e hm => ?_, h.bn⟩
  rcases o2 b hm with h3 | h3
  · exact h.an b e h3
  · have := rowOf_lt h.row e; omega
theorem BK.second (H : StOk D) (h : BK D w wx p q L M O P u R) (t : SL D wx w2 q P L') (hk : JOk L') : ∃ P', BK D w w2 p q L L' O P' u R := by
  obtain ⟨P', h2, t2, o2⟩ := h.two.second H t hk
  refine ⟨P', h2, row_turn h.row t2 h.bn, h.an, fun b e hm => ?_⟩
  rcases o2 b hm with h3 | h3
  · exact h.bn b e h3
  · have := rowOf_lt h.row e; omega
end
/-- Told runs, held against others. -/
theorem told_same {w : World} {u v : Value} {R : List JR} (hu : RowOf runCells 3 w u R) (hv : RowOf runCells 3 w v R) (hl : R.length ≤ 1000000) : Calls Try.prog 21 #[u, v] w fun e w' => e = .returned (.bool true) ∧ w.grownBy w' none := by
  obtain ⟨s, c, rfl⟩ := rowOf_form hu
  obtain ⟨s', c', rfl⟩ := rowOf_form hv
  exact same_ok c c' hu hv hl true (by simp)

set_option maxRecDepth 100000 in
set_option maxHeartbeats 8000000 in
theorem back_walk11 {D : World → Nat → List Int → List Nat → Prop} (H : SpOk D) (w : World) (n0 : Int) (sa : Option Addr) (l c : Nat) (As : List JActV) (hA : JActsAre w sa l As) (A : JActV) (hn : okU n0) (hOk : A.Ok) :
    Calls Try.prog 5 #[.int .u64 n0, .slice sa l c, .agg #[.int .i64 A.lo, .int .i64 A.hi, .int .i64 A.by_, .bool A.gr]] w fun e w' => e = .returned (.bool true) ∧ w.grownBy w' none := by
  have HLv := Lib.hid (fun wx => lives11 H wx)
  have HT := Lib.hid H
  have q1 := eql_ptr_nil
  have q2 := neq_ptr_nil
  obtain ⟨k, hk⟩ : ∃ k : Nat, n0 % 60 = k := Int.eq_ofNat_of_zero_le (by omega)
  have k1 : k < 60 := by omega
  have n1 := hn.1
  have n2 := hn.2
  have g1 := World.grownBy_alloc w (.cells #[.int .i64 A.lo, .int .i64 A.hi, .int .i64 A.by_, .bool A.gr] 29 (0, 0)) none
  have hb := JActB.new w A
  generalize hw1 : w.alloc (.cells #[.int .i64 A.lo, .int .i64 A.hi, .int .i64 A.by_, .bool A.gr] 29 (0, 0)) = w1 at *
  have HA := Lib.hid hA
  have HG1 := Lib.hid g1
  have HB1 := Lib.hid hb
  have HOk := Lib.hid hOk
  have HN := Lib.hid (H.new k w1 (by omega))
  have HZ := Lib.hid (JOk.zeros (k := k) (by omega))
  generalize hY : w.heap.size = Y at *
  clear H hA hn g1 hb hOk
  go_enter Try.func5, Try.ntmps5
  go_wp2_with fail
  refine HN.out.mono ?_
  rintro e w2 ⟨p, O, rfl, h2, g2, o2⟩
  have H2 := Lib.hid (show LJ D w1 w2 p (List.replicate k 0) O from ⟨h2, o2, g2, HZ.out⟩)
  obtain ⟨b0, b1, b2, b3⟩ := (HB1.out.grow g2).at
  generalize List.replicate k (0 : Int) = L0 at H2
  clear h2 g2 o2 HN HZ
  by_cases hc : l ≤ 60 ∧ -1000000 ≤ A.by_ ∧ A.by_ ≤ 1000000
  · have d1 : decide ((l : Int) > 60) = false := decide_eq_false (by omega)
    have d2 : decide (A.by_ < -1000000) = false := decide_eq_false (by omega)
    have d3 : decide (A.by_ > 1000000) = false := decide_eq_false (by omega)
    have HBy := Lib.hid hc.2
    have hl60 := hc.1
    clear hc
    go_wp2_with fail
    clear q1 q2 d1 d2 d3 b0 b1 b2 b3
    go_loopw [46] (fun iv wr => ∃ (j : Nat) (L : List Int) (O : List Nat), j ≤ l ∧ iv = .int .i64 j ∧ Hid (LJ D w1 wr p L O)) (fun iv _ => l - (intOf iv).toNat)
    case atStart => exact ⟨0, L0, O, by omega, rfl, H2.out⟩
    case round =>
      clear H2
      obtain ⟨j, L, O2, hj2, rfl, HJ⟩ := hrel
      by_cases hlt : j < l
      · obtain ⟨B, hBj⟩ : ∃ B, As[j]? = some B := ⟨_, List.getElem?_eq_getElem (by rw [HA.out.len]; exact hlt)⟩
        have HOb := Lib.hid (HA.out.ok B (List.mem_of_getElem? hBj))
        obtain ⟨b, o, hs, a0, a1, a2, a3⟩ := HA.out.at (grown_trans HG1.out HJ.out.grown) hBj
        subst hs
        have ga := World.grownBy_alloc wr (.cells #[.int .i64 B.lo, .int .i64 B.hi, .int .i64 B.by_, .bool B.gr] 29 (0, 0)) none
        have hb2 := JActB.new wr B
        have HJ2 := Lib.hid (HJ.out.grow HT.out.toStOk ga)
        clear hBj
        obtain ⟨lo, hi, by_, gr⟩ := B
        simp only at a0 a1 a2 a3 hb2 HJ2 ga
        generalize hwB : wr.alloc (.cells #[.int .i64 lo, .int .i64 hi, .int .i64 by_, .bool gr] 29 (0, 0)) = wB at *
        obtain ⟨b0, b1, b2, b3⟩ := hb2.at
        simp only at b0 b1 b2 b3
        have HC := Lib.hid (HT.out.add HJ2.out.d HJ2.out.ok lo hi by_ HOb.out.lo HOb.out.hi HOb.out.by_)
        clear HJ hb2 ga
        go_wp2_with fail
        refine HC.out.mono ?_
        rintro e w5 ha
        obtain ⟨u5, rfl, -, -, h5⟩ := addA_open ha
        obtain ⟨O5, h5, -, -⟩ := HJ2.out.left h5 HJ2.out.ok.add
        have H5 := Lib.hid h5
        clear ha h5 HC HJ2 a0 a1 a2 a3 b0 b1 b2 b3
        go_wp2_with fail
        go_roundw
        case rel => exact ⟨j + 1, _, O5, by omega, by go_num, H5⟩
        case measure => simp [intOf]; omega
      · obtain rfl : j = l := by omega
        have HK := Lib.hid HJ.out.ok
        have HRl := Lib.hid (Nat.le_trans (runs_le HK.out) (show 4096 ≤ 1000000 by decide))
        have HC := Lib.hid (HT.out.runs HJ.out.d HK.out)
        go_wp2_with fail
        refine HC.out.mono ?_
        rintro e w8 ⟨u8, rfl, r8, f8, g8⟩
        have hO8 : ∀ b, u8.ownBlock = some b → b ∉ O2 := fun b e hm => by have := f8 b e; have := HT.out.lt HJ.out.d b hm; omega
        have HJ8 := Lib.hid (HJ.out.grow HT.out.toStOk g8)
        have HC := Lib.hid (HT.out.copy HJ8.out.d HK.out)
        have HR8 := Lib.hid r8
        have HO8 := Lib.hid hO8
        obtain ⟨s8, c8, e8⟩ := rowOf_form r8
        subst e8
        clear r8 f8 g8 hO8 HJ
        go_wp2_with fail
        refine HC.out.mono ?_
        rintro e w9 ⟨q, P, rfl, h9, g9, o9⟩
        have HB := Lib.hid (show BK D w1 w9 p q L L O2 P (.slice s8 (runsJ L).length c8) (runsJ L) from ⟨Two.make HT.out.toStOk HT.out.toStOk HJ8.out g9 h9 o9 HK.out, rowOf_grow HR8.out g9, HO8.out, fun b e hm => by have := o9 b hm; have := rowOf_lt HR8.out e; omega⟩)
        obtain ⟨b0, b1, b2, b3⟩ := (HB1.out.grow HB.out.two.one.grown).at
        have HC := Lib.hid (HT.out.add HB.out.two.one.d HK.out A.lo A.hi A.by_ HOk.out.lo HOk.out.hi HOk.out.by_)
        obtain ⟨RR, hRR⟩ : ∃ RR, runsJ L = RR := ⟨_, rfl⟩
        have HRR := Lib.hid hRR
        rw [hRR] at HB HRl
        clear h9 g9 o9 HJ8 HR8 HO8
        rw [hRR]
        clear hRR
        go_wp2_with fail
        refine HC.out.mono ?_
        rintro e w10 ha
        obtain ⟨u10, rfl, r10, -, h10⟩ := addA_open ha
        by_cases hm : mayJ L A.lo A.hi A.by_
        · have hmore : JOk (moreJ L A.lo A.hi A.by_) := by have := HK.out.add (lo := A.lo) (hi := A.hi) (by_ := A.by_); rwa [addJ_yes hm] at this
          rw [addJ_yes hm] at r10 h10 ⊢
          simp only at r10 h10 ⊢
          obtain ⟨O10, h10⟩ := HB.out.first HT.out.toStOk h10 hmore
          have H10 := Lib.hid h10
          obtain ⟨s10, c10, e10⟩ := rowOf_form r10
          subst e10
          have HMore := Lib.hid hmore
          have hback := addJ_yes (mayJ_back HK.out hm)
          rw [moreJ_back] at hback
          have HBack := Lib.hid hback
          clear ha r10 h10 hmore hm hback HC HB b0 b1 b2 b3
          have HC := Lib.hid (HT.out.runs H10.out.two.two.d HK.out)
          rw [HRR.out] at HC
          go_wp2_with fail
          refine HC.out.mono ?_
          rintro e w11 ⟨u11, rfl, r11, -, g11⟩
          have H11 := Lib.hid (H10.out.grow HT.out.toStOk g11)
          have HS := Lib.hid (told_same r11 H11.out.row HRl.out)
          obtain ⟨s11, c11, e11⟩ := rowOf_form r11
          subst e11
          clear r11 g11 HC H10
          go_wp2_with fail
          refine HS.out.mono ?_
          rintro e w12 ⟨rfl, g12⟩
          have H12 := Lib.hid (H11.out.grow HT.out.toStOk g12)
          clear g12 HS H11
          obtain ⟨b0, b1, b2, b3⟩ := (HB1.out.grow H12.out.two.one.grown).at
          have HC := Lib.hid (HT.out.add H12.out.two.one.d HMore.out A.lo A.hi (-A.by_) HOk.out.lo HOk.out.hi ⟨by have := HBy.out; omega, by have := HBy.out; omega⟩)
          have hneg : -A.by_ ≤ 1000000 ∧ -1000000 ≤ -A.by_ := by have := HBy.out; omega
          obtain ⟨hneg1, hneg2⟩ := hneg
          go_wp2_with fail
          refine HC.out.mono ?_
          rintro e w14 ha
          obtain ⟨u14, rfl, r14, -, h14⟩ := addA_open ha
          rw [HBack.out] at r14 h14 ⊢
          simp only at r14 h14 ⊢
          obtain ⟨O14, h14⟩ := H12.out.first HT.out.toStOk h14 HK.out
          have H14 := Lib.hid h14
          obtain ⟨s14, c14, e14⟩ := rowOf_form r14
          subst e14
          clear ha r14 h14 HC H12 b0 b1 b2 b3
          have HC := Lib.hid (HT.out.runs H14.out.two.one.d HK.out)
          rw [HRR.out] at HC
          go_wp2_with fail
          refine HC.out.mono ?_
          rintro e w15 ⟨u15, rfl, r15, -, g15⟩
          have H15 := Lib.hid (H14.out.grow HT.out.toStOk g15)
          have HS := Lib.hid (told_same r15 H15.out.row HRl.out)
          obtain ⟨s15, c15, e15⟩ := rowOf_form r15
          subst e15
          clear r15 g15 HC H14
          go_wp2_with fail
          refine HS.out.mono ?_
          rintro e w16 ⟨rfl, g16⟩
          have H16 := Lib.hid (H15.out.grow HT.out.toStOk g16)
          clear g16 HS H15
          have HC := Lib.hid (HT.out.add H16.out.two.two.d HK.out 0 k 1 (okS (by decide) (by decide)) (okS (by omega) (by omega)) (okS (by decide) (by decide)))
          go_wp2_with fail
          refine HC.out.mono ?_
          rintro e w40 ha
          obtain ⟨u40, rfl, -, -, h40⟩ := addA_open ha
          obtain ⟨P40, h40⟩ := H16.out.second HT.out.toStOk h40 HK.out.add
          have H40 := Lib.hid h40
          clear ha h40 HC H16
          have HC := Lib.hid (HT.out.runs H40.out.two.one.d HK.out)
          rw [HRR.out] at HC
          go_wp2_with fail
          refine HC.out.mono ?_
          rintro e w41 ⟨u41, rfl, r41, -, g41⟩
          have H41 := Lib.hid (H40.out.grow HT.out.toStOk g41)
          have HS := Lib.hid (told_same r41 H41.out.row HRl.out)
          obtain ⟨s41, c41, e41⟩ := rowOf_form r41
          subst e41
          clear r41 g41 HC H40
          go_wp2_with fail
          refine HS.out.mono ?_
          rintro e w42 ⟨rfl, g42⟩
          have H42 := Lib.hid (H41.out.grow HT.out.toStOk g42)
          clear g42 HS H41
          go_wp2_with fail
          refine (HLv.out _).mono ?_
          rintro e w50 ⟨rfl, g50⟩
          have HG := Lib.hid (grown_trans HG1.out (grown_trans H42.out.two.one.grown g50))
          clear g50
          go_wp2_with fail
          go_ret
          exact ⟨rfl, HG.out⟩
        · have hno := addJ_no hm
          rw [hno] at r10 h10 ⊢
          simp only at r10 h10 ⊢
          obtain ⟨O10, h10⟩ := HB.out.first HT.out.toStOk h10 HK.out
          have H10 := Lib.hid h10
          obtain ⟨s10, c10, e10⟩ := rowOf_form r10
          subst e10
          clear ha r10 h10 hm hno HC HB b0 b1 b2 b3
          have HC := Lib.hid (HT.out.runs H10.out.two.two.d HK.out)
          rw [HRR.out] at HC
          go_wp2_with fail
          refine HC.out.mono ?_
          rintro e w11 ⟨u11, rfl, r11, -, g11⟩
          have H11 := Lib.hid (H10.out.grow HT.out.toStOk g11)
          have HS := Lib.hid (told_same r11 H11.out.row HRl.out)
          obtain ⟨s11, c11, e11⟩ := rowOf_form r11
          subst e11
          clear r11 g11 HC H10
          go_wp2_with fail
          refine HS.out.mono ?_
          rintro e w12 ⟨rfl, g12⟩
          have H12 := Lib.hid (H11.out.grow HT.out.toStOk g12)
          clear g12 HS H11
          have HC := Lib.hid (HT.out.runs H12.out.two.one.d HK.out)
          rw [HRR.out] at HC
          go_wp2_with fail
          refine HC.out.mono ?_
          rintro e w21 ⟨u21, rfl, r21, -, g21⟩
          have H21 := Lib.hid (H12.out.grow HT.out.toStOk g21)
          have HS := Lib.hid (told_same r21 H21.out.row HRl.out)
          obtain ⟨s21, c21, e21⟩ := rowOf_form r21
          subst e21
          clear r21 g21 HC H12
          go_wp2_with fail
          refine HS.out.mono ?_
          rintro e w22 ⟨rfl, g22⟩
          have H22 := Lib.hid (H21.out.grow HT.out.toStOk g22)
          clear g22 HS H21
          have HC := Lib.hid (HT.out.add H22.out.two.two.d HK.out 0 k 1 (okS (by decide) (by decide)) (okS (by omega) (by omega)) (okS (by decide) (by decide)))
          go_wp2_with fail
          refine HC.out.mono ?_
          rintro e w40 ha
          obtain ⟨u40, rfl, -, -, h40⟩ := addA_open ha
          obtain ⟨P40, h40⟩ := H22.out.second HT.out.toStOk h40 HK.out.add
          have H40 := Lib.hid h40
          clear ha h40 HC H22
          have HC := Lib.hid (HT.out.runs H40.out.two.one.d HK.out)
          rw [HRR.out] at HC
          go_wp2_with fail
          refine HC.out.mono ?_
          rintro e w41 ⟨u41, rfl, r41, -, g41⟩
          have H41 := Lib.hid (H40.out.grow HT.out.toStOk g41)
          have HS := Lib.hid (told_same r41 H41.out.row HRl.out)
          obtain ⟨s41, c41, e41⟩ := rowOf_form r41
          subst e41
          clear r41 g41 HC H40
          go_wp2_with fail
          refine HS.out.mono ?_
          rintro e w42 ⟨rfl, g42⟩
          have H42 := Lib.hid (H41.out.grow HT.out.toStOk g42)
          clear g42 HS H41
          go_wp2_with fail
          refine (HLv.out _).mono ?_
          rintro e w50 ⟨rfl, g50⟩
          have HG := Lib.hid (grown_trans HG1.out (grown_trans H42.out.two.one.grown g50))
          clear g50
          go_wp2_with fail
          go_ret
          exact ⟨rfl, HG.out⟩
  · have hlc : (l : Int) > 60 ∨ (¬ (l : Int) > 60 ∧ A.by_ < -1000000) ∨ (¬ (l : Int) > 60 ∧ ¬ A.by_ < -1000000 ∧ A.by_ > 1000000) := by omega
    rcases hlc with d1 | ⟨d1, d2⟩ | ⟨d1, d2, d3⟩
    all_goals
      clear hc
      go_wp2_with fail
      refine (HLv.out _).mono ?_
      rintro e w6 ⟨rfl, g6⟩
      have HG := Lib.hid (grown_trans HG1.out (grown_trans H2.out.grown g6))
      clear g6
      go_wp2_with fail
      go_ret
      exact ⟨rfl, HG.out⟩
end Go.Proofs.Ytohealhkgmagmaa
