/- SwapNone: its walk. -/
import Derived.Test.YtnfofhnjeinmfaaVZero
namespace Go.Proofs.Ytnfofhnjeinmfaa
open Go.ChangeShapes Go.WideShapes Go.ChangeAt Go.RowKit Go.Deep
open Extern.Stop (cell)
set_option linter.unusedVariables false

set_option maxRecDepth 100000 in
set_option maxHeartbeats 4000000 in
theorem none_walk9 {D : World → Nat → VS → List Nat → Prop} (H : SwOk D) {N : World → Value → Prop} (M : NoneOk9 N) (hz : ∀ w : World, N (w.alloc devZero) (.pointer (some ⟨w.heap.size, 0, none⟩))) (w : World) (A : VActV) (hA : A.Ok w) :
    Calls Try.prog 6 #[.agg #[.int .i64 A.k, .int .i64 A.n, .slice A.s A.l A.c, .bool A.raw]] w fun e w' => e = .returned (.bool true) ∧ w.grownBy w' none := by
  have HLv := Lib.hid (fun wx => lives9 H wx)
  have HM := Lib.hid M
  have HZ := Lib.hid hz
  have g1 := World.grownBy_alloc w (.cells #[.int .i64 A.k, .int .i64 A.n, .slice A.s A.l A.c, .bool A.raw] 31 (0, 0)) none
  have hb := VActB.new w A
  have hA1 := hA.grow g1
  generalize hw1 : w.alloc (.cells #[.int .i64 A.k, .int .i64 A.n, .slice A.s A.l A.c, .bool A.raw] 31 (0, 0)) = w1 at *
  have g2 := World.grownBy_alloc w1 (.cells #[.int .i64 A.k, .int .i64 A.n, .slice A.s A.l A.c, .bool A.raw] 31 (0, 0)) none
  have HLt := Lib.hid (light_ok 1 (one_acts hA1))
  generalize hw2 : w1.alloc (.cells #[.int .i64 A.k, .int .i64 A.n, .slice A.s A.l A.c, .bool A.raw] 31 (0, 0)) = w2 at *
  have HB := Lib.hid (hb.grow g2)
  have HG := Lib.hid (grown_trans g1 g2)
  have HOk := Lib.hid hA
  obtain ⟨b0, b1, b2, b3⟩ := hb.at
  generalize hY : w.heap.size = Y at *
  rw [light_one] at HLt
  clear H M hz g1 hb hA1 g2 hA
  by_cases hl : A.l ≤ 5000
  · rw [decide_eq_true hl] at HLt
    have HAl := Lib.hid hl
    clear hl
    go_enter Try.func6, Try.ntmps6
    go_wp2_with fail
    refine HLt.out.mono ?_
    rintro e w3 ⟨rfl, g3⟩
    have h3 := HB.out.grow g3
    have HG3 := Lib.hid (grown_trans HG.out g3)
    have g4 := World.grownBy_alloc w3 devZero none
    have HI := Lib.hid (show NV N w (w3.alloc devZero) Y (.pointer (some ⟨w3.heap.size, 0, none⟩)) A from ⟨h3.grow g4, HZ.out w3, grown_trans HG3.out g4⟩)
    unfold devZero at HI
    clear h3 g3 g4 HG HB HLt HZ b0 b1 b2 b3
    go_wp2_with fail
    generalize hwz : w3.alloc (.cells #[.int .i64 0, .map none, .int .i64 0, .int .i64 0, .int .i64 0, .int .i64 0] 60 (0, 0)) = wz at *
    generalize hZ : w3.heap.size = Z at *
    go_loopw [16] (fun iv wr => ∃ j : Nat, j ≤ 2 ∧ iv = .int .i64 j ∧ Hid (NV N w wr Y (.pointer (some ⟨Z, 0, none⟩)) A)) (fun iv _ => 2 - (intOf iv).toNat)
    case atStart => exact ⟨0, by omega, rfl, HI.out⟩
    case round =>
      clear HI
      obtain ⟨j, hj, rfl, HJ⟩ := hrel
      by_cases hlt : j < 2
      · obtain ⟨v, hv, HV⟩ : ∃ v : Value, (∀ W, (Instr.index 61 (.agg #[.pointer none, .pointer (some ⟨Z, 0, none⟩)]) (.int .i64 (j : Int))).run Try.prog W = .ok v W) ∧ Hid (∀ wx, NV N w wx Y (.pointer (some ⟨Z, 0, none⟩)) A → N wx v) := by
          rcases (show j = 0 ∨ j = 1 by omega) with rfl | rfl
          · exact ⟨.pointer none, fun _ => by kernel_rfl, fun wx h => HM.out.nil wx⟩
          · exact ⟨.pointer (some ⟨Z, 0, none⟩), fun _ => by kernel_rfl, fun wx h => h.z⟩
        have hjb : decide ((j : Int) < 2) = true := by simp; omega
        have HRd := Lib.hid (HM.out.read (HV.out _ HJ.out) A.n)
        obtain ⟨b0, b1, b2, b3⟩ := HJ.out.b.at
        go_wp2_with fail
        refine HRd.out.mono ?_
        rintro e w5 ⟨u5, rfl, g5⟩
        have H5 := Lib.hid (HJ.out.grow HM.out g5)
        have HC := Lib.hid (HM.out.count (HV.out _ H5.out))
        clear g5 HRd b0 b1 b2 b3
        go_wp2_with fail
        refine HC.out.mono ?_
        rintro e w6 ⟨rfl, g6⟩
        have HB6 := Lib.hid ((H5.out.grow HM.out g6).grow HM.out (grown_drew1 _))
        have hkd := HB6.out.b.at
        clear g6 HC
        go_wp2_with fail
        go_region_held3 (fun w' => w'.cell? ⟨Y, 0, none⟩ = some (.int .i64 A.k) ∧ w'.cell? ⟨Y, 1, none⟩ = some (.int .i64 A.n) ∧ w'.cell? ⟨Y, 2, none⟩ = some (.slice A.s A.l A.c) ∧ w'.cell? ⟨Y, 3, none⟩ = some (.bool A.raw)) (exact hkd)
          (first
            | (go_at_call 13; with_reducible refine ((bytes_ok A (HOk.out.grow HB6.out.grown) HAl.out).mono ?_); rintro e w7 ⟨s7, c7, rfl, -, g7, -⟩; replace HB6 := Lib.hid (HB6.out.grow HM.out g7); replace hkd := HB6.out.b.at; clear g7)
            | (go_at_call 12; with_reducible refine ((HM.out.write (HV.out _ HB6.out) A.n s7 _ c7).mono ?_); rintro e w8 ⟨rfl, g8⟩; replace HB6 := Lib.hid (HB6.out.grow HM.out g8); replace hkd := HB6.out.b.at; clear g8)
            | (go_at_call 18; with_reducible refine ((HM.out.plan (HV.out _ HB6.out) A.raw A.n).mono ?_); rintro e w8 ⟨rfl, g8⟩; replace HB6 := Lib.hid (HB6.out.grow HM.out g8); replace hkd := HB6.out.b.at; clear g8)
            | (go_at_call 23; with_reducible refine ((HM.out.places (HV.out _ HB6.out)).mono ?_); rintro e w8 ⟨rfl, g8⟩; replace HB6 := Lib.hid (HB6.out.grow HM.out g8); replace hkd := HB6.out.b.at; clear g8)
            | (go_at_call 21; with_reducible refine ((HM.out.peek (HV.out _ HB6.out) A.n).mono ?_); rintro e w8 ⟨a8, c8, rfl, g8⟩; replace HB6 := Lib.hid (HB6.out.grow HM.out g8); replace hkd := HB6.out.b.at; clear g8))
        all_goals
          go_wp2_with fail
          go_roundw
          case rel => exact ⟨j + 1, by omega, by go_num, HB6.out⟩
          case measure => simp [intOf]; omega
      · obtain rfl : j = 2 := by omega
        go_wp2_with fail
        refine (HLv.out _).mono ?_
        rintro e w6 ⟨rfl, g6⟩
        have HG8 := Lib.hid (grown_trans HJ.out.grown g6)
        clear g6
        go_wp2_with fail
        go_ret
        exact ⟨rfl, HG8.out⟩
  · rw [decide_eq_false hl] at HLt
    clear hl
    go_enter Try.func6, Try.ntmps6
    go_wp2_with fail
    refine HLt.out.mono ?_
    rintro e w3 ⟨rfl, g3⟩
    have HG3 := Lib.hid (grown_trans HG.out g3)
    clear g3
    go_wp2_with fail
    refine (HLv.out _).mono ?_
    rintro e w6 ⟨rfl, g6⟩
    have HG8 := Lib.hid (grown_trans HG3.out g6)
    clear g6
    go_wp2_with fail
    go_ret
    exact ⟨rfl, HG8.out⟩
end Go.Proofs.Ytnfofhnjeinmfaa
