/- FileNone: its walk. -/
import Derived.Test.YtlaniifbfgcfaaaIZero
namespace Go.Proofs.Ytlaniifbfgcfaaa
open Go.ChangeShapes Go.WideShapes Go.ChangeAt Go.RowKit Go.Deep
open Extern.Stop (cell)
set_option linter.unusedVariables false

set_option maxRecDepth 100000 in
set_option maxHeartbeats 4000000 in
theorem none_walk10 {D : World → Nat → IS → List Nat → Nat → Prop} (H : FlOk D) {N : World → Value → Prop} (M : NoneOk10 N) (hz : ∀ w : World, N (w.alloc fileZero) (.pointer (some ⟨w.heap.size, 0, none⟩))) (w : World) (A : IActV) (hA : A.Ok w) :
    Calls Try.prog 7 #[.agg #[.int .i64 A.k, .int .i64 A.i, .int .i64 A.n, .slice A.s A.l A.c, .bool A.raw]] w fun e w' => e = .returned (.bool true) ∧ w.grownBy w' none := by
  have HLv := Lib.hid (fun wx => lives10 H wx)
  have HM := Lib.hid M
  have HZ := Lib.hid hz
  have g1 := World.grownBy_alloc w (.cells #[.int .i64 A.k, .int .i64 A.i, .int .i64 A.n, .slice A.s A.l A.c, .bool A.raw] 34 (0, 0)) none
  have hb := IActB.new w A
  have hA1 := hA.grow g1
  generalize hw1 : w.alloc (.cells #[.int .i64 A.k, .int .i64 A.i, .int .i64 A.n, .slice A.s A.l A.c, .bool A.raw] 34 (0, 0)) = w1 at *
  have g2 := World.grownBy_alloc w1 (.cells #[.int .i64 A.k, .int .i64 A.i, .int .i64 A.n, .slice A.s A.l A.c, .bool A.raw] 34 (0, 0)) none
  have HLt := Lib.hid (light_ok 1 (one_acts hA1))
  generalize hw2 : w1.alloc (.cells #[.int .i64 A.k, .int .i64 A.i, .int .i64 A.n, .slice A.s A.l A.c, .bool A.raw] 34 (0, 0)) = w2 at *
  have HB := Lib.hid (hb.grow g2)
  have HG := Lib.hid (grown_trans g1 g2)
  have HOk := Lib.hid hA
  obtain ⟨b0, b1, b2, b3, b4⟩ := hb.at
  generalize hY : w.heap.size = Y at *
  rw [light_one] at HLt
  clear H M hz g1 hb hA1 g2 hA
  by_cases hl : A.l ≤ 5000
  · rw [decide_eq_true hl] at HLt
    have HAl := Lib.hid hl
    clear hl
    go_enter Try.func7, Try.ntmps7
    go_wp2_with fail
    refine HLt.out.mono ?_
    rintro e w3 ⟨rfl, g3⟩
    have h3 := HB.out.grow g3
    have HG3 := Lib.hid (grown_trans HG.out g3)
    have g4 := World.grownBy_alloc w3 fileZero none
    have HI := Lib.hid (show NI N w (w3.alloc fileZero) Y (.pointer (some ⟨w3.heap.size, 0, none⟩)) A from ⟨h3.grow g4, HZ.out w3, grown_trans HG3.out g4⟩)
    unfold fileZero at HI
    clear h3 g3 g4 HG HB HLt HZ b0 b1 b2 b3 b4
    go_wp2_with fail
    generalize hwz : w3.alloc (.cells #[.slice none 0 0, .map none, .int .i64 0] 64 (0, 0)) = wz at *
    generalize hZ : w3.heap.size = Z at *
    go_loopw [18] (fun iv wr => ∃ j : Nat, j ≤ 2 ∧ iv = .int .i64 j ∧ Hid (NI N w wr Y (.pointer (some ⟨Z, 0, none⟩)) A)) (fun iv _ => 2 - (intOf iv).toNat)
    case atStart => exact ⟨0, by omega, rfl, HI.out⟩
    case round =>
      clear HI
      obtain ⟨j, hj, rfl, HJ⟩ := hrel
      by_cases hlt : j < 2
      · obtain ⟨v, hv, HV⟩ : ∃ v : Value, (∀ W, (Instr.index 65 (.agg #[.pointer none, .pointer (some ⟨Z, 0, none⟩)]) (.int .i64 (j : Int))).run Try.prog W = .ok v W) ∧ Hid (∀ wx, NI N w wx Y (.pointer (some ⟨Z, 0, none⟩)) A → N wx v) := by
          rcases (show j = 0 ∨ j = 1 by omega) with rfl | rfl
          · exact ⟨.pointer none, fun _ => by kernel_rfl, fun wx h => HM.out.nil wx⟩
          · exact ⟨.pointer (some ⟨Z, 0, none⟩), fun _ => by kernel_rfl, fun wx h => h.z⟩
        have hjb : decide ((j : Int) < 2) = true := by simp; omega
        have HMk := Lib.hid (HM.out.make (HV.out _ HJ.out) A.n)
        obtain ⟨b0, b1, b2, b3, b4⟩ := HJ.out.b.at
        go_wp2_with fail
        refine HMk.out.mono ?_
        rintro e w4 ⟨u4, rfl, g4⟩
        have H4 := Lib.hid (HJ.out.grow HM.out g4)
        have HRd := Lib.hid (HM.out.read (HV.out _ H4.out) A.i A.n)
        clear g4 HMk b0 b1 b2 b3 b4
        obtain ⟨b0, b1, b2, b3, b4⟩ := H4.out.b.at
        go_wp2_with fail
        refine HRd.out.mono ?_
        rintro e w5 ⟨u5, rfl, g5⟩
        have H5 := Lib.hid (H4.out.grow HM.out g5)
        have HC := Lib.hid (HM.out.size (HV.out _ H5.out) A.i)
        clear g5 HRd b0 b1 b2 b3 b4 H4
        obtain ⟨b0, b1, b2, b3, b4⟩ := H5.out.b.at
        go_wp2_with fail
        refine HC.out.mono ?_
        rintro e w6 ⟨u6, rfl, g6⟩
        have HB6 := Lib.hid ((H5.out.grow HM.out g6).grow HM.out (grown_drew1 _))
        have hkd := HB6.out.b.at
        clear g6 HC b0 b1 b2 b3 b4
        go_wp2_with fail
        go_region_held3 (fun w' => w'.cell? ⟨Y, 0, none⟩ = some (.int .i64 A.k) ∧ w'.cell? ⟨Y, 1, none⟩ = some (.int .i64 A.i) ∧ w'.cell? ⟨Y, 2, none⟩ = some (.int .i64 A.n) ∧ w'.cell? ⟨Y, 3, none⟩ = some (.slice A.s A.l A.c) ∧ w'.cell? ⟨Y, 4, none⟩ = some (.bool A.raw)) (exact hkd)
          (first
            | (go_at_call 20; with_reducible refine ((bytes_ok A (HOk.out.grow HB6.out.grown) HAl.out).mono ?_); rintro e w7 ⟨s7, c7, rfl, -, g7, -⟩; replace HB6 := Lib.hid (HB6.out.grow HM.out g7); replace hkd := HB6.out.b.at; clear g7)
            | (go_at_call 19; with_reducible refine ((HM.out.write (HV.out _ HB6.out) A.i A.n s7 _ c7).mono ?_); rintro e w8 ⟨rfl, g8⟩; replace HB6 := Lib.hid (HB6.out.grow HM.out g8); replace hkd := HB6.out.b.at; clear g8)
            | (go_at_call 14; with_reducible refine ((HM.out.resize (HV.out _ HB6.out) A.i A.n).mono ?_); rintro e w8 ⟨rfl, g8⟩; replace HB6 := Lib.hid (HB6.out.grow HM.out g8); replace hkd := HB6.out.b.at; clear g8)
            | (go_at_call 22; with_reducible refine ((HM.out.plan (HV.out _ HB6.out) A.n).mono ?_); rintro e w8 ⟨rfl, g8⟩; replace HB6 := Lib.hid (HB6.out.grow HM.out g8); replace hkd := HB6.out.b.at; clear g8)
            | (go_at_call 28; with_reducible refine ((HM.out.ids (HV.out _ HB6.out)).mono ?_); rintro e w8 ⟨a9, c9, rfl, g8⟩; replace HB6 := Lib.hid (HB6.out.grow HM.out g8); replace hkd := HB6.out.b.at; clear g8)
            | (go_at_call 26; with_reducible refine ((HM.out.peek (HV.out _ HB6.out) A.i A.n).mono ?_); rintro e w8 ⟨a8, c8, rfl, g8⟩; replace HB6 := Lib.hid (HB6.out.grow HM.out g8); replace hkd := HB6.out.b.at; clear g8))
        all_goals
          go_wp2_with fail
          go_roundw
          case rel => exact ⟨j + 1, by omega, by go_num, HB6.out⟩
          case measure => simp [intOf]; omega
      · obtain rfl : j = 2 := by omega
        go_wp2_with fail
        refine (HLv.out _).mono ?_
        rintro e w6 ⟨rfl, g6⟩
        have HG8 := Lib.hid (grown_trans HJ.out.grown g6)
        clear g6
        go_wp2_with fail
        go_ret
        exact ⟨rfl, HG8.out⟩
  · rw [decide_eq_false hl] at HLt
    clear hl
    go_enter Try.func7, Try.ntmps7
    go_wp2_with fail
    refine HLt.out.mono ?_
    rintro e w3 ⟨rfl, g3⟩
    have HG3 := Lib.hid (grown_trans HG.out g3)
    clear g3
    go_wp2_with fail
    refine (HLv.out _).mono ?_
    rintro e w6 ⟨rfl, g6⟩
    have HG8 := Lib.hid (grown_trans HG3.out g6)
    clear g6
    go_wp2_with fail
    go_ret
    exact ⟨rfl, HG8.out⟩
end Go.Proofs.Ytlaniifbfgcfaaa
