/- AnonNone, walked out of what package anon says of a pool that no call made. -/
import Derived.Test.YtpiemnffbcgbmaaNAct
import Derived.Test.YtpiemnffbcgbmaaNDj
namespace Go.Proofs.Ytpiemnffbcgbmaa
open Go.ChangeShapes Go.WideShapes Go.ChangeAt Go.RowKit Go.Deep
set_option linter.unusedVariables false

/-- The law's box, and the pool that no call made. -/
structure NJ (N : World → Value → Prop) (w wx : World) (y : Nat) (z : Value) (A : NActV) : Prop where
  b : NActB wx y A
  z : N wx z
  grown : w.grownBy wx none
theorem NJ.grow {N : World → Value → Prop} (M : NoneOk12 N) {w wx w2 : World} {y : Nat} {z : Value} {A : NActV} (h : NJ N w wx y z A) (g : wx.grownBy w2 none) : NJ N w w2 y z A := ⟨h.b.grow g, M.kept h.z g, grown_trans h.grown g⟩

set_option maxRecDepth 100000 in
set_option maxHeartbeats 4000000 in
theorem none_walk12 {D : World → Nat → Nat → List AnV → List Nat → Prop} (H : NaOk D) {N : World → Value → Prop} (M : NoneOk12 N) (hz : ∀ w : World, N (w.alloc (.cells #[.map none, .slice none 0 0] 61)) (.pointer (some ⟨w.heap.size, 0, none⟩))) (w : World) (A : NActV) (hA : A.Ok) :
    Calls Try.prog 6 #[.agg #[.int .i64 A.k, .int .i64 A.id, .int .i64 A.a, .int .i64 A.b]] w fun e w' => e = .returned (.bool true) ∧ w.grownBy w' none := by
  have HLv := Lib.hid (fun wx => lives12 H wx)
  have HM := Lib.hid M
  have g1 := World.grownBy_alloc w (.cells #[.int .i64 A.k, .int .i64 A.id, .int .i64 A.a, .int .i64 A.b] 29 (0, 0)) none
  have hb := NActB.new w A
  generalize hw1 : w.alloc (.cells #[.int .i64 A.k, .int .i64 A.id, .int .i64 A.a, .int .i64 A.b] 29 (0, 0)) = w1 at *
  have g2 := World.grownBy_alloc w1 (.cells #[.map none, .slice none 0 0] 61) none
  have HI := Lib.hid (show NJ N w (w1.alloc (.cells #[.map none, .slice none 0 0] 61)) w.heap.size (.pointer (some ⟨w1.heap.size, 0, none⟩)) A from ⟨hb.grow g2, hz w1, grown_trans g1 g2⟩)
  have HOk := Lib.hid hA
  generalize hY : w.heap.size = Y at *
  clear H M hz g1 hb g2 hA
  go_enter Try.func6, Try.ntmps6
  go_wp2_with fail
  generalize hwz : w1.alloc (.cells #[.map none, .slice none 0 0] 61 (0, 0)) = wz at *
  generalize hZ : w1.heap.size = Z at *
  go_loopw [13] (fun iv wr => ∃ j : Nat, j ≤ 2 ∧ iv = .int .i64 j ∧ Hid (NJ N w wr Y (.pointer (some ⟨Z, 0, none⟩)) A)) (fun iv _ => 2 - (intOf iv).toNat)
  case atStart => exact ⟨0, by omega, rfl, HI.out⟩
  case round =>
    clear HI
    obtain ⟨j, hj, rfl, HJ⟩ := hrel
    by_cases hlt : j < 2
    · obtain ⟨v, hv, HV⟩ : ∃ v : Value, (∀ W, (Instr.index 62 (.agg #[.pointer none, .pointer (some ⟨Z, 0, none⟩)]) (.int .i64 (j : Int))).run Try.prog W = .ok v W) ∧ Hid (∀ wx, NJ N w wx Y (.pointer (some ⟨Z, 0, none⟩)) A → N wx v) := by
        rcases (show j = 0 ∨ j = 1 by omega) with rfl | rfl
        · exact ⟨.pointer none, fun _ => by kernel_rfl, fun wx h => HM.out.nil wx⟩
        · exact ⟨.pointer (some ⟨Z, 0, none⟩), fun _ => by kernel_rfl, fun wx h => h.z⟩
      have hjb : decide ((j : Int) < 2) = true := by simp; omega
      have HC := Lib.hid (HM.out.make (HV.out _ HJ.out) A.a)
      obtain ⟨b0, b1, b2, b3⟩ := HJ.out.b.at
      go_wp2_with fail
      refine HC.out.mono ?_
      rintro e w5 ⟨rfl, g5⟩
      have H5 := Lib.hid (HJ.out.grow HM.out g5)
      have HC := Lib.hid (HM.out.ref (HV.out _ H5.out) A.id A.a)
      obtain ⟨z0, z1, z2, z3⟩ := H5.out.b.at
      clear g5 b0 b1 b2 b3 HJ
      go_wp2_with fail
      refine HC.out.mono ?_
      rintro e w6 ⟨rfl, g6⟩
      have H6 := Lib.hid (show NJ N w (w6.alloc (.cells #[.int .i64 0, .int .i64 0, .int .i64 0] 36 (0, 0))) Y _ A from (H5.out.grow HM.out g6).grow HM.out (World.grownBy_alloc w6 _ none))
      have HC := Lib.hid (HM.out.get (HV.out _ H6.out) A.id HOk.out.id)
      obtain ⟨b0, b1, b2, b3⟩ := H6.out.b.at
      clear g6 z0 z1 z2 z3 H5
      go_wp2_with fail
      refine HC.out.mono ?_
      rintro e w7 ⟨rfl, g7⟩
      have H7 := Lib.hid (show NJ N w (w7.alloc (.cells #[.int .i64 0, .int .i64 0, .int .i64 0] 36 (0, 0))) Y _ A from (H6.out.grow HM.out g7).grow HM.out (World.grownBy_alloc w7 _ none))
      have HC := Lib.hid (HM.out.put (HV.out _ H7.out) A.id A.a A.b)
      obtain ⟨z0, z1, z2, z3⟩ := H7.out.b.at
      clear g7 b0 b1 b2 b3 H6
      go_wp2_with fail
      refine HC.out.mono ?_
      rintro e w8 ⟨rfl, g8⟩
      have H8 := Lib.hid (H7.out.grow HM.out g8)
      have HC := Lib.hid (HM.out.len (HV.out _ H8.out))
      clear g8 z0 z1 z2 z3 H7
      go_wp2_with fail
      refine HC.out.mono ?_
      rintro e w9 ⟨rfl, g9⟩
      have H9 := Lib.hid (H8.out.grow HM.out g9)
      have HC := Lib.hid (HM.out.sum (HV.out _ H9.out))
      clear g9 H8
      go_wp2_with fail
      refine HC.out.mono ?_
      rintro e w10 ⟨rfl, g10⟩
      have H10 := Lib.hid (H9.out.grow HM.out g10)
      have HC := Lib.hid (HM.out.ids (HV.out _ H10.out))
      clear g10 H9
      go_wp2_with fail
      refine HC.out.mono ?_
      rintro e w11 ⟨a11, c11, rfl, g11⟩
      have H11 := Lib.hid (H10.out.grow HM.out g11)
      clear g11 H10
      go_wp2_with fail
      go_roundw
      case rel => exact ⟨j + 1, by omega, by go_num, H11⟩
      case measure => simp [intOf]; omega
    · obtain rfl : j = 2 := by omega
      go_wp2_with fail
      refine (HLv.out _).mono ?_
      rintro e w6 ⟨rfl, g6⟩
      have HG8 := Lib.hid (grown_trans HJ.out.grown g6)
      clear g6
      go_wp2_with fail
      go_ret
      exact ⟨rfl, HG8.out⟩
theorem none_done12 (w : World) (A : NActV) (hA : A.Ok) : Calls Try.prog 6 #[.agg #[.int .i64 A.k, .int .i64 A.id, .int .i64 A.a, .int .i64 A.b]] w fun e w' => e = .returned (.bool true) ∧ w.grownBy w' none := none_walk12 naOk noneOk12 pool12_zero w A hA
end Go.Proofs.Ytpiemnffbcgbmaa
