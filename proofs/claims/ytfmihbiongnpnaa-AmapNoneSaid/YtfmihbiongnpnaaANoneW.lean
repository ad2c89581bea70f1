/- AmapNone, walked out of what package amap says of a pool that no call made. -/
import Derived.Test.YtfmihbiongnpnaaAAct
import Derived.Test.YtfmihbiongnpnaaAUsed
import Derived.OwnWalk
namespace Go.Proofs.Ytfmihbiongnpnaa
open Go.ChangeShapes Go.WideShapes Go.ChangeAt Go.RowKit Go.Deep
set_option linter.unusedVariables false

/-- The law's box, and the pool that no call made. -/
structure AJ (N : World → Value → Prop) (w wx : World) (y : Nat) (z : Value) (A : AActV) : Prop where
  b : AActB wx y A
  z : N wx z
  grown : w.grownBy wx none
theorem AJ.grow {N : World → Value → Prop} (M : NoneOk13 N) {w wx w2 : World} {y : Nat} {z : Value} {A : AActV} (h : AJ N w wx y z A) (g : wx.grownBy w2 none) : AJ N w w2 y z A := ⟨h.b.grow g, M.kept h.z g, grown_trans h.grown g⟩
theorem used_none {N : World → Value → Prop} (M : NoneOk13 N) {w : World} {v : Value} (h : N w v) (id : Int) : Calls Try.prog 31 #[v, .int .i64 id, .int .i64 (-1)] w fun e w' => ∃ a c, e = .returned (.slice a 0 c) ∧ w.grownBy w' none := by
  obtain ⟨a, rfl⟩ := M.form h
  refine (law_used (m2 := -2) [] (by decide) (by decide) (okS (by decide) (by decide)) fun W g => M.used (M.kept h g) id).mono ?_
  rintro e w' ⟨u, rfl, hu, -, g⟩
  obtain ⟨s, c, rfl⟩ := rowOf_form hu
  exact ⟨s, c, rfl, g⟩

set_option maxRecDepth 100000 in
set_option maxHeartbeats 4000000 in
theorem none_walk13 {D : World → Nat → Nat → AmL → List Nat → Prop} (H : AmOk D) {N : World → Value → Prop} (M : NoneOk13 N) (hz : ∀ w : World, N (w.alloc (.cells #[.bool false, .slice none 0 0] 66)) (.pointer (some ⟨w.heap.size, 0, none⟩))) (w : World) (A : AActV) (hA : A.Ok) :
    Calls Try.prog 6 #[.agg #[.int .i64 A.k, .int .i64 A.id, .int .i64 A.a, .int .i64 A.b]] w fun e w' => e = .returned (.bool true) ∧ w.grownBy w' none := by
  have HLv := Lib.hid (fun wx => lives13 H wx)
  have HM := Lib.hid M
  have g1 := World.grownBy_alloc w (.cells #[.int .i64 A.k, .int .i64 A.id, .int .i64 A.a, .int .i64 A.b] 25 (0, 0)) none
  have hb := AActB.new w A
  generalize hw1 : w.alloc (.cells #[.int .i64 A.k, .int .i64 A.id, .int .i64 A.a, .int .i64 A.b] 25 (0, 0)) = w1 at *
  have g2 := World.grownBy_alloc w1 (.cells #[.bool false, .slice none 0 0] 66) none
  have HI := Lib.hid (show AJ N w (w1.alloc (.cells #[.bool false, .slice none 0 0] 66)) w.heap.size (.pointer (some ⟨w1.heap.size, 0, none⟩)) A from ⟨hb.grow g2, hz w1, grown_trans g1 g2⟩)
  have HOk := Lib.hid hA
  generalize hY : w.heap.size = Y at *
  clear H M hz g1 hb g2 hA
  go_enter Try.func6, Try.ntmps6
  go_wp2_with fail
  generalize hwz : w1.alloc (.cells #[.bool false, .slice none 0 0] 66 (0, 0)) = wz at *
  generalize hZ : w1.heap.size = Z at *
  go_loopw [16] (fun iv wr => ∃ j : Nat, j ≤ 2 ∧ iv = .int .i64 j ∧ Hid (AJ N w wr Y (.pointer (some ⟨Z, 0, none⟩)) A)) (fun iv _ => 2 - (intOf iv).toNat)
  case atStart => exact ⟨0, by omega, rfl, HI.out⟩
  case round =>
    clear HI
    obtain ⟨j, hj, rfl, HJ⟩ := hrel
    by_cases hlt : j < 2
    · obtain ⟨v, hv, HV⟩ : ∃ v : Value, (∀ W, (Instr.index 67 (.agg #[.pointer none, .pointer (some ⟨Z, 0, none⟩)]) (.int .i64 (j : Int))).run Try.prog W = .ok v W) ∧ Hid (∀ wx, AJ N w wx Y (.pointer (some ⟨Z, 0, none⟩)) A → N wx v) := by
        rcases (show j = 0 ∨ j = 1 by omega) with rfl | rfl
        · exact ⟨.pointer none, fun _ => by kernel_rfl, fun wx h => HM.out.nil wx⟩
        · exact ⟨.pointer (some ⟨Z, 0, none⟩), fun _ => by kernel_rfl, fun wx h => h.z⟩
      have hjb : decide ((j : Int) < 2) = true := by simp; omega
      have HC := Lib.hid (HM.out.make (HV.out _ HJ.out) A.b)
      obtain ⟨b0, b1, b2, b3⟩ := HJ.out.b.at
      go_wp2_with fail
      refine HC.out.mono ?_
      rintro e w5 ⟨rfl, g5⟩
      have H5 := Lib.hid (HJ.out.grow HM.out g5)
      have HC := Lib.hid (HM.out.set (HV.out _ H5.out) A.id A.a A.b)
      obtain ⟨z0, z1, z2, z3⟩ := H5.out.b.at
      clear g5 b0 b1 b2 b3 HJ
      go_wp2_with fail
      refine HC.out.mono ?_
      rintro e w6 ⟨rfl, g6⟩
      have H6 := Lib.hid (H5.out.grow HM.out g6)
      have HC := Lib.hid (HM.out.drop (HV.out _ H6.out) A.id A.a A.b)
      obtain ⟨b0, b1, b2, b3⟩ := H6.out.b.at
      clear g6 z0 z1 z2 z3 H5
      go_wp2_with fail
      refine HC.out.mono ?_
      rintro e w7 ⟨rfl, g7⟩
      have H7 := Lib.hid (H6.out.grow HM.out g7)
      have HC := Lib.hid (HM.out.copy (HV.out _ H7.out) A.id A.a A.b)
      obtain ⟨z0, z1, z2, z3⟩ := H7.out.b.at
      clear g7 b0 b1 b2 b3 H6
      go_wp2_with fail
      refine HC.out.mono ?_
      rintro e w8 ⟨rfl, g8⟩
      have HB6 := Lib.hid (show AJ N w w8.drew Y _ A from (H7.out.grow HM.out g8).grow HM.out (grown_drew1 w8))
      have hkd := HB6.out.b.at
      clear g8 z0 z1 z2 z3 H7
      go_wp2_with fail
      go_region_held3 (fun w' => w'.cell? ⟨Y, 0, none⟩ = some (.int .i64 A.k) ∧ w'.cell? ⟨Y, 1, none⟩ = some (.int .i64 A.id) ∧ w'.cell? ⟨Y, 2, none⟩ = some (.int .i64 A.a) ∧ w'.cell? ⟨Y, 3, none⟩ = some (.int .i64 A.b)) (exact hkd)
        (first
          | (go_at_call 15; with_reducible refine ((HM.out.hold (HV.out _ HB6.out) A.id A.a A.b).mono ?_); rintro e w9 ⟨rfl, g9⟩; replace HB6 := Lib.hid (HB6.out.grow HM.out g9); replace hkd := HB6.out.b.at; clear g9)
          | (go_at_call 23; with_reducible refine ((HM.out.slots (HV.out _ HB6.out) A.id).mono ?_); rintro e w9 ⟨rfl, g9⟩; replace HB6 := Lib.hid (HB6.out.grow HM.out g9); replace hkd := HB6.out.b.at; clear g9)
          | (go_at_call 27; with_reducible refine ((HM.out.get (HV.out _ HB6.out) A.id A.a).mono ?_); rintro e w9 ⟨rfl, g9⟩; replace HB6 := Lib.hid (HB6.out.grow HM.out g9); replace hkd := HB6.out.b.at; clear g9)
          | (go_at_call 25; with_reducible refine ((HM.out.cover (HV.out _ HB6.out) A.id A.a).mono ?_); rintro e w9 ⟨rfl, g9⟩; replace HB6 := Lib.hid (HB6.out.grow HM.out g9); replace hkd := HB6.out.b.at; clear g9)
          | (go_at_call 29; with_reducible refine ((HM.out.ids (HV.out _ HB6.out)).mono ?_); rintro e w9 ⟨a9, c9, rfl, g9⟩; replace HB6 := Lib.hid (HB6.out.grow HM.out g9); replace hkd := HB6.out.b.at; clear g9)
          | (go_at_call 31; with_reducible refine ((used_none HM.out (HV.out _ HB6.out) A.id).mono ?_); rintro e w9 ⟨a8, c8, rfl, g9⟩; replace HB6 := Lib.hid (HB6.out.grow HM.out g9); replace hkd := HB6.out.b.at; clear g9))
      all_goals
        go_wp2_with fail
        go_roundw
        case rel => exact ⟨j + 1, by omega, by go_num, HB6⟩
        case measure => simp [intOf]; omega
    · obtain rfl : j = 2 := by omega
      go_wp2_with fail
      refine (HLv.out _).mono ?_
      rintro e w6 ⟨rfl, g6⟩
      have HG8 := Lib.hid (grown_trans HJ.out.grown g6)
      clear g6
      go_wp2_with fail
      go_ret
      exact ⟨rfl, HG8.out⟩
theorem none_done13 (w : World) (A : AActV) (hA : A.Ok) : Calls Try.prog 6 #[.agg #[.int .i64 A.k, .int .i64 A.id, .int .i64 A.a, .int .i64 A.b]] w fun e w' => e = .returned (.bool true) ∧ w.grownBy w' none := none_walk13 amOk noneOk13 pool13_zero w A hA
end Go.Proofs.Ytfmihbiongnpnaa
