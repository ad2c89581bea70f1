/- SlotsNone, walked. -/
import Derived.Test.YthpjggghdaelbaaSNo
import Derived.Test.YthpjggghdaelbaaSLives
namespace Go.Proofs.Ythpjggghdaelbaa
open Go.ChangeShapes Go.WideShapes Go.ChangeAt Go.RowKit Go.Deep
set_option linter.unusedVariables false

set_option maxRecDepth 100000 in
set_option maxHeartbeats 2000000 in
theorem none_walk8 (w : World) (n : Int) (hn : okI n) :
    Calls Try.prog 6 #[.int .i64 n] w fun e w' => e = .returned (.bool true) ∧ w.grownBy w' none := by
  have HLv := Lib.hid lives8
  have HZ := Lib.hid (show SZ (w.alloc (.cells #[.int .i64 0, .slice none 0 0, .slice none 0 0] 46 (0, 0))) w.heap.size from heap_alloc_new w _)
  have HG := Lib.hid (World.grownBy_alloc w (.cells #[.int .i64 0, .slice none 0 0, .slice none 0 0] 46 (0, 0)) none)
  go_enter Try.func6, Try.ntmps6
  go_wp2_with fail
  generalize hwA : w.alloc (.cells #[.int .i64 0, .slice none 0 0, .slice none 0 0] 46 (0, 0)) = wA at *
  generalize hY : w.heap.size = Y at *
  go_loopw [11] (fun jv wr => ∃ j : Nat, j ≤ 2 ∧ jv = .int .i64 j ∧ Hid (SZ wr Y) ∧ Hid (w.grownBy wr none)) (fun jv _ => 2 - (intOf jv).toNat)
  case atStart => exact ⟨0, by omega, rfl, HZ.out, HG.out⟩
  case round =>
    obtain ⟨j, hj, rfl, HR, HGr⟩ := hrel
    by_cases hlt : j < 2
    · obtain ⟨v, hv, HV⟩ : ∃ v : Value, (∀ W, (Instr.index 47 (.agg #[.pointer none, .pointer (some ⟨Y, 0, none⟩)]) (.int .i64 (j : Int))).run Try.prog W = .ok v W) ∧ Hid (∀ wx, SZ wx Y → SN wx v) := by
        rcases (show j = 0 ∨ j = 1 by omega) with rfl | rfl
        · exact ⟨.pointer none, fun _ => by kernel_rfl, fun wx h => .inl rfl⟩
        · exact ⟨.pointer (some ⟨Y, 0, none⟩), fun _ => by kernel_rfl, fun wx h => .inr ⟨Y, rfl, h⟩⟩
      have hjb : decide ((j : Int) < 2) = true := by simp; omega
      have HS := Lib.hid (HV.out _ HR.out)
      go_wp2_with fail
      refine (no_take HS.out).mono ?_
      rintro e w2 ⟨rfl, e2⟩
      subst w2
      go_wp2_with fail
      refine (no_takeRun HS.out n).mono ?_
      rintro e w2 ⟨rfl, e2⟩
      subst w2
      go_wp2_with fail
      refine (no_give HS.out n).mono ?_
      rintro e w2 ⟨rfl, e2⟩
      subst w2
      go_wp2_with fail
      refine (no_spoil HS.out n).mono ?_
      rintro e w2 ⟨rfl, e2⟩
      subst w2
      go_wp2_with fail
      refine (no_state HS.out n).mono ?_
      rintro e w2 ⟨rfl, e2⟩
      subst w2
      go_wp2_with fail
      refine (no_count HS.out 0).mono ?_
      rintro e w2 ⟨rfl, e2⟩
      subst w2
      go_wp2_with fail
      refine (no_count HS.out 1).mono ?_
      rintro e w2 ⟨rfl, e2⟩
      subst w2
      go_wp2_with fail
      refine (no_count HS.out 2).mono ?_
      rintro e w2 ⟨rfl, e2⟩
      subst w2
      go_wp2_with fail
      refine (no_words HS.out).mono ?_
      rintro e w2 ⟨s9, c9, rfl, g2⟩
      have HR2 := Lib.hid (HR.out.grow g2)
      have HG2 := Lib.hid (grown_trans HGr.out g2)
      clear g2
      go_wp2_with fail
      go_roundw
      case rel => exact ⟨j + 1, by omega, by go_num, HR2.out, HG2.out⟩
      case measure => simp [intOf]; omega
    · obtain rfl : j = 2 := by omega
      go_wp2_with fail
      refine (HLv.out _).mono ?_
      rintro e w6 ⟨rfl, g6⟩
      have HG8 := Lib.hid (grown_trans HGr.out g6)
      clear g6
      go_wp2_with fail
      go_ret
      exact ⟨rfl, HG8.out⟩
end Go.Proofs.Ythpjggghdaelbaa
