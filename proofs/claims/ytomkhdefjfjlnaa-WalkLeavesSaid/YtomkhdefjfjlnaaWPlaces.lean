/- WalkPlaces, walked out of what package walk says: it answers true, and nothing that was there has turned. -/
import Derived.Test.YtomkhdefjfjlnaaWLives
import Derived.Test.YtomkhdefjfjlnaaWSame
import Derived.Laws.StructEq
namespace Go.Proofs.Ytomkhdefjfjlnaa
open Go.ChangeShapes Go.WideShapes Go.ChangeAt Go.RowKit Go.Deep
set_option linter.unusedVariables false

def PlaceOk : Prop := ∀ (w0 w : World) (m d : Nat) (L : List UInt8), St w0 w m d 8 L → Clean 8 L → ∀ (root v : Int), okI root → okI v →
  Calls Try.prog 13 #[.pointer (some ⟨m, 0, none⟩), .int .i64 root, .int .i64 v] w fun e w' => e = .returned (plV v (placeOf 8 L root v)) ∧ w.grownBy w' none
def LookOk : Prop := ∀ (w0 w : World) (m d : Nat) (L : List UInt8), St w0 w m d 8 L → Clean 8 L → ∀ (root v : Int), okI root → okI v →
  Calls Try.prog 15 #[.pointer (some ⟨m, 0, none⟩), .int .i64 root, .int .i64 v] w fun e w' => e = .returned (lookV 8 L v (placeOf 8 L root v)) ∧ w.grownBy w' none

theorem plV_form (v : Int) (D : Option Int) : ∃ (x y : Int) (b : Bool), plV v D = .tuple #[.int .i64 x, .int .i64 y, .bool b] := by
  cases D with
  | none => exact ⟨0, 0, false, rfl⟩
  | some g => exact ⟨g, _, true, rfl⟩
theorem lookV_form (n : Nat) (L : List UInt8) (v : Int) (D : Option Int) : ∃ (x y : Int) (b : Bool), lookV n L v D = .tuple #[.agg #[.int .i64 x, .int .i64 y], .bool b] := by
  cases D with
  | none => exact ⟨0, 0, false, rfl⟩
  | some g => exact ⟨_, _, true, rfl⟩

set_option maxHeartbeats 2000000 in
theorem places_walk (HWalk : WalkOk) (HPlace : PlaceOk) (HLook : LookOk) (w : World) (s : Option Addr) (l c : Nat) (Ws : List WordV) (hW : WordsAre w s l Ws) (root v : Int) (hr : okI root) (hv : okI v) :
    Calls Try.prog 4 #[.slice s l c, .int .i64 root, .int .i64 v] w fun e w' => e = .returned (.bool true) ∧ Below w.heap.size w w' := by
  have HLv := Lib.hid (lives4 HWalk)
  have HP := Lib.hid HPlace
  have HL := Lib.hid HLook
  have HW := Lib.hid hW
  have HR := Lib.hid hr
  have HV := Lib.hid hv
  clear HWalk HPlace HLook hW hr hv
  by_cases hbig : 60 < l
  · have d0 : decide ((l : Int) > 60) = true := by simp; omega
    clear hbig
    go_enter Try.func4, Try.ntmps4
    go_wp2_with fail
    refine (HLv.out _).mono ?_
    rintro e w2 ⟨rfl, g2⟩
    have HB := Lib.hid (below_of_grown g2 (Nat.le_refl _) (by simp))
    clear g2
    go_wp2_with fail
    go_ret
    exact ⟨rfl, HB.out⟩
  · have d0 : decide ((l : Int) > 60) = false := by simp; omega
    obtain ⟨px, py, pb, hpl⟩ := plV_form v (placeOf 8 (madeL noL Ws) root v)
    obtain ⟨lx, ly, lb, hlk⟩ := lookV_form 8 (madeL noL Ws) v (placeOf 8 (madeL noL Ws) root v)
    have HC := Lib.hid (clean_made Ws noL clean_noL)
    have HPl := Lib.hid hpl
    have HLk := Lib.hid hlk
    have hl : l ≤ 1000 := by omega
    clear hbig hpl hlk
    go_enter Try.func4, Try.ntmps4
    go_wp2_with fail
    refine (made_ok w s l c Ws HW.out hl).mono ?_
    rintro e w2 ⟨m, d, r, f, R, rfl, h2⟩
    have HT2 := Lib.hid h2
    have HG2 := Lib.hid (grown_of_below h2.st.below none)
    clear h2
    go_wp2_with fail
    refine (HP.out w w2 m d _ HT2.out.st HC.out root v HR.out HV.out).mono ?_
    rw [HPl.out]
    rintro e w3 ⟨rfl, g3⟩
    have HT3 := Lib.hid (HT2.out.grow g3)
    have HG3 := Lib.hid (grown_trans HG2.out g3)
    clear g3
    go_wp2_with fail
    refine (ref_place HT3.out.rs root v).mono ?_
    rw [HPl.out]
    rintro e w4 ⟨rfl, g4⟩
    have HT4 := Lib.hid (HT3.out.grow g4)
    have HG4 := Lib.hid (grown_trans HG3.out g4)
    clear g4
    go_wp2_with fail
    refine (HL.out w w4 m d _ HT4.out.st HC.out root v HR.out HV.out).mono ?_
    rw [HLk.out]
    rintro e w5 ⟨rfl, g5⟩
    have HT5 := Lib.hid ((HT4.out.grow g5).grow (World.grownBy_alloc w5 (.cells #[.int .i64 lx, .int .i64 ly] 40) none))
    have HG5 := Lib.hid (grown_trans (grown_trans HG4.out g5) (World.grownBy_alloc w5 (.cells #[.int .i64 lx, .int .i64 ly] 40) none))
    have HY5 := Lib.hid (show EntB (w5.alloc (.cells #[.int .i64 lx, .int .i64 ly] 40)) w5.heap.size lx ly from heap_alloc_new w5 _)
    clear g5
    go_wp2_with fail
    refine (ref_look HT5.out.rs root v).mono ?_
    rw [HLk.out]
    rintro e w6 ⟨rfl, g6⟩
    have HT6 := Lib.hid ((HT5.out.grow g6).grow (World.grownBy_alloc w6 (.cells #[.int .i64 lx, .int .i64 ly] 40) none))
    have HG6 := Lib.hid (grown_trans (grown_trans HG5.out g6) (World.grownBy_alloc w6 (.cells #[.int .i64 lx, .int .i64 ly] 40) none))
    have HY6 := Lib.hid ((HY5.out.grow g6).grow (World.grownBy_alloc w6 (.cells #[.int .i64 lx, .int .i64 ly] 40) none))
    have HZ6 := Lib.hid (show EntB (w6.alloc (.cells #[.int .i64 lx, .int .i64 ly] 40)) w6.heap.size lx ly from heap_alloc_new w6 _)
    have hc0 := HY6.out.at.1
    have hc1 := HY6.out.at.2
    have hz0 := HZ6.out.at.1
    have hz1 := HZ6.out.at.2
    clear g6
    go_wp2_with fail
    refine (same_yes HT6.out).mono ?_
    rintro e w7 ⟨rfl, g7⟩
    have HG7 := Lib.hid (grown_trans HG6.out g7)
    clear g7
    go_wp2_with fail
    refine (HLv.out _).mono ?_
    rintro e w8 ⟨rfl, g8⟩
    have HB := Lib.hid (below_of_grown (grown_trans HG7.out g8) (Nat.le_refl _) (by simp))
    clear g8
    go_wp2_with fail
    go_ret
    exact ⟨rfl, HB.out⟩
end Go.Proofs.Ytomkhdefjfjlnaa
