/- lives: are the document's examples as it says? -/
import Derived.Test.YtnjpdcoahojgbaaRLiveStr
namespace Go.Proofs.Ytnjpdcoahojgbaa
open Go.ChangeShapes Go.WideShapes Go.ChangeAt Go.RowKit
set_option linter.unusedVariables false
open RStr (Live)

def sa : ByteArray := ⟨#[97]⟩
def sb : ByteArray := ⟨#[98]⟩

theorem ok_a : RStr.okK sa := by unfold RStr.okK sa maxLen; decide
theorem ok_b : RStr.okK sb := by unfold RStr.okK sb maxLen; decide
theorem f1 : decide (fits 0 sa (List.replicate 2 ([] : List ByteArray))) = true := by decide
theorem p1 : pushS 0 sa (List.replicate 2 ([] : List ByteArray)) = [[sa], []] := by decide
theorem f2 : decide (fits 0 sb [[sa], []]) = true := by decide
theorem p2 : pushS 0 sb [[sa], []] = [[sa, sb], []] := by decide
theorem f3 : decide (fits 1 sa [[sa, sb], []]) = true := by decide
theorem p3 : pushS 1 sa [[sa, sb], []] = [[sb], [sa]] := by decide

theorem v0 : RStr.firstV (rowS 0 [[sb], [sa]]) = .tuple #[.string ⟨#[98]⟩, .bool true] := rfl
theorem v1 : RStr.firstV (rowS 1 [[sb], [sa]]) = .tuple #[.string ⟨#[97]⟩, .bool true] := rfl
theorem v2 : (((rowS 0 [[sb], [sa]]).length : Nat) : Int) = 1 := rfl
theorem v3 : ((([[sb], [sa]] : List (List ByteArray)).length : Nat) : Int) = 2 := rfl

theorem lives_ok (w : World) : Calls Try.prog 12 #[] w fun e w' => e = .returned (.bool true) ∧ Below w.heap.size w w' := by
  go_enter Try.func12, Try.ntmps12
  go_wp2_with fail
  refine (Live.start (w0 := w) 2 (by omega) (by omega)).mono ?_
  rintro e w1 ⟨b, rfl, h1⟩
  have H1 := Lib.hid h1
  clear h1
  go_wp2_with fail
  refine ((H1.out.push 0 ok_a).mono ?_)
  rw [f1, p1]
  rintro e w2 ⟨rfl, h2⟩
  have H2 := Lib.hid h2
  clear h2
  go_wp2_with fail
  refine ((H2.out.push 0 ok_b).mono ?_)
  rw [f2, p2]
  rintro e w3 ⟨rfl, h3⟩
  have H3 := Lib.hid h3
  clear h3
  go_wp2_with fail
  refine ((H3.out.push 1 ok_a).mono ?_)
  rw [f3, p3]
  rintro e w4 ⟨rfl, h4⟩
  have H4 := Lib.hid h4
  clear h4
  go_wp2_with fail
  refine ((H4.out.first 0).mono ?_)
  rw [v0]
  rintro e w5 ⟨rfl, rfl⟩
  go_wp2_with fail
  refine ((H4.out.first 1).mono ?_)
  rw [v1]
  rintro e w5 ⟨rfl, rfl⟩
  go_wp2_with fail
  refine ((H4.out.len 0).mono ?_)
  rintro e w5 ⟨rfl, rfl⟩
  rw [v2]
  go_wp2_with fail
  refine (H4.out.rows.mono ?_)
  rintro e w5 ⟨rfl, rfl⟩
  rw [v3]
  go_wp2_with fail
  go_ret
  exact ⟨rfl, H4.out.below⟩
end Go.Proofs.Ytnjpdcoahojgbaa
