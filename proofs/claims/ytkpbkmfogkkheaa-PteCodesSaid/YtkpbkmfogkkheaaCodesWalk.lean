/- PteCodes, walked: it answers true, and nothing that was there has turned. -/
import Derived.Test.YtkpbkmfogkkheaaPteLives
namespace Go.Proofs.Ytkpbkmfogkkheaa
open Go.ChangeShapes Go.WideShapes Go.RowKit
set_option linter.unusedVariables false

set_option maxRecDepth 100000 in
set_option maxHeartbeats 4000000 in
theorem codes_walk (w : World) (F P v : Int) (hv : okU v) :
    Calls Try.prog 3 #[.agg #[.int .i64 F, .int .i64 P], .int .u64 v] w fun e w' => e = .returned (.bool true) ∧ Below w.heap.size w w' := by
  have HD := Lib.hid (decode_ok v hv)
  have HE := Lib.hid (ref_decode_ok v hv)
  have HB := Lib.hid (EntAt.new w F P 23)
  clear hv
  generalize flagOf v = A at *
  generalize ppnOf v = B at *
  go_enter Try.func3, Try.ntmps3
  go_wp2_with fail
  refine (HD.out _).mono ?_
  rintro e w2 ⟨rfl, h2⟩
  have HX := Lib.hid (HB.out.past h2)
  have HW := Lib.hid (below_box h2)
  clear h2
  have hk : (w2.alloc (.cells #[.int .i64 A, .int .i64 B] 23)).drew.cell? ⟨w.heap.size, 0, none⟩ = some (.int .i64 F) ∧ (w2.alloc (.cells #[.int .i64 A, .int .i64 B] 23)).drew.cell? ⟨w.heap.size, 1, none⟩ = some (.int .i64 P) ∧ (w2.alloc (.cells #[.int .i64 A, .int .i64 B] 23)).drew.cell? ⟨w2.heap.size, 0, none⟩ = some (.int .i64 A) ∧ (w2.alloc (.cells #[.int .i64 A, .int .i64 B] 23)).drew.cell? ⟨w2.heap.size, 1, none⟩ = some (.int .i64 B) :=
    have h1 := HX.out.past ((Below.refl _ w2).alloc (Nat.le_refl _) (.cells #[.int .i64 A, .int .i64 B] 23))
    have h2 := EntAt.new w2 A B 23
    ⟨h1.flags, h1.ppn, h2.flags, h2.ppn⟩
  have HZ := Lib.hid (HW.out.alloc HW.out.size (.cells #[.int .i64 A, .int .i64 B] 23)).drew
  go_wp2_with fail
  go_region_held3 (fun w' => w'.cell? ⟨w.heap.size, 0, none⟩ = some (.int .i64 F) ∧ w'.cell? ⟨w.heap.size, 1, none⟩ = some (.int .i64 P) ∧ w'.cell? ⟨w2.heap.size, 0, none⟩ = some (.int .i64 A) ∧ w'.cell? ⟨w2.heap.size, 1, none⟩ = some (.int .i64 B)) (exact hk)
    (first
      | (go_at_call 12; with_reducible refine ((encode_ok _ _ _).mono ?_); rintro e w5 ⟨rfl, h5⟩; replace hk := past4 hk h5; replace HZ := Lib.hid (HZ.out.trans (h5.mono HZ.out.size)); clear h5)
      | (go_at_call 13; with_reducible refine ((ref_encode_ok _ _ _).mono ?_); rintro e w5 ⟨rfl, h5⟩; replace hk := past4 hk h5; replace HZ := Lib.hid (HZ.out.trans (h5.mono HZ.out.size)); clear h5)
      | (go_at_call 14; with_reducible refine ((HE.out _).mono ?_); rintro e w5 ⟨rfl, h5⟩; replace hk := past4 hk h5; replace HZ := Lib.hid (HZ.out.trans (h5.mono HZ.out.size)); clear h5)
      | (go_at_call 15; with_reducible refine ((kind_ok _ _ _).mono ?_); rintro e w5 ⟨rfl, h5⟩; replace hk := past4 hk h5; replace HZ := Lib.hid (HZ.out.trans (h5.mono HZ.out.size)); clear h5)
      | (go_at_call 16; with_reducible refine ((ref_kind_ok _ _ _).mono ?_); rintro e w5 ⟨rfl, h5⟩; replace hk := past4 hk h5; replace HZ := Lib.hid (HZ.out.trans (h5.mono HZ.out.size)); clear h5)
      | (go_at_call 17; with_reducible refine ((lives_ok _).mono ?_); rintro e w5 ⟨rfl, h5⟩; replace hk := past4 hk h5; replace HZ := Lib.hid (HZ.out.trans (h5.mono HZ.out.size)); clear h5))
  all_goals
    go_wp2
    go_ret
    exact ⟨rfl, HZ.out⟩
end Go.Proofs.Ytkpbkmfogkkheaa
