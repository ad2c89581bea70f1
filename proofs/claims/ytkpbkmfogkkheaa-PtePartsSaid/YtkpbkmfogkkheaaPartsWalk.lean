/- PteParts, walked: it answers true, and nothing that was there has turned. -/
import Derived.Test.YtkpbkmfogkkheaaPteLives
namespace Go.Proofs.Ytkpbkmfogkkheaa
open Go.ChangeShapes Go.WideShapes Go.RowKit
set_option linter.unusedVariables false

theorem past3 {w w' : World} {b : Nat} {x y z : Value} (h : w.cell? ⟨b, 0, none⟩ = some x ∧ w.cell? ⟨b, 1, none⟩ = some y ∧ w.cell? ⟨b, 2, none⟩ = some z) (k : Below w.heap.size w w') :
    w'.cell? ⟨b, 0, none⟩ = some x ∧ w'.cell? ⟨b, 1, none⟩ = some y ∧ w'.cell? ⟨b, 2, none⟩ = some z :=
  ⟨(past2 ⟨h.1, h.2.1⟩ k).1, (past2 ⟨h.1, h.2.1⟩ k).2, (k.cell (p := ⟨b, 2, none⟩) (World.block_lt_of_cell? w _ h.2.2)).trans h.2.2⟩

set_option maxRecDepth 100000 in
set_option maxHeartbeats 4000000 in
theorem parts_walk (w : World) (x l i j k : Int) (hx : okI x) (hi : okI i) (hj : okI j) (hk : okI k) :
    Calls Try.prog 5 #[.int .i64 x, .int .i64 l, .agg #[.int .i64 i, .int .i64 j, .int .i64 k]] w fun e w' => e = .returned (.bool true) ∧ Below w.heap.size w w' := by
  have HI1 := Lib.hid (fun w => toBelow (index_ok x l w))
  have HI2 := Lib.hid (fun w => toBelow0 (ref_index_ok x l w))
  have HJ1 := Lib.hid (join_ok i j k hi hj hk)
  have HJ2 := Lib.hid (fun w => toBelow0 (ref_join_ok i j k w))
  have HC1 := Lib.hid (fun w => toBelow0 (canonical_ok x w))
  have HC2 := Lib.hid (fun w => toBelow0 (ref_canonical_ok x hx w))
  have HS1 := Lib.hid (split_ok x)
  have HS2 := Lib.hid (ref_split_ok x)
  clear hx hi hj hk
  generalize indexOf x l = ix at *
  generalize joinOf i j k = jn at *
  generalize canonOf x = cn at *
  generalize vpnOf x = vp at *
  generalize byteOf x = by' at *
  go_enter Try.func5, Try.ntmps5
  go_wp2_with fail
  refine (HS1.out _).mono ?_
  rintro e w2 ⟨rfl, n, rfl⟩
  go_wp2_with fail
  refine (HS2.out _).mono ?_
  rintro e w' ⟨rfl, rfl⟩
  go_wp2_with fail
  have hn := heap_alloc_new w (.cells #[.int .i64 i, .int .i64 j, .int .i64 k] 32)
  have hk : ((w.alloc (.cells #[.int .i64 i, .int .i64 j, .int .i64 k] 32)).drewN n).cell? ⟨w.heap.size, 0, none⟩ = some (.int .i64 i) ∧ ((w.alloc (.cells #[.int .i64 i, .int .i64 j, .int .i64 k] 32)).drewN n).cell? ⟨w.heap.size, 1, none⟩ = some (.int .i64 j) ∧ ((w.alloc (.cells #[.int .i64 i, .int .i64 j, .int .i64 k] 32)).drewN n).cell? ⟨w.heap.size, 2, none⟩ = some (.int .i64 k) :=
    ⟨by rw [World.cell?_drewN, cell_of_row _ _ _ _ _ _ hn]; rfl, by rw [World.cell?_drewN, cell_of_row _ _ _ _ _ _ hn]; rfl, by rw [World.cell?_drewN, cell_of_row _ _ _ _ _ _ hn]; rfl⟩
  have HZ := Lib.hid (Below.drewK ((Below.refl _ w).alloc (Nat.le_refl _) (.cells #[.int .i64 i, .int .i64 j, .int .i64 k] 32)) n).drew
  clear hn
  generalize (w.alloc (.cells #[.int .i64 i, .int .i64 j, .int .i64 k] 32)).drewN n = wA at *
  replace hk : wA.drew.cell? ⟨w.heap.size, 0, none⟩ = some (.int .i64 i) ∧ wA.drew.cell? ⟨w.heap.size, 1, none⟩ = some (.int .i64 j) ∧ wA.drew.cell? ⟨w.heap.size, 2, none⟩ = some (.int .i64 k) := hk
  go_region_held3 (fun w' => w'.cell? ⟨w.heap.size, 0, none⟩ = some (.int .i64 i) ∧ w'.cell? ⟨w.heap.size, 1, none⟩ = some (.int .i64 j) ∧ w'.cell? ⟨w.heap.size, 2, none⟩ = some (.int .i64 k)) (exact hk)
    (first
      | (go_at_call 26; with_reducible refine ((HI1.out _).mono ?_); rintro e w5 ⟨rfl, h5⟩; replace hk := past3 hk h5; replace HZ := Lib.hid (HZ.out.trans (h5.mono HZ.out.size)); clear h5)
      | (go_at_call 27; with_reducible refine ((HI2.out _).mono ?_); rintro e w5 ⟨rfl, h5⟩; replace hk := past3 hk h5; replace HZ := Lib.hid (HZ.out.trans (h5.mono HZ.out.size)); clear h5)
      | (go_at_call 28; with_reducible refine ((HJ1.out _).mono ?_); rintro e w5 ⟨rfl, h5⟩; replace hk := past3 hk h5; replace HZ := Lib.hid (HZ.out.trans (h5.mono HZ.out.size)); clear h5)
      | (go_at_call 29; with_reducible refine ((HJ2.out _).mono ?_); rintro e w5 ⟨rfl, h5⟩; replace hk := past3 hk h5; replace HZ := Lib.hid (HZ.out.trans (h5.mono HZ.out.size)); clear h5)
      | (go_at_call 30; with_reducible refine ((HC1.out _).mono ?_); rintro e w5 ⟨rfl, h5⟩; replace hk := past3 hk h5; replace HZ := Lib.hid (HZ.out.trans (h5.mono HZ.out.size)); clear h5)
      | (go_at_call 31; with_reducible refine ((HC2.out _).mono ?_); rintro e w5 ⟨rfl, h5⟩; replace hk := past3 hk h5; replace HZ := Lib.hid (HZ.out.trans (h5.mono HZ.out.size)); clear h5)
      | (go_at_call 17; with_reducible refine ((lives_ok _).mono ?_); rintro e w5 ⟨rfl, h5⟩; replace hk := past3 hk h5; replace HZ := Lib.hid (HZ.out.trans (h5.mono HZ.out.size)); clear h5))
  all_goals
    go_wp2
    go_ret
    exact ⟨rfl, HZ.out⟩
end Go.Proofs.Ytkpbkmfogkkheaa
