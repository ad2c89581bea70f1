/- PteRights, walked: it answers true, and nothing that was there has turned. -/
import Derived.Test.YtkpbkmfogkkheaaPteLives
namespace Go.Proofs.Ytkpbkmfogkkheaa
open Go.ChangeShapes Go.WideShapes Go.RowKit
set_option linter.unusedVariables false

set_option maxRecDepth 100000 in
set_option maxHeartbeats 4000000 in
theorem rights_walk (w : World) (F P a : Int) (u : Bool) :
    Calls Try.prog 4 #[.agg #[.int .i64 F, .int .i64 P], .int .i64 a, .bool u] w fun e w' => e = .returned (.bool true) ∧ Below w.heap.size w w' := by
  have hk : (w.alloc (.cells #[.int .i64 F, .int .i64 P] 23)).drew.cell? ⟨w.heap.size, 0, none⟩ = some (.int .i64 F) ∧ (w.alloc (.cells #[.int .i64 F, .int .i64 P] 23)).drew.cell? ⟨w.heap.size, 1, none⟩ = some (.int .i64 P) :=
    have h1 := EntAt.new w F P 23
    ⟨h1.flags, h1.ppn⟩
  have HZ := Lib.hid ((Below.refl _ w).alloc (Nat.le_refl _) (.cells #[.int .i64 F, .int .i64 P] 23)).drew
  have HF : Hid (∀ w : World, Calls Try.prog 21 #[.int .i64 a, .bool u] w fun e w' => e = .returned (.int .i64 (flagsOf a u)) ∧ Below w.heap.size w w') := fun w => (ref_flags_ok a u w).mono fun _ _ ⟨e, h⟩ => ⟨e, h ▸ Below.refl _ _⟩
  generalize hm : mayOf F a u = m at *
  generalize hf : flagsOf a u = fl at *
  generalize hp : protOf F = pr at *
  have HM1 : Hid (∀ w : World, Calls Try.prog 18 #[.agg #[.int .i64 F, .int .i64 P], .int .i64 a, .bool u] w fun e w' => e = .returned (.bool m) ∧ Below w.heap.size w w') := fun w => hm ▸ may_ok F P a u w
  have HM2 : Hid (∀ w : World, Calls Try.prog 19 #[.agg #[.int .i64 F, .int .i64 P], .int .i64 a, .bool u] w fun e w' => e = .returned (.bool m) ∧ Below w.heap.size w w') := fun w => hm ▸ ref_may_ok F P a u w
  have HL1 : Hid (∀ w : World, Calls Try.prog 20 #[.int .i64 a, .bool u] w fun e w' => e = .returned (.int .i64 fl) ∧ Below w.heap.size w w') := fun w => hf ▸ flagsOf_ok a u w
  have HP1 : Hid (∀ w : World, Calls Try.prog 22 #[.agg #[.int .i64 F, .int .i64 P]] w fun e w' => e = .returned (.int .i64 pr) ∧ Below w.heap.size w w') := fun w => hp ▸ prot_ok F P w
  have HP2 : Hid (∀ w : World, Calls Try.prog 23 #[.agg #[.int .i64 F, .int .i64 P]] w fun e w' => e = .returned (.int .i64 pr) ∧ Below w.heap.size w w') := fun w => hp ▸ ref_prot_ok F P w
  clear hm hf hp
  go_enter Try.func4, Try.ntmps4
  go_wp2_with fail
  go_region_held3 (fun w' => w'.cell? ⟨w.heap.size, 0, none⟩ = some (.int .i64 F) ∧ w'.cell? ⟨w.heap.size, 1, none⟩ = some (.int .i64 P)) (exact hk)
    (first
      | (go_at_call 18; with_reducible refine ((HM1.out _).mono ?_); rintro e w5 ⟨rfl, h5⟩; replace hk := past2 hk h5; replace HZ := Lib.hid (HZ.out.trans (h5.mono HZ.out.size)); clear h5)
      | (go_at_call 19; with_reducible refine ((HM2.out _).mono ?_); rintro e w5 ⟨rfl, h5⟩; replace hk := past2 hk h5; replace HZ := Lib.hid (HZ.out.trans (h5.mono HZ.out.size)); clear h5)
      | (go_at_call 20; with_reducible refine ((HL1.out _).mono ?_); rintro e w5 ⟨rfl, h5⟩; replace hk := past2 hk h5; replace HZ := Lib.hid (HZ.out.trans (h5.mono HZ.out.size)); clear h5)
      | (go_at_call 21; with_reducible refine ((HF.out _).mono ?_); rintro e w5 ⟨rfl, h5⟩; replace hk := past2 hk h5; replace HZ := Lib.hid (HZ.out.trans (h5.mono HZ.out.size)); clear h5)
      | (go_at_call 22; with_reducible refine ((HP1.out _).mono ?_); rintro e w5 ⟨rfl, h5⟩; replace hk := past2 hk h5; replace HZ := Lib.hid (HZ.out.trans (h5.mono HZ.out.size)); clear h5)
      | (go_at_call 23; with_reducible refine ((HP2.out _).mono ?_); rintro e w5 ⟨rfl, h5⟩; replace hk := past2 hk h5; replace HZ := Lib.hid (HZ.out.trans (h5.mono HZ.out.size)); clear h5)
      | (go_at_call 17; with_reducible refine ((lives_ok _).mono ?_); rintro e w5 ⟨rfl, h5⟩; replace hk := past2 hk h5; replace HZ := Lib.hid (HZ.out.trans (h5.mono HZ.out.size)); clear h5))
  all_goals
    go_wp2
    go_ret
    exact ⟨rfl, HZ.out⟩
end Go.Proofs.Ytkpbkmfogkkheaa
