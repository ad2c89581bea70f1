/- Calls of package pte at an entry, and of the document's: what an entry is, and what it allows. -/
import Derived.Test.YtomkhdefjfjlnaaPteA
import Derived.Deep.RegionHeld3
namespace Go.Proofs.Ytomkhdefjfjlnaa
open Go.ChangeShapes Go.WideShapes Go.RowKit
set_option linter.unusedVariables false

/-- An entry as a value. -/
def Ent (F P : Int) : Value := .agg #[.int .i64 F, .int .i64 P]

theorem isBit_1 : IsBit 1 := .inl rfl
theorem isBit_2 : IsBit 2 := .inr (.inl rfl)
theorem isBit_4 : IsBit 4 := .inr (.inr (.inl rfl))
theorem isBit_8 : IsBit 8 := .inr (.inr (.inr (.inl rfl)))
theorem isBit_16 : IsBit 16 := .inr (.inr (.inr (.inr rfl)))

def kindB (v r w x : Bool) : Int := if v = false ∨ (w = true ∧ r = false) then 0 else if r = true ∨ x = true then 2 else 1
theorem kindOf_eq (F : Int) : kindOf F = kindB (bit F 1) (bit F 2) (bit F 4) (bit F 8) := rfl

set_option maxHeartbeats 4000000 in
theorem kind_ok (F P : Int) (w : World) :
    Calls Try.prog 33 #[.agg #[.int .i64 F, .int .i64 P]] w fun e w' => e = .returned (.int .i64 (kindOf F)) ∧ Below w.heap.size w w' := by
  rw [kindOf_eq]
  have H1 := Lib.hid (has_ok F 1 isBit_1)
  have H2 := Lib.hid (has_ok F 2 isBit_2)
  have H4 := Lib.hid (has_ok F 4 isBit_4)
  have H8 := Lib.hid (has_ok F 8 isBit_8)
  generalize bit F 1 = b1 at *
  generalize bit F 2 = b2 at *
  generalize bit F 4 = b4 at *
  generalize bit F 8 = b8 at *
  have b0 : ∀ w : World, Below w.heap.size w (w.alloc (.cells #[.int .i64 F, .int .i64 P] 40)) := fun w => (Below.refl _ _).alloc (Nat.le_refl _) _
  have B0 := Lib.hid b0
  clear b0
  cases b1
  · go_enter Try.func33, Try.ntmps33
    go_wp2_with fail
    refine (H1.out _).mono ?_
    rintro e w' ⟨rfl, rfl⟩
    go_wp2_with fail
    go_ret
    exact ⟨rfl, B0.out _⟩
  · cases b4
    · cases b2
      · cases b8
        · go_enter Try.func33, Try.ntmps33
          go_wp2_with fail
          refine (H1.out _).mono ?_
          rintro e w' ⟨rfl, rfl⟩
          go_wp2_with fail
          refine (H4.out _).mono ?_
          rintro e w' ⟨rfl, rfl⟩
          go_wp2_with fail
          refine (H2.out _).mono ?_
          rintro e w' ⟨rfl, rfl⟩
          go_wp2_with fail
          refine (H8.out _).mono ?_
          rintro e w' ⟨rfl, rfl⟩
          go_wp2_with fail
          go_ret
          exact ⟨rfl, B0.out _⟩
        · go_enter Try.func33, Try.ntmps33
          go_wp2_with fail
          refine (H1.out _).mono ?_
          rintro e w' ⟨rfl, rfl⟩
          go_wp2_with fail
          refine (H4.out _).mono ?_
          rintro e w' ⟨rfl, rfl⟩
          go_wp2_with fail
          refine (H2.out _).mono ?_
          rintro e w' ⟨rfl, rfl⟩
          go_wp2_with fail
          refine (H8.out _).mono ?_
          rintro e w' ⟨rfl, rfl⟩
          go_wp2_with fail
          go_ret
          exact ⟨rfl, B0.out _⟩
      · go_enter Try.func33, Try.ntmps33
        go_wp2_with fail
        refine (H1.out _).mono ?_
        rintro e w' ⟨rfl, rfl⟩
        go_wp2_with fail
        refine (H4.out _).mono ?_
        rintro e w' ⟨rfl, rfl⟩
        go_wp2_with fail
        refine (H2.out _).mono ?_
        rintro e w' ⟨rfl, rfl⟩
        go_wp2_with fail
        go_ret
        exact ⟨rfl, B0.out _⟩
    · cases b2
      · go_enter Try.func33, Try.ntmps33
        go_wp2_with fail
        refine (H1.out _).mono ?_
        rintro e w' ⟨rfl, rfl⟩
        go_wp2_with fail
        refine (H4.out _).mono ?_
        rintro e w' ⟨rfl, rfl⟩
        go_wp2_with fail
        refine (H2.out _).mono ?_
        rintro e w' ⟨rfl, rfl⟩
        go_wp2_with fail
        go_ret
        exact ⟨rfl, B0.out _⟩
      · go_enter Try.func33, Try.ntmps33
        go_wp2_with fail
        refine (H1.out _).mono ?_
        rintro e w' ⟨rfl, rfl⟩
        go_wp2_with fail
        refine (H4.out _).mono ?_
        rintro e w' ⟨rfl, rfl⟩
        go_wp2_with fail
        refine (H2.out _).mono ?_
        rintro e w' ⟨rfl, rfl⟩
        go_wp2_with fail
        refine (H2.out _).mono ?_
        rintro e w' ⟨rfl, rfl⟩
        go_wp2_with fail
        go_ret
        exact ⟨rfl, B0.out _⟩
end Go.Proofs.Ytomkhdefjfjlnaa
