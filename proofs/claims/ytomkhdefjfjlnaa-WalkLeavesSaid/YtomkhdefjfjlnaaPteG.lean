/- Calls of package pte, and of the document's: May, Flags, and the document's Prot. -/
import Derived.Test.YtomkhdefjfjlnaaPteD
namespace Go.Proofs.Ytomkhdefjfjlnaa
open Go.ChangeShapes Go.WideShapes Go.RowKit
set_option linter.unusedVariables false

theorem prot_bits (F : Int) : bit (protOf F) 1 = (decide (kindOf F = 2) && bit F 2) ∧ bit (protOf F) 2 = (decide (kindOf F = 2) && bit F 4) ∧ bit (protOf F) 4 = (decide (kindOf F = 2) && bit F 8) := by
  unfold protOf
  by_cases h : kindOf F = 2
  · rw [if_pos h]
    cases bit F 2 <;> cases bit F 4 <;> cases bit F 8 <;> simp [h, one, bit]
  · rw [if_neg h]
    simp [h, bit]

theorem may_1 (F : Int) (u : Bool) : mayOf F 1 u = (bit (protOf F) 1 && (bit F 16 == u)) := by
  rw [(prot_bits F).1]; unfold mayOf
  cases bit F 2 <;> cases bit F 4 <;> cases bit F 8 <;> cases bit F 16 == u <;> simp
theorem may_2 (F : Int) (u : Bool) : mayOf F 2 u = (bit (protOf F) 2 && (bit F 16 == u)) := by
  rw [(prot_bits F).2.1]; unfold mayOf
  cases bit F 2 <;> cases bit F 4 <;> cases bit F 8 <;> cases bit F 16 == u <;> simp
theorem may_4 (F : Int) (u : Bool) : mayOf F 4 u = (bit (protOf F) 4 && (bit F 16 == u)) := by
  rw [(prot_bits F).2.2]; unfold mayOf
  cases bit F 2 <;> cases bit F 4 <;> cases bit F 8 <;> cases bit F 16 == u <;> simp
theorem may_no (F a : Int) (u : Bool) (h1 : a ≠ 1) (h2 : a ≠ 2) (h4 : a ≠ 4) : mayOf F a u = false := by
  unfold mayOf; simp [h1, h2, h4]

theorem may_ok (F P a : Int) (u : Bool) (w : World) :
    Calls Try.prog 22 #[.agg #[.int .i64 F, .int .i64 P], .int .i64 a, .bool u] w fun e w' => e = .returned (.bool (mayOf F a u)) ∧ Below w.heap.size w w' := by
  have HP := Lib.hid (prot_ok F P)
  have H16 := Lib.hid (has_ok F 16 isBit_16)
  have HB := Lib.hid (EntAt.new w F P 40)
  by_cases h1 : a = 1
  · subst h1
    rw [may_1]
    have HH := Lib.hid (has_ok (protOf F) 1 isBit_1)
    generalize bit F 16 = b16 at *
    generalize bit (protOf F) 1 = b at *
    cases b
    · go_enter Try.func22, Try.ntmps22
      go_wp2_with fail
      refine (HP.out _).mono ?_
      rintro e w2 ⟨rfl, h2⟩
      have H2W := Lib.hid (below_box h2)
      clear h2
      go_wp2_with fail
      refine (HH.out _).mono ?_
      rintro e w' ⟨rfl, rfl⟩
      go_wp2_with fail
      go_ret
      exact ⟨rfl, H2W.out⟩
    · go_enter Try.func22, Try.ntmps22
      go_wp2_with fail
      refine (HP.out _).mono ?_
      rintro e w2 ⟨rfl, h2⟩
      have hc := (HB.out.past h2).flags
      have H2W := Lib.hid (below_box h2)
      clear h2
      go_wp2_with fail
      refine (HH.out _).mono ?_
      rintro e w' ⟨rfl, rfl⟩
      go_wp2_with fail
      refine (H16.out _).mono ?_
      rintro e w' ⟨rfl, rfl⟩
      go_wp2_with fail
      go_ret
      exact ⟨rfl, H2W.out⟩
  · skip
    by_cases h2 : a = 2
    · subst h2
      rw [may_2]
      have HH := Lib.hid (has_ok (protOf F) 2 isBit_2)
      generalize bit F 16 = b16 at *
      generalize bit (protOf F) 2 = b at *
      cases b
      · go_enter Try.func22, Try.ntmps22
        go_wp2_with fail
        refine (HP.out _).mono ?_
        rintro e w2 ⟨rfl, h2⟩
        have H2W := Lib.hid (below_box h2)
        clear h2
        go_wp2_with fail
        refine (HH.out _).mono ?_
        rintro e w' ⟨rfl, rfl⟩
        go_wp2_with fail
        go_ret
        exact ⟨rfl, H2W.out⟩
      · go_enter Try.func22, Try.ntmps22
        go_wp2_with fail
        refine (HP.out _).mono ?_
        rintro e w2 ⟨rfl, h2⟩
        have hc := (HB.out.past h2).flags
        have H2W := Lib.hid (below_box h2)
        clear h2
        go_wp2_with fail
        refine (HH.out _).mono ?_
        rintro e w' ⟨rfl, rfl⟩
        go_wp2_with fail
        refine (H16.out _).mono ?_
        rintro e w' ⟨rfl, rfl⟩
        go_wp2_with fail
        go_ret
        exact ⟨rfl, H2W.out⟩
    · skip
      by_cases h4 : a = 4
      · subst h4
        rw [may_4]
        have HH := Lib.hid (has_ok (protOf F) 4 isBit_4)
        generalize bit F 16 = b16 at *
        generalize bit (protOf F) 4 = b at *
        cases b
        · go_enter Try.func22, Try.ntmps22
          go_wp2_with fail
          refine (HP.out _).mono ?_
          rintro e w2 ⟨rfl, h2⟩
          have H2W := Lib.hid (below_box h2)
          clear h2
          go_wp2_with fail
          refine (HH.out _).mono ?_
          rintro e w' ⟨rfl, rfl⟩
          go_wp2_with fail
          go_ret
          exact ⟨rfl, H2W.out⟩
        · go_enter Try.func22, Try.ntmps22
          go_wp2_with fail
          refine (HP.out _).mono ?_
          rintro e w2 ⟨rfl, h2⟩
          have hc := (HB.out.past h2).flags
          have H2W := Lib.hid (below_box h2)
          clear h2
          go_wp2_with fail
          refine (HH.out _).mono ?_
          rintro e w' ⟨rfl, rfl⟩
          go_wp2_with fail
          refine (H16.out _).mono ?_
          rintro e w' ⟨rfl, rfl⟩
          go_wp2_with fail
          go_ret
          exact ⟨rfl, H2W.out⟩
      · have e1 : (a == 1) = false := by simp [h1]
        have e2 : (a == 2) = false := by simp [h2]
        have e4 : (a == 4) = false := by simp [h4]
        rw [may_no F a u h1 h2 h4]
        have b0 : Below w.heap.size w (w.alloc (.cells #[.int .i64 F, .int .i64 P] 40)) := (Below.refl _ _).alloc (Nat.le_refl _) _
        have B0 := Lib.hid b0
        clear b0 h1 h2 h4
        go_enter Try.func22, Try.ntmps22
        go_wp2_with fail
        go_ret
        exact ⟨rfl, B0.out⟩

theorem low_bits (p : Int) : p % 8 = 0 ↔ (bit p 1 = false ∧ bit p 2 = false ∧ bit p 4 = false) := by
  unfold bit; simp; omega

theorem flags_sum (b1 b2 b4 u : Bool) : gath [1, one (b1 || b2) 2, one b2 4, one b4 8, one u 16] = 1 + one (b1 || b2) 2 + one b2 4 + one b4 8 + one u 16 := by
  cases b1 <;> cases b2 <;> cases b4 <;> cases u <;> decide

def flagsB (b1 b2 b4 u : Bool) : Int := if b1 = false ∧ b2 = false ∧ b4 = false then 0 else gath [1, one (b1 || b2) 2, one b2 4, one b4 8, one u 16]
theorem flagsOf_eq (p : Int) (u : Bool) : flagsOf p u = flagsB (bit p 1) (bit p 2) (bit p 4) u := by
  unfold flagsOf flagsB
  rw [flags_sum]
  by_cases h : p % 8 = 0
  · rw [if_pos h, if_pos ((low_bits p).1 h)]
  · rw [if_neg h, if_neg (fun g => h ((low_bits p).2 g))]

end Go.Proofs.Ytomkhdefjfjlnaa
