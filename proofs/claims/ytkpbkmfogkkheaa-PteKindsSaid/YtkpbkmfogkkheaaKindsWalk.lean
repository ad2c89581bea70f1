/- PteKinds, walked: it answers true, and nothing that was there has turned. -/
import Derived.Test.YtkpbkmfogkkheaaPteLives
namespace Go.Proofs.Ytkpbkmfogkkheaa
open Go.ChangeShapes Go.WideShapes Go.RowKit
set_option linter.unusedVariables false

theorem bit_low (F : Int) (k : Int) (hk : k = 1 ∨ k = 2 ∨ k = 4 ∨ k = 8) : bit F k = bit (F % 16) k := by
  unfold bit
  apply decide_eq_decide.2
  rcases hk with rfl | rfl | rfl | rfl <;> omega

/-- A mask of the lowest four bits, of an int of whatever sign. -/
theorem and_low (F : Int) (K : Nat) (hK : K < 16) : bits .and .i64 F (K : Int) = (((F % 16).toNat &&& K : Nat) : Int) := by
  have hb : (BitVec.ofInt 64 (K : Int)).toNat = K := by rw [BitVec.ofInt_natCast, BitVec.toNat_ofNat]; exact Nat.mod_eq_of_lt (by omega)
  have hx := toNat_ofInt64 F
  show IntKind.i64.wrap ((BitVec.ofInt 64 F &&& BitVec.ofInt 64 (K : Int)).toNat : Nat) = _
  rw [BitVec.toNat_and, hb]
  generalize (BitVec.ofInt 64 F).toNat = n at *
  have e1 : (F % 16).toNat = n % 16 := by omega
  have e2 : n &&& K = n % 16 &&& K := by
    have h15 : n % 16 = n &&& 15 := (Nat.and_two_pow_sub_one_eq_mod n 4).symm
    have hKK : 15 &&& K = K := by
      have h : ∀ j : Fin 16, 15 &&& j.val = j.val := by decide
      exact h ⟨K, hK⟩
    rw [h15, Nat.and_assoc, hKK]
  rw [e1, e2, IntKind.wrap_i64]
  have : n % 16 &&& K ≤ 15 := Nat.le_trans Nat.and_le_left (by omega)
  omega

theorem fourteen (F : Int) : bits .and .i64 F 14 = one (bit F 2) 2 + one (bit F 4) 4 + one (bit F 8) 8 := by
  have h : ∀ j : Fin 16, ((j.val &&& 14 : Nat) : Int) = one (bit (j.val : Int) 2) 2 + one (bit (j.val : Int) 4) 4 + one (bit (j.val : Int) 8) 8 := by decide
  have h2 := h ⟨(F % 16).toNat, by omega⟩
  have e : (((F % 16).toNat : Nat) : Int) = F % 16 := by omega
  rw [bit_low F 2 (by simp), bit_low F 4 (by simp), bit_low F 8 (by simp)]
  refine (and_low F 14 (by decide)).trans ?_
  simp only [e] at h2
  exact h2
theorem six (F : Int) : bits .and .i64 F 6 = one (bit F 2) 2 + one (bit F 4) 4 := by
  have h : ∀ j : Fin 16, ((j.val &&& 6 : Nat) : Int) = one (bit (j.val : Int) 2) 2 + one (bit (j.val : Int) 4) 4 := by decide
  have h2 := h ⟨(F % 16).toNat, by omega⟩
  have e : (((F % 16).toNat : Nat) : Int) = F % 16 := by omega
  rw [bit_low F 2 (by simp), bit_low F 4 (by simp)]
  refine (and_low F 6 (by decide)).trans ?_
  simp only [e] at h2
  exact h2

theorem prot_none (F : Int) (h : kindOf F ≠ 2) : protOf F = 0 := by unfold protOf; rw [if_neg h]
theorem may_none (F a : Int) (u : Bool) (h : kindOf F ≠ 2) : mayOf F a u = false := by unfold mayOf; simp [h]

set_option maxHeartbeats 4000000 in
theorem kinds_walk (w : World) (F P a : Int) (u : Bool) :
    Calls Try.prog 9 #[.agg #[.int .i64 F, .int .i64 P], .int .i64 a, .bool u] w fun e w' => e = .returned (.bool true) ∧ Below w.heap.size w w' := by
  have HB := Lib.hid (EntAt.new w F P 23)
  have HK0 := kind_ok F P
  have HP0 := prot_ok F P
  have HM0 := may_ok F P a u
  have A1 := and_bit F 1 isBit_1
  have A14 := fourteen F
  have A6 := six F
  have hk := kindOf_eq F
  cases e1 : bit F 1 <;> cases e2 : bit F 2 <;> cases e4 : bit F 4 <;> cases e8 : bit F 8
  · rw [e1] at A1
    rw [e2, e4, e8] at A14
    rw [e2, e4] at A6
    rw [e1, e2, e4, e8] at hk
    replace A1 : bits .and .i64 F 1 = 0 := A1
    replace A14 : bits .and .i64 F 14 = 0 := A14
    replace A6 : bits .and .i64 F 6 = 0 := A6
    replace hk : kindOf F = 0 := hk
    rw [hk] at HK0
    have HK := Lib.hid HK0
    rw [prot_none F (by rw [hk]; decide)] at HP0
    rw [may_none F a u (by rw [hk]; decide)] at HM0
    have HP := Lib.hid HP0
    have HM := Lib.hid HM0
    clear HK0 HP0 HM0 e1 e2 e4 e8 hk
    go_enter Try.func9, Try.ntmps9
    go_wp2_with fail
    refine (HK.out _).mono ?_
    rintro e w2 ⟨rfl, h2⟩
    have HX := Lib.hid (HB.out.past h2)
    have hc := HX.out.flags
    have hc1 := HX.out.ppn
    have HW := Lib.hid (below_box h2)
    clear h2
    go_wp2_with fail
    refine (HM.out _).mono ?_
    rintro e w3 ⟨rfl, h3⟩
    have HX3 := Lib.hid (HX.out.past h3)
    have hd := HX3.out.flags
    have hd1 := HX3.out.ppn
    have HV := Lib.hid (HW.out.trans (h3.mono HW.out.size))
    clear h3
    go_wp2_with fail
    refine (HP.out _).mono ?_
    rintro e w4 ⟨rfl, h4⟩
    have HU := Lib.hid (HV.out.trans (h4.mono HV.out.size))
    clear h4
    go_wp2_with fail
    refine (lives_ok _).mono ?_
    rintro e w8 ⟨rfl, h8⟩
    have HY := Lib.hid (HU.out.trans (h8.mono HU.out.size))
    clear h8
    go_wp2_with fail
    go_ret
    exact ⟨rfl, HY.out⟩
  · rw [e1] at A1
    rw [e2, e4, e8] at A14
    rw [e2, e4] at A6
    rw [e1, e2, e4, e8] at hk
    replace A1 : bits .and .i64 F 1 = 0 := A1
    replace A14 : bits .and .i64 F 14 = 8 := A14
    replace A6 : bits .and .i64 F 6 = 0 := A6
    replace hk : kindOf F = 0 := hk
    rw [hk] at HK0
    have HK := Lib.hid HK0
    rw [prot_none F (by rw [hk]; decide)] at HP0
    rw [may_none F a u (by rw [hk]; decide)] at HM0
    have HP := Lib.hid HP0
    have HM := Lib.hid HM0
    clear HK0 HP0 HM0 e1 e2 e4 e8 hk
    go_enter Try.func9, Try.ntmps9
    go_wp2_with fail
    refine (HK.out _).mono ?_
    rintro e w2 ⟨rfl, h2⟩
    have HX := Lib.hid (HB.out.past h2)
    have hc := HX.out.flags
    have hc1 := HX.out.ppn
    have HW := Lib.hid (below_box h2)
    clear h2
    go_wp2_with fail
    refine (HM.out _).mono ?_
    rintro e w3 ⟨rfl, h3⟩
    have HX3 := Lib.hid (HX.out.past h3)
    have hd := HX3.out.flags
    have hd1 := HX3.out.ppn
    have HV := Lib.hid (HW.out.trans (h3.mono HW.out.size))
    clear h3
    go_wp2_with fail
    refine (HP.out _).mono ?_
    rintro e w4 ⟨rfl, h4⟩
    have HU := Lib.hid (HV.out.trans (h4.mono HV.out.size))
    clear h4
    go_wp2_with fail
    refine (lives_ok _).mono ?_
    rintro e w8 ⟨rfl, h8⟩
    have HY := Lib.hid (HU.out.trans (h8.mono HU.out.size))
    clear h8
    go_wp2_with fail
    go_ret
    exact ⟨rfl, HY.out⟩
  · rw [e1] at A1
    rw [e2, e4, e8] at A14
    rw [e2, e4] at A6
    rw [e1, e2, e4, e8] at hk
    replace A1 : bits .and .i64 F 1 = 0 := A1
    replace A14 : bits .and .i64 F 14 = 4 := A14
    replace A6 : bits .and .i64 F 6 = 4 := A6
    replace hk : kindOf F = 0 := hk
    rw [hk] at HK0
    have HK := Lib.hid HK0
    rw [prot_none F (by rw [hk]; decide)] at HP0
    rw [may_none F a u (by rw [hk]; decide)] at HM0
    have HP := Lib.hid HP0
    have HM := Lib.hid HM0
    clear HK0 HP0 HM0 e1 e2 e4 e8 hk
    go_enter Try.func9, Try.ntmps9
    go_wp2_with fail
    refine (HK.out _).mono ?_
    rintro e w2 ⟨rfl, h2⟩
    have HX := Lib.hid (HB.out.past h2)
    have hc := HX.out.flags
    have hc1 := HX.out.ppn
    have HW := Lib.hid (below_box h2)
    clear h2
    go_wp2_with fail
    refine (HM.out _).mono ?_
    rintro e w3 ⟨rfl, h3⟩
    have HX3 := Lib.hid (HX.out.past h3)
    have hd := HX3.out.flags
    have hd1 := HX3.out.ppn
    have HV := Lib.hid (HW.out.trans (h3.mono HW.out.size))
    clear h3
    go_wp2_with fail
    refine (HP.out _).mono ?_
    rintro e w4 ⟨rfl, h4⟩
    have HU := Lib.hid (HV.out.trans (h4.mono HV.out.size))
    clear h4
    go_wp2_with fail
    refine (lives_ok _).mono ?_
    rintro e w8 ⟨rfl, h8⟩
    have HY := Lib.hid (HU.out.trans (h8.mono HU.out.size))
    clear h8
    go_wp2_with fail
    go_ret
    exact ⟨rfl, HY.out⟩
  · rw [e1] at A1
    rw [e2, e4, e8] at A14
    rw [e2, e4] at A6
    rw [e1, e2, e4, e8] at hk
    replace A1 : bits .and .i64 F 1 = 0 := A1
    replace A14 : bits .and .i64 F 14 = 12 := A14
    replace A6 : bits .and .i64 F 6 = 4 := A6
    replace hk : kindOf F = 0 := hk
    rw [hk] at HK0
    have HK := Lib.hid HK0
    rw [prot_none F (by rw [hk]; decide)] at HP0
    rw [may_none F a u (by rw [hk]; decide)] at HM0
    have HP := Lib.hid HP0
    have HM := Lib.hid HM0
    clear HK0 HP0 HM0 e1 e2 e4 e8 hk
    go_enter Try.func9, Try.ntmps9
    go_wp2_with fail
    refine (HK.out _).mono ?_
    rintro e w2 ⟨rfl, h2⟩
    have HX := Lib.hid (HB.out.past h2)
    have hc := HX.out.flags
    have hc1 := HX.out.ppn
    have HW := Lib.hid (below_box h2)
    clear h2
    go_wp2_with fail
    refine (HM.out _).mono ?_
    rintro e w3 ⟨rfl, h3⟩
    have HX3 := Lib.hid (HX.out.past h3)
    have hd := HX3.out.flags
    have hd1 := HX3.out.ppn
    have HV := Lib.hid (HW.out.trans (h3.mono HW.out.size))
    clear h3
    go_wp2_with fail
    refine (HP.out _).mono ?_
    rintro e w4 ⟨rfl, h4⟩
    have HU := Lib.hid (HV.out.trans (h4.mono HV.out.size))
    clear h4
    go_wp2_with fail
    refine (lives_ok _).mono ?_
    rintro e w8 ⟨rfl, h8⟩
    have HY := Lib.hid (HU.out.trans (h8.mono HU.out.size))
    clear h8
    go_wp2_with fail
    go_ret
    exact ⟨rfl, HY.out⟩
  · rw [e1] at A1
    rw [e2, e4, e8] at A14
    rw [e2, e4] at A6
    rw [e1, e2, e4, e8] at hk
    replace A1 : bits .and .i64 F 1 = 0 := A1
    replace A14 : bits .and .i64 F 14 = 2 := A14
    replace A6 : bits .and .i64 F 6 = 2 := A6
    replace hk : kindOf F = 0 := hk
    rw [hk] at HK0
    have HK := Lib.hid HK0
    rw [prot_none F (by rw [hk]; decide)] at HP0
    rw [may_none F a u (by rw [hk]; decide)] at HM0
    have HP := Lib.hid HP0
    have HM := Lib.hid HM0
    clear HK0 HP0 HM0 e1 e2 e4 e8 hk
    go_enter Try.func9, Try.ntmps9
    go_wp2_with fail
    refine (HK.out _).mono ?_
    rintro e w2 ⟨rfl, h2⟩
    have HX := Lib.hid (HB.out.past h2)
    have hc := HX.out.flags
    have hc1 := HX.out.ppn
    have HW := Lib.hid (below_box h2)
    clear h2
    go_wp2_with fail
    refine (HM.out _).mono ?_
    rintro e w3 ⟨rfl, h3⟩
    have HX3 := Lib.hid (HX.out.past h3)
    have hd := HX3.out.flags
    have hd1 := HX3.out.ppn
    have HV := Lib.hid (HW.out.trans (h3.mono HW.out.size))
    clear h3
    go_wp2_with fail
    refine (HP.out _).mono ?_
    rintro e w4 ⟨rfl, h4⟩
    have HU := Lib.hid (HV.out.trans (h4.mono HV.out.size))
    clear h4
    go_wp2_with fail
    refine (lives_ok _).mono ?_
    rintro e w8 ⟨rfl, h8⟩
    have HY := Lib.hid (HU.out.trans (h8.mono HU.out.size))
    clear h8
    go_wp2_with fail
    go_ret
    exact ⟨rfl, HY.out⟩
  · rw [e1] at A1
    rw [e2, e4, e8] at A14
    rw [e2, e4] at A6
    rw [e1, e2, e4, e8] at hk
    replace A1 : bits .and .i64 F 1 = 0 := A1
    replace A14 : bits .and .i64 F 14 = 10 := A14
    replace A6 : bits .and .i64 F 6 = 2 := A6
    replace hk : kindOf F = 0 := hk
    rw [hk] at HK0
    have HK := Lib.hid HK0
    rw [prot_none F (by rw [hk]; decide)] at HP0
    rw [may_none F a u (by rw [hk]; decide)] at HM0
    have HP := Lib.hid HP0
    have HM := Lib.hid HM0
    clear HK0 HP0 HM0 e1 e2 e4 e8 hk
    go_enter Try.func9, Try.ntmps9
    go_wp2_with fail
    refine (HK.out _).mono ?_
    rintro e w2 ⟨rfl, h2⟩
    have HX := Lib.hid (HB.out.past h2)
    have hc := HX.out.flags
    have hc1 := HX.out.ppn
    have HW := Lib.hid (below_box h2)
    clear h2
    go_wp2_with fail
    refine (HM.out _).mono ?_
    rintro e w3 ⟨rfl, h3⟩
    have HX3 := Lib.hid (HX.out.past h3)
    have hd := HX3.out.flags
    have hd1 := HX3.out.ppn
    have HV := Lib.hid (HW.out.trans (h3.mono HW.out.size))
    clear h3
    go_wp2_with fail
    refine (HP.out _).mono ?_
    rintro e w4 ⟨rfl, h4⟩
    have HU := Lib.hid (HV.out.trans (h4.mono HV.out.size))
    clear h4
    go_wp2_with fail
    refine (lives_ok _).mono ?_
    rintro e w8 ⟨rfl, h8⟩
    have HY := Lib.hid (HU.out.trans (h8.mono HU.out.size))
    clear h8
    go_wp2_with fail
    go_ret
    exact ⟨rfl, HY.out⟩
  · rw [e1] at A1
    rw [e2, e4, e8] at A14
    rw [e2, e4] at A6
    rw [e1, e2, e4, e8] at hk
    replace A1 : bits .and .i64 F 1 = 0 := A1
    replace A14 : bits .and .i64 F 14 = 6 := A14
    replace A6 : bits .and .i64 F 6 = 6 := A6
    replace hk : kindOf F = 0 := hk
    rw [hk] at HK0
    have HK := Lib.hid HK0
    rw [prot_none F (by rw [hk]; decide)] at HP0
    rw [may_none F a u (by rw [hk]; decide)] at HM0
    have HP := Lib.hid HP0
    have HM := Lib.hid HM0
    clear HK0 HP0 HM0 e1 e2 e4 e8 hk
    go_enter Try.func9, Try.ntmps9
    go_wp2_with fail
    refine (HK.out _).mono ?_
    rintro e w2 ⟨rfl, h2⟩
    have HX := Lib.hid (HB.out.past h2)
    have hc := HX.out.flags
    have hc1 := HX.out.ppn
    have HW := Lib.hid (below_box h2)
    clear h2
    go_wp2_with fail
    refine (HM.out _).mono ?_
    rintro e w3 ⟨rfl, h3⟩
    have HX3 := Lib.hid (HX.out.past h3)
    have hd := HX3.out.flags
    have hd1 := HX3.out.ppn
    have HV := Lib.hid (HW.out.trans (h3.mono HW.out.size))
    clear h3
    go_wp2_with fail
    refine (HP.out _).mono ?_
    rintro e w4 ⟨rfl, h4⟩
    have HU := Lib.hid (HV.out.trans (h4.mono HV.out.size))
    clear h4
    go_wp2_with fail
    refine (lives_ok _).mono ?_
    rintro e w8 ⟨rfl, h8⟩
    have HY := Lib.hid (HU.out.trans (h8.mono HU.out.size))
    clear h8
    go_wp2_with fail
    go_ret
    exact ⟨rfl, HY.out⟩
  · rw [e1] at A1
    rw [e2, e4, e8] at A14
    rw [e2, e4] at A6
    rw [e1, e2, e4, e8] at hk
    replace A1 : bits .and .i64 F 1 = 0 := A1
    replace A14 : bits .and .i64 F 14 = 14 := A14
    replace A6 : bits .and .i64 F 6 = 6 := A6
    replace hk : kindOf F = 0 := hk
    rw [hk] at HK0
    have HK := Lib.hid HK0
    rw [prot_none F (by rw [hk]; decide)] at HP0
    rw [may_none F a u (by rw [hk]; decide)] at HM0
    have HP := Lib.hid HP0
    have HM := Lib.hid HM0
    clear HK0 HP0 HM0 e1 e2 e4 e8 hk
    go_enter Try.func9, Try.ntmps9
    go_wp2_with fail
    refine (HK.out _).mono ?_
    rintro e w2 ⟨rfl, h2⟩
    have HX := Lib.hid (HB.out.past h2)
    have hc := HX.out.flags
    have hc1 := HX.out.ppn
    have HW := Lib.hid (below_box h2)
    clear h2
    go_wp2_with fail
    refine (HM.out _).mono ?_
    rintro e w3 ⟨rfl, h3⟩
    have HX3 := Lib.hid (HX.out.past h3)
    have hd := HX3.out.flags
    have hd1 := HX3.out.ppn
    have HV := Lib.hid (HW.out.trans (h3.mono HW.out.size))
    clear h3
    go_wp2_with fail
    refine (HP.out _).mono ?_
    rintro e w4 ⟨rfl, h4⟩
    have HU := Lib.hid (HV.out.trans (h4.mono HV.out.size))
    clear h4
    go_wp2_with fail
    refine (lives_ok _).mono ?_
    rintro e w8 ⟨rfl, h8⟩
    have HY := Lib.hid (HU.out.trans (h8.mono HU.out.size))
    clear h8
    go_wp2_with fail
    go_ret
    exact ⟨rfl, HY.out⟩
  · rw [e1] at A1
    rw [e2, e4, e8] at A14
    rw [e2, e4] at A6
    rw [e1, e2, e4, e8] at hk
    replace A1 : bits .and .i64 F 1 = 1 := A1
    replace A14 : bits .and .i64 F 14 = 0 := A14
    replace A6 : bits .and .i64 F 6 = 0 := A6
    replace hk : kindOf F = 1 := hk
    rw [hk] at HK0
    have HK := Lib.hid HK0
    rw [prot_none F (by rw [hk]; decide)] at HP0
    rw [may_none F a u (by rw [hk]; decide)] at HM0
    have HP := Lib.hid HP0
    have HM := Lib.hid HM0
    clear HK0 HP0 HM0 e1 e2 e4 e8 hk
    go_enter Try.func9, Try.ntmps9
    go_wp2_with fail
    refine (HK.out _).mono ?_
    rintro e w2 ⟨rfl, h2⟩
    have HX := Lib.hid (HB.out.past h2)
    have hc := HX.out.flags
    have hc1 := HX.out.ppn
    have HW := Lib.hid (below_box h2)
    clear h2
    go_wp2_with fail
    refine (HM.out _).mono ?_
    rintro e w3 ⟨rfl, h3⟩
    have HX3 := Lib.hid (HX.out.past h3)
    have hd := HX3.out.flags
    have hd1 := HX3.out.ppn
    have HV := Lib.hid (HW.out.trans (h3.mono HW.out.size))
    clear h3
    go_wp2_with fail
    refine (HP.out _).mono ?_
    rintro e w4 ⟨rfl, h4⟩
    have HU := Lib.hid (HV.out.trans (h4.mono HV.out.size))
    clear h4
    go_wp2_with fail
    refine (lives_ok _).mono ?_
    rintro e w8 ⟨rfl, h8⟩
    have HY := Lib.hid (HU.out.trans (h8.mono HU.out.size))
    clear h8
    go_wp2_with fail
    go_ret
    exact ⟨rfl, HY.out⟩
  · rw [e1] at A1
    rw [e2, e4, e8] at A14
    rw [e2, e4] at A6
    rw [e1, e2, e4, e8] at hk
    replace A1 : bits .and .i64 F 1 = 1 := A1
    replace A14 : bits .and .i64 F 14 = 8 := A14
    replace A6 : bits .and .i64 F 6 = 0 := A6
    replace hk : kindOf F = 2 := hk
    rw [hk] at HK0
    have HK := Lib.hid HK0
    clear HK0 HP0 HM0 e1 e2 e4 e8 hk
    go_enter Try.func9, Try.ntmps9
    go_wp2_with fail
    refine (HK.out _).mono ?_
    rintro e w2 ⟨rfl, h2⟩
    have HX := Lib.hid (HB.out.past h2)
    have hc := HX.out.flags
    have hc1 := HX.out.ppn
    have HW := Lib.hid (below_box h2)
    clear h2
    go_wp2_with fail
    refine (lives_ok _).mono ?_
    rintro e w8 ⟨rfl, h8⟩
    have HY := Lib.hid (HW.out.trans (h8.mono HW.out.size))
    clear h8
    go_wp2_with fail
    go_ret
    exact ⟨rfl, HY.out⟩
  · rw [e1] at A1
    rw [e2, e4, e8] at A14
    rw [e2, e4] at A6
    rw [e1, e2, e4, e8] at hk
    replace A1 : bits .and .i64 F 1 = 1 := A1
    replace A14 : bits .and .i64 F 14 = 4 := A14
    replace A6 : bits .and .i64 F 6 = 4 := A6
    replace hk : kindOf F = 0 := hk
    rw [hk] at HK0
    have HK := Lib.hid HK0
    rw [prot_none F (by rw [hk]; decide)] at HP0
    rw [may_none F a u (by rw [hk]; decide)] at HM0
    have HP := Lib.hid HP0
    have HM := Lib.hid HM0
    clear HK0 HP0 HM0 e1 e2 e4 e8 hk
    go_enter Try.func9, Try.ntmps9
    go_wp2_with fail
    refine (HK.out _).mono ?_
    rintro e w2 ⟨rfl, h2⟩
    have HX := Lib.hid (HB.out.past h2)
    have hc := HX.out.flags
    have hc1 := HX.out.ppn
    have HW := Lib.hid (below_box h2)
    clear h2
    go_wp2_with fail
    refine (HM.out _).mono ?_
    rintro e w3 ⟨rfl, h3⟩
    have HX3 := Lib.hid (HX.out.past h3)
    have hd := HX3.out.flags
    have hd1 := HX3.out.ppn
    have HV := Lib.hid (HW.out.trans (h3.mono HW.out.size))
    clear h3
    go_wp2_with fail
    refine (HP.out _).mono ?_
    rintro e w4 ⟨rfl, h4⟩
    have HU := Lib.hid (HV.out.trans (h4.mono HV.out.size))
    clear h4
    go_wp2_with fail
    refine (lives_ok _).mono ?_
    rintro e w8 ⟨rfl, h8⟩
    have HY := Lib.hid (HU.out.trans (h8.mono HU.out.size))
    clear h8
    go_wp2_with fail
    go_ret
    exact ⟨rfl, HY.out⟩
  · rw [e1] at A1
    rw [e2, e4, e8] at A14
    rw [e2, e4] at A6
    rw [e1, e2, e4, e8] at hk
    replace A1 : bits .and .i64 F 1 = 1 := A1
    replace A14 : bits .and .i64 F 14 = 12 := A14
    replace A6 : bits .and .i64 F 6 = 4 := A6
    replace hk : kindOf F = 0 := hk
    rw [hk] at HK0
    have HK := Lib.hid HK0
    rw [prot_none F (by rw [hk]; decide)] at HP0
    rw [may_none F a u (by rw [hk]; decide)] at HM0
    have HP := Lib.hid HP0
    have HM := Lib.hid HM0
    clear HK0 HP0 HM0 e1 e2 e4 e8 hk
    go_enter Try.func9, Try.ntmps9
    go_wp2_with fail
    refine (HK.out _).mono ?_
    rintro e w2 ⟨rfl, h2⟩
    have HX := Lib.hid (HB.out.past h2)
    have hc := HX.out.flags
    have hc1 := HX.out.ppn
    have HW := Lib.hid (below_box h2)
    clear h2
    go_wp2_with fail
    refine (HM.out _).mono ?_
    rintro e w3 ⟨rfl, h3⟩
    have HX3 := Lib.hid (HX.out.past h3)
    have hd := HX3.out.flags
    have hd1 := HX3.out.ppn
    have HV := Lib.hid (HW.out.trans (h3.mono HW.out.size))
    clear h3
    go_wp2_with fail
    refine (HP.out _).mono ?_
    rintro e w4 ⟨rfl, h4⟩
    have HU := Lib.hid (HV.out.trans (h4.mono HV.out.size))
    clear h4
    go_wp2_with fail
    refine (lives_ok _).mono ?_
    rintro e w8 ⟨rfl, h8⟩
    have HY := Lib.hid (HU.out.trans (h8.mono HU.out.size))
    clear h8
    go_wp2_with fail
    go_ret
    exact ⟨rfl, HY.out⟩
  · rw [e1] at A1
    rw [e2, e4, e8] at A14
    rw [e2, e4] at A6
    rw [e1, e2, e4, e8] at hk
    replace A1 : bits .and .i64 F 1 = 1 := A1
    replace A14 : bits .and .i64 F 14 = 2 := A14
    replace A6 : bits .and .i64 F 6 = 2 := A6
    replace hk : kindOf F = 2 := hk
    rw [hk] at HK0
    have HK := Lib.hid HK0
    clear HK0 HP0 HM0 e1 e2 e4 e8 hk
    go_enter Try.func9, Try.ntmps9
    go_wp2_with fail
    refine (HK.out _).mono ?_
    rintro e w2 ⟨rfl, h2⟩
    have HX := Lib.hid (HB.out.past h2)
    have hc := HX.out.flags
    have hc1 := HX.out.ppn
    have HW := Lib.hid (below_box h2)
    clear h2
    go_wp2_with fail
    refine (lives_ok _).mono ?_
    rintro e w8 ⟨rfl, h8⟩
    have HY := Lib.hid (HW.out.trans (h8.mono HW.out.size))
    clear h8
    go_wp2_with fail
    go_ret
    exact ⟨rfl, HY.out⟩
  · rw [e1] at A1
    rw [e2, e4, e8] at A14
    rw [e2, e4] at A6
    rw [e1, e2, e4, e8] at hk
    replace A1 : bits .and .i64 F 1 = 1 := A1
    replace A14 : bits .and .i64 F 14 = 10 := A14
    replace A6 : bits .and .i64 F 6 = 2 := A6
    replace hk : kindOf F = 2 := hk
    rw [hk] at HK0
    have HK := Lib.hid HK0
    clear HK0 HP0 HM0 e1 e2 e4 e8 hk
    go_enter Try.func9, Try.ntmps9
    go_wp2_with fail
    refine (HK.out _).mono ?_
    rintro e w2 ⟨rfl, h2⟩
    have HX := Lib.hid (HB.out.past h2)
    have hc := HX.out.flags
    have hc1 := HX.out.ppn
    have HW := Lib.hid (below_box h2)
    clear h2
    go_wp2_with fail
    refine (lives_ok _).mono ?_
    rintro e w8 ⟨rfl, h8⟩
    have HY := Lib.hid (HW.out.trans (h8.mono HW.out.size))
    clear h8
    go_wp2_with fail
    go_ret
    exact ⟨rfl, HY.out⟩
  · rw [e1] at A1
    rw [e2, e4, e8] at A14
    rw [e2, e4] at A6
    rw [e1, e2, e4, e8] at hk
    replace A1 : bits .and .i64 F 1 = 1 := A1
    replace A14 : bits .and .i64 F 14 = 6 := A14
    replace A6 : bits .and .i64 F 6 = 6 := A6
    replace hk : kindOf F = 2 := hk
    rw [hk] at HK0
    have HK := Lib.hid HK0
    clear HK0 HP0 HM0 e1 e2 e4 e8 hk
    go_enter Try.func9, Try.ntmps9
    go_wp2_with fail
    refine (HK.out _).mono ?_
    rintro e w2 ⟨rfl, h2⟩
    have HX := Lib.hid (HB.out.past h2)
    have hc := HX.out.flags
    have hc1 := HX.out.ppn
    have HW := Lib.hid (below_box h2)
    clear h2
    go_wp2_with fail
    refine (lives_ok _).mono ?_
    rintro e w8 ⟨rfl, h8⟩
    have HY := Lib.hid (HW.out.trans (h8.mono HW.out.size))
    clear h8
    go_wp2_with fail
    go_ret
    exact ⟨rfl, HY.out⟩
  · rw [e1] at A1
    rw [e2, e4, e8] at A14
    rw [e2, e4] at A6
    rw [e1, e2, e4, e8] at hk
    replace A1 : bits .and .i64 F 1 = 1 := A1
    replace A14 : bits .and .i64 F 14 = 14 := A14
    replace A6 : bits .and .i64 F 6 = 6 := A6
    replace hk : kindOf F = 2 := hk
    rw [hk] at HK0
    have HK := Lib.hid HK0
    clear HK0 HP0 HM0 e1 e2 e4 e8 hk
    go_enter Try.func9, Try.ntmps9
    go_wp2_with fail
    refine (HK.out _).mono ?_
    rintro e w2 ⟨rfl, h2⟩
    have HX := Lib.hid (HB.out.past h2)
    have hc := HX.out.flags
    have hc1 := HX.out.ppn
    have HW := Lib.hid (below_box h2)
    clear h2
    go_wp2_with fail
    refine (lives_ok _).mono ?_
    rintro e w8 ⟨rfl, h8⟩
    have HY := Lib.hid (HW.out.trans (h8.mono HW.out.size))
    clear h8
    go_wp2_with fail
    go_ret
    exact ⟨rfl, HY.out⟩
end Go.Proofs.Ytkpbkmfogkkheaa
