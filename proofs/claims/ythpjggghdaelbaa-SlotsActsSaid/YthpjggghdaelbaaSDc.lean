/- Package slots: freeRun, TakeRun, Take. -/
import Derived.Test.YthpjggghdaelbaaSDb
namespace Go.Proofs.Ythpjggghdaelbaa
open Go.ChangeShapes Go.WideShapes Go.ChangeAt Go.RowKit Go.Deep
set_option linter.unusedVariables false

def runV (o : Option Nat) : Value := match o with | some j => .tuple #[.int .i64 (j : Int), .bool true] | none => .tuple #[.int .i64 0, .bool false]
section
variable {w w' : World} {r gu gs : Nat} {L : List Int}
/-- Where a place is not free, no run goes over it. -/
theorem no_run {L : List Int} {k i f : Nat} (h0 : L.getD i 0 ≠ 0) (h1 : f ≤ i) (h2 : i < f + k) (hf : ∀ j, j < f → ¬ FreeRun L j k) : ∀ j, j < i + 1 → ¬ FreeRun L j k := by
  intro j hj hr
  by_cases hjf : j < f
  · exact hf j hjf hr
  · exact h0 (hr.2 i (by omega) (by omega))

set_option maxHeartbeats 1000000 in
theorem free_run (h : SP w r L gu gs) (k : Nat) (hk : 1 ≤ k) (hk2 : k < 9223372036854775808) : Calls Try.prog 26 #[.pointer (some ⟨r, 0, none⟩), .int .i64 (k : Int)] w fun e w' => e = .returned (runV (runN L k)) ∧ w' = w := by
  obtain ⟨c0, c1, c2⟩ := h.at
  have HB := Lib.hid fun i hi => used_ok h i hi
  have hl := h.good.len
  obtain ⟨R, hR⟩ : ∃ R, runN L k = R := ⟨_, rfl⟩
  have HR := Lib.hid hR
  rw [hR]
  clear h hR
  go_enter Try.func26, Try.ntmps26
  go_wp2_with fail
  go_step3
  go_wp2_with fail
  go_step3
  go_wp2_with fail
  go_loopw [6, 7] (fun fv _ wr => ∃ f : Nat, f ≤ L.length ∧ fv = .int .i64 f ∧ Hid (∀ j, j < f → ¬ FreeRun L j k) ∧ Hid (wr = w)) (fun fv _ _ => L.length - (intOf fv).toNat)
  case atStart => exact ⟨0, by omega, rfl, fun j hj => by omega, rfl⟩
  case round =>
    obtain ⟨f, hf, rfl, HF, HW⟩ := hrel
    have hw := HW.out.symm
    subst hw
    by_cases hfit : f + k ≤ L.length
    · have d0 : decide ((k : Int) ≤ (L.length : Int) - (f : Int)) = true := by simp; omega
      go_wp2_with fail
      go_loopw [6, 7] (fun fv iv wr => ∃ i : Nat, f ≤ i ∧ i ≤ f + k ∧ fv = .int .i64 f ∧ iv = .int .i64 i ∧ Hid (∀ h, f ≤ h → h < i → L.getD h 0 = 0) ∧ Hid (wr = w)) (fun _ iv _ => f + k - (intOf iv).toNat)
      case atStart => exact ⟨f, Nat.le_refl _, by omega, rfl, rfl, fun h h1 h2 => by omega, rfl⟩
      case round =>
        obtain ⟨i, hi0, hi1, rfl, rfl, HI, HW2⟩ := hrel
        have hw2 := HW2.out.symm
        subst hw2
        by_cases hlt : i < f + k
        · have HC := Lib.hid (HB.out i (by omega))
          unfold usedB at HC
          by_cases hz : L.getD i 0 = 0
          · rw [hz] at HC
            have HZ := Lib.hid hz
            clear hz
            go_wp2_with fail
            refine HC.out.mono ?_
            rintro e w2 ⟨rfl, e2⟩
            subst w2
            go_wp2_with fail
            go_roundw
            case rel =>
              refine ⟨i + 1, by omega, by omega, rfl, by go_num, ?_, by first | exact rfl | exact trivial⟩
              show ∀ h, f ≤ h → h < i + 1 → L.getD h 0 = 0
              intro h h1 h2
              by_cases e : h = i
              · subst e; exact HZ.out
              · exact HI.out h h1 (by omega)
            case measure => simp [intOf]; omega
          · rw [show decide (L.getD i 0 ≠ 0) = true by simpa using hz] at HC
            have HN := Lib.hid (no_run hz hi0 hlt HF.out)
            clear hz
            go_wp2_with fail
            refine HC.out.mono ?_
            rintro e w2 ⟨rfl, e2⟩
            subst w2
            go_wp2_with fail
            go_roundw
            case rel => exact ⟨i + 1, by omega, by go_num, HN.out, by first | exact rfl | exact trivial⟩
            case measure => simp [intOf]; omega
        · obtain rfl : i = f + k := by omega
          have hsome : runN L k = some f := runN_some ⟨hfit, HI.out⟩ HF.out
          have e := HR.out.symm.trans hsome
          subst e
          go_wp2_with fail
          try rw [Exit.noGoto_ret]
          go_ret2
          exact ⟨rfl, rfl⟩
    · have d0 : decide ((k : Int) ≤ (L.length : Int) - (f : Int)) = false := by simp; omega
      have hnone : runN L k = none := runN_none fun j hr => by
        by_cases hjf : j < f
        · exact HF.out j hjf hr
        · have := hr.1; omega
      have e := HR.out.symm.trans hnone
      subst e
      go_wp2_with fail
      try rw [Exit.noGoto_ret]
      go_ret2
      exact ⟨rfl, rfl⟩

theorem set_mark {j k i : Nat} (hr : FreeRun L j k) (hi : i < k) (h : SP w r (markL L j i) gu gs) :
    Calls Try.prog 27 #[.slice (some ⟨gu, 0, none⟩) (mOf L) (mOf L), .int .i64 ((j + i : Nat) : Int)] w fun e w' => e = .returned (.tuple #[]) ∧ SLeft w w' r (markL L j (i + 1)) gu gs := by
  have hm : mOf (markL L j i) = mOf L := by unfold mOf; rw [mark_len]
  have hg : (markL L j i).getD (j + i) 0 = 0 := by
    rw [mark_get _ _ (by have := hr.1; omega), if_neg (by omega)]
    exact hr.2 _ (by omega) (by omega)
  have := set_used h (j + i) (by rw [mark_len]; have := hr.1; omega) 1 (.inr (.inl rfl)) (by decide) (by rw [hg]; decide)
  rw [hm] at this
  exact this

set_option maxHeartbeats 1000000 in
theorem sl_takeRun (h : SP w r L gu gs) (k : Int) (hk : okI k) : Calls Try.prog 13 #[.pointer (some ⟨r, 0, none⟩), .int .i64 k] w fun e w' => e = .returned (.tuple #[.int .i64 (takeL L k).n, .bool (takeL L k).b]) ∧ SLeft w w' r (takeL L k).L gu gs := by
  have hq := eql_slots_nil
  have H := Lib.hid h
  by_cases h1 : 1 ≤ k
  · obtain ⟨q, rfl⟩ := Int.eq_ofNat_of_zero_le (show 0 ≤ k by omega)
    have HF := Lib.hid (free_run h q (by omega) (by have := hk.2; omega))
    have hq1 : 1 ≤ q := by omega
    have hrun : runL L (q : Int) = runN L q := by unfold runL; rw [if_pos h1, Int.toNat_natCast]
    have d0 : decide ((q : Int) < 1) = false := decide_eq_false (by omega)
    cases hR : runN L q with
    | none =>
      rw [show takeL L (q : Int) = ⟨0, false, L⟩ by unfold takeL; rw [hrun, hR]]
      rw [hR] at HF
      unfold runV at HF
      simp only at HF ⊢
      clear h h1 hk hrun hR
      go_enter Try.func13, Try.ntmps13
      go_wp2_with fail
      refine HF.out.mono ?_
      rintro e w2 ⟨rfl, e2⟩
      subst w2
      go_wp2_with fail
      go_ret2
      exact ⟨rfl, H.out, Turn.refl _ _⟩
    | some j =>
      rw [show takeL L (q : Int) = ⟨j, true, markL L j q⟩ by unfold takeL; rw [hrun, hR]; simp]
      rw [hR] at HF
      unfold runV at HF
      simp only at HF ⊢
      have HRun := Lib.hid (runN_is hR).1
      have hjq : j + q ≤ 256 := by have := (runN_is hR).1.1; have := h.good.len; omega
      clear h h1 hk hrun hR
      go_enter Try.func13, Try.ntmps13
      go_wp2_with fail
      refine HF.out.mono ?_
      rintro e w2 ⟨rfl, e2⟩
      subst w2
      go_wp2_with fail
      go_loopw [8, 24] (fun _ iv wr => ∃ i : Nat, i ≤ q ∧ iv = .int .i64 i ∧ Hid (SLeft w wr r (markL L j i) gu gs)) (fun _ iv _ => q - (intOf iv).toNat)
      case atStart => exact ⟨0, by omega, rfl, H.out, Turn.refl _ _⟩
      case round =>
        obtain ⟨i, hi, rfl, HS⟩ := hrel
        by_cases hlt : i < q
        · obtain ⟨c0, c1, c2⟩ := HS.out.1.at
          rw [show mOf (markL L j i) = mOf L by unfold mOf; rw [mark_len]] at c1 c2
          have hset := set_mark HRun.out hlt HS.out.1
          rw [show ((j + i : Nat) : Int) = (j : Int) + (i : Int) by omega] at hset
          have HC := Lib.hid hset
          clear hset
          go_wp2_with fail
          refine HC.out.mono ?_
          rintro e w2 ⟨rfl, h2⟩
          have H2 := Lib.hid (HS.out.trans h2)
          clear h2
          go_wp2_with fail
          go_roundw
          case rel => exact ⟨i + 1, by omega, by go_num, H2⟩
          case measure => simp [intOf]; omega
        · obtain rfl : i = q := by omega
          go_wp2_with fail
          go_ret2
          exact ⟨rfl, HS.out⟩
  · have d0 : decide (k < 1) = true := decide_eq_true (by omega)
    rw [show takeL L k = ⟨0, false, L⟩ by unfold takeL runL; rw [if_neg h1]]
    clear h h1 hk
    go_enter Try.func13, Try.ntmps13
    go_wp2_with fail
    go_ret2
    exact ⟨rfl, H.out, Turn.refl _ _⟩

theorem sl_take (h : SP w r L gu gs) : Calls Try.prog 11 #[.pointer (some ⟨r, 0, none⟩)] w fun e w' => e = .returned (.tuple #[.int .i64 (takeL L 1).n, .bool (takeL L 1).b]) ∧ SLeft w w' r (takeL L 1).L gu gs := by
  have HT := Lib.hid (sl_takeRun h 1 ⟨by decide, by decide⟩)
  clear h
  generalize takeL L 1 = T at *
  go_enter Try.func11, Try.ntmps11
  go_wp2_with fail
  refine HT.out.mono ?_
  rintro e w2 ⟨rfl, h2⟩
  have H2 := Lib.hid h2
  clear h2
  go_wp2_with fail
  go_ret2
  exact ⟨rfl, H2.out⟩
end
end Go.Proofs.Ythpjggghdaelbaa
