/- Package slots: places that no call made, and no places at all. -/
import Derived.Test.YthpjggghdaelbaaSDc
namespace Go.Proofs.Ythpjggghdaelbaa
open Go.ChangeShapes Go.WideShapes Go.ChangeAt Go.RowKit Go.Deep
set_option linter.unusedVariables false

/-- Slots that no call made. -/
def SZ (w : World) (r : Nat) : Prop := w.heap[r]? = some (.cells #[.int .i64 0, .slice none 0 0, .slice none 0 0] 46 (0, 0))
section
variable {w w' : World} {r : Nat}
theorem SZ.lt (h : SZ w r) : r < w.heap.size := (Array.getElem?_eq_some_iff.1 h).1
theorem SZ.grow (h : SZ w r) (k : w.grownBy w' none) : SZ w' r := (k.block _ h.lt (by simp)).trans h
theorem SZ.at (h : SZ w r) : w.cell? ⟨r, 0, none⟩ = some (.int .i64 0) ∧ w.cell? ⟨r, 1, none⟩ = some (.slice none 0 0) ∧ w.cell? ⟨r, 2, none⟩ = some (.slice none 0 0) :=
  ⟨by rw [cell_of_row _ _ _ _ _ _ h]; rfl, by rw [cell_of_row _ _ _ _ _ _ h]; rfl, by rw [cell_of_row _ _ _ _ _ _ h]; rfl⟩
/-- Either of both. -/
def SN (w : World) (v : Value) : Prop := v = .pointer none ∨ ∃ r, v = .pointer (some ⟨r, 0, none⟩) ∧ SZ w r
theorem SN.grow {v : Value} (h : SN w v) (k : w.grownBy w' none) : SN w' v := by
  rcases h with h | ⟨r, h1, h2⟩
  · exact .inl h
  · exact .inr ⟨r, h1, h2.grow k⟩

theorem no_state {v : Value} (h : SN w v) (i : Int) : Calls Try.prog 19 #[v, .int .i64 i] w fun e w' => e = .returned (.int .i64 (-1)) ∧ w' = w := by
  rcases h with rfl | ⟨r, rfl, h⟩
  · have hq := eql_slots_nil2
    go_enter Try.func19, Try.ntmps19
    go_wp2_with fail
    go_ret
    exact ⟨rfl, rfl⟩
  · have hq := eql_slots_nil
    obtain ⟨c0, c1, c2⟩ := h.at
    clear h
    by_cases h0 : i < 0
    · have d0 : decide (i < 0) = true := decide_eq_true h0
      go_enter Try.func19, Try.ntmps19
      go_wp2_with fail
      go_ret
      exact ⟨rfl, rfl⟩
    · have d0 : decide (i < 0) = false := decide_eq_false h0
      have d1 : decide (i ≥ 0) = true := decide_eq_true (by omega)
      go_enter Try.func19, Try.ntmps19
      go_wp2_with fail
      go_ret
      exact ⟨rfl, rfl⟩
theorem no_give {v : Value} (h : SN w v) (i : Int) : Calls Try.prog 15 #[v, .int .i64 i] w fun e w' => e = .returned (.bool false) ∧ w' = w := by
  have HS := Lib.hid (no_state h i)
  clear h
  go_enter Try.func15, Try.ntmps15
  go_wp2_with fail
  refine HS.out.mono ?_
  rintro e w2 ⟨rfl, e2⟩
  subst w2
  go_wp2_with fail
  go_ret
  exact ⟨rfl, rfl⟩
theorem no_spoil {v : Value} (h : SN w v) (i : Int) : Calls Try.prog 17 #[v, .int .i64 i] w fun e w' => e = .returned (.bool false) ∧ w' = w := by
  have HS := Lib.hid (no_state h i)
  clear h
  go_enter Try.func17, Try.ntmps17
  go_wp2_with fail
  refine HS.out.mono ?_
  rintro e w2 ⟨rfl, e2⟩
  subst w2
  go_wp2_with fail
  go_ret
  exact ⟨rfl, rfl⟩
theorem no_free (h : SZ w r) (k : Int) (hk : 1 ≤ k) : Calls Try.prog 26 #[.pointer (some ⟨r, 0, none⟩), .int .i64 k] w fun e w' => e = .returned (.tuple #[.int .i64 0, .bool false]) ∧ w' = w := by
  obtain ⟨c0, c1, c2⟩ := h.at
  have d0 : decide (k ≤ 0) = false := decide_eq_false (by omega)
  clear h
  go_enter Try.func26, Try.ntmps26
  go_wp2_with fail
  go_step3
  go_wp2_with fail
  go_step3
  go_wp2_with fail
  go_loopw [6] (fun fv wr => fv = .int .i64 0 ∧ Hid (wr = w)) (fun _ _ => 0)
  case atStart => exact ⟨rfl, rfl⟩
  case round =>
    obtain ⟨rfl, HW⟩ := hrel
    have hw := HW.out.symm
    subst hw
    go_wp2_with fail
    try rw [Exit.noGoto_ret]
    go_ret2
    exact ⟨rfl, rfl⟩
theorem no_takeRun {v : Value} (h : SN w v) (k : Int) : Calls Try.prog 13 #[v, .int .i64 k] w fun e w' => e = .returned (.tuple #[.int .i64 0, .bool false]) ∧ w' = w := by
  rcases h with rfl | ⟨r, rfl, h⟩
  · have hq := eql_slots_nil2
    go_enter Try.func13, Try.ntmps13
    go_wp2_with fail
    go_ret2
    exact ⟨rfl, rfl⟩
  · have hq := eql_slots_nil
    by_cases h1 : k < 1
    · have d0 : decide (k < 1) = true := decide_eq_true h1
      clear h h1
      go_enter Try.func13, Try.ntmps13
      go_wp2_with fail
      go_ret2
      exact ⟨rfl, rfl⟩
    · have d0 : decide (k < 1) = false := decide_eq_false h1
      have HF := Lib.hid (no_free h k (by omega))
      clear h h1
      go_enter Try.func13, Try.ntmps13
      go_wp2_with fail
      refine HF.out.mono ?_
      rintro e w2 ⟨rfl, e2⟩
      subst w2
      go_wp2_with fail
      go_ret2
      exact ⟨rfl, rfl⟩
theorem no_take {v : Value} (h : SN w v) : Calls Try.prog 11 #[v] w fun e w' => e = .returned (.tuple #[.int .i64 0, .bool false]) ∧ w' = w := by
  have HT := Lib.hid (no_takeRun h 1)
  clear h
  go_enter Try.func11, Try.ntmps11
  go_wp2_with fail
  refine HT.out.mono ?_
  rintro e w2 ⟨rfl, e2⟩
  subst w2
  go_wp2_with fail
  go_ret2
  exact ⟨rfl, rfl⟩
theorem no_count {v : Value} (h : SN w v) (s : Int) : Calls Try.prog 21 #[v, .int .i64 s] w fun e w' => e = .returned (.int .i64 0) ∧ w' = w := by
  rcases h with rfl | ⟨r, rfl, h⟩
  · have hq := eql_slots_nil2
    go_enter Try.func21, Try.ntmps21
    go_wp2_with fail
    go_ret
    exact ⟨rfl, rfl⟩
  · have hq := eql_slots_nil
    obtain ⟨c0, c1, c2⟩ := h.at
    clear h
    go_enter Try.func21, Try.ntmps21
    go_wp2_with fail
    go_loopw [5, 13] (fun nv iv wr => nv = .int .i64 0 ∧ iv = .int .i64 0 ∧ Hid (wr = w)) (fun _ _ _ => 0)
    case atStart => exact ⟨rfl, rfl, rfl⟩
    case round =>
      obtain ⟨rfl, rfl, HW⟩ := hrel
      have hw := HW.out.symm
      subst hw
      go_wp2_with fail
      go_ret
      exact ⟨rfl, rfl⟩
theorem no_words {v : Value} (h : SN w v) : Calls Try.prog 24 #[v] w fun e w' => ∃ a c, e = .returned (.slice a 0 c) ∧ w.grownBy w' none := by
  rcases h with rfl | ⟨r, rfl, h⟩
  · have hq := eql_slots_nil2
    go_enter Try.func24, Try.ntmps24
    go_wp2_with fail
    go_ret
    exact ⟨none, 0, rfl, grown_refl _ _⟩
  · have hq := eql_slots_nil
    obtain ⟨c0, c1, c2⟩ := h.at
    have hmk := run_make_words 0 (by decide) w
    rw [show ((0 : Nat) : Int) = 0 from rfl] at hmk
    have ga := World.grownBy_alloc w (.cells ((List.replicate 0 0).map wv).toArray 43) none
    have k1 := Lib.cell?_alloc_some (.cells ((List.replicate 0 0).map wv).toArray 43) c1
    generalize hwA : w.alloc (.cells ((List.replicate 0 0).map wv).toArray 43) = wA at *
    have hcopy := run_copy_none (P := Try.prog) wA 36 36 3 43 (some ⟨w.heap.size, 0, none⟩) none 0 0 0 0 Try.underlying36 (by kernel_rfl) rfl
    have HG := Lib.hid ga
    clear h ga
    go_enter Try.func24, Try.ntmps24
    go_wp2_with fail
    go_ret
    exact ⟨_, _, rfl, HG.out⟩
end
end Go.Proofs.Ythpjggghdaelbaa
