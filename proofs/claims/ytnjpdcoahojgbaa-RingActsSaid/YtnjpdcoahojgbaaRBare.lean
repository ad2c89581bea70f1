/- Calls of package ring through a pointer to no rows, or to rows that no call made: each finds nothing. list at any rows. -/
import Derived.Test.YtnjpdcoahojgbaaRList
namespace Go.Proofs.Ytnjpdcoahojgbaa.RInt
open Go.ChangeShapes Go.WideShapes Go.ChangeAt Go.RowKit
set_option linter.unusedVariables false

section
variable {w : World} {p : Option Addr}

theorem bare_len (h : Bare w p) (r : Int) : Calls Try.prog 28 #[.pointer p, .int .i64 r] w fun e w' => e = .returned (.int .i64 0) ∧ w = w' := len_no w p 0 (wide_bare w p h) r (by omega)
theorem bare_rows (h : Bare w p) : Calls Try.prog 31 #[.pointer p] w fun e w' => e = .returned (.int .i64 0) ∧ w = w' := wide_bare w p h
theorem bare_first (h : Bare w p) (r : Int) : Calls Try.prog 25 #[.pointer p, .int .i64 r] w fun e w' => e = .returned (.tuple #[.int .i64 0, .bool false]) ∧ w = w' := first_none p r (bare_len h r)

theorem bare_shift (h : Bare w p) (r : Int) : Calls Try.prog 17 #[.pointer p, .int .i64 r] w fun e w' => e = .returned (.tuple #[.int .i64 0, .bool false]) ∧ w = w' := by
  have HF := Lib.hid (bare_first h r)
  clear h
  go_enter Try.func17, Try.ntmps17
  go_wp2_with (go_at_call 25; refine (Calls.mono HF.out ?_); rintro e w' ⟨rfl, rfl⟩)
  go_ret2
  exact ⟨rfl, rfl⟩

theorem bare_turn (h : Bare w p) (r : Int) : Calls Try.prog 21 #[.pointer p, .int .i64 r] w fun e w' => e = .returned (.bool false) ∧ w = w' := by
  have HF := Lib.hid (bare_shift h r)
  clear h
  go_enter Try.func21, Try.ntmps21
  go_wp2_with (go_at_call 17; refine (Calls.mono HF.out ?_); rintro e w' ⟨rfl, rfl⟩)
  go_ret
  exact ⟨rfl, rfl⟩

theorem bare_push (h : Bare w p) (r : Int) {x : Int} (hx : okK x) : Calls Try.prog 13 #[.pointer p, .int .i64 r, .int .i64 x] w (Refused w (.bool false)) := by
  have HA := Lib.hid (admit_bare p h r hx)
  clear h hx
  go_enter Try.func13, Try.ntmps13
  go_wp2_with (go_at_call 40; refine (Calls.mono HA.out ?_); rintro e w' ⟨rfl, hb⟩; have HB := Lib.hid hb; clear hb)
  go_ret
  exact ⟨rfl, HB.out⟩

theorem bare_front (h : Bare w p) (r : Int) {x : Int} (hx : okK x) : Calls Try.prog 15 #[.pointer p, .int .i64 r, .int .i64 x] w (Refused w (.bool false)) := by
  have HA := Lib.hid (admit_bare p h r hx)
  clear h hx
  go_enter Try.func15, Try.ntmps15
  go_wp2_with (go_at_call 40; refine (Calls.mono HA.out ?_); rintro e w' ⟨rfl, hb⟩; have HB := Lib.hid hb; clear hb)
  go_ret
  exact ⟨rfl, HB.out⟩

/-- find tells nil, whether or not there are rows. -/
theorem bare_find (h : Bare w p) {x : Int} (hx : okK x) : ∃ ok, Finds w p x none ok := by
  cases p with
  | none => exact ⟨false, find_nil w x⟩
  | some a => exact ⟨true, find_bare w a h x hx⟩

theorem bare_remove (h : Bare w p) {x : Int} (hx : okK x) : Calls Try.prog 19 #[.pointer p, .int .i64 x] w (Refused w (.bool false)) := by
  obtain ⟨ok, hf⟩ := bare_find h hx
  have HF := Lib.hid hf
  clear h hx hf
  go_enter Try.func19, Try.ntmps19
  go_wp2_with (go_at_call 44; refine (Calls.mono HF.out ?_); rintro e w' ⟨rfl, hb⟩; have HB := Lib.hid hb; clear hb)
  go_ret
  exact ⟨rfl, HB.out⟩

theorem bare_where (h : Bare w p) {x : Int} (hx : okK x) : Calls Try.prog 23 #[.pointer p, .int .i64 x] w (Refused w (.tuple #[.int .i64 0, .bool false])) := by
  obtain ⟨ok, hf⟩ := bare_find h hx
  have HF := Lib.hid hf
  clear h hx hf
  go_enter Try.func23, Try.ntmps23
  go_wp2_with (go_at_call 44; refine (Calls.mono HF.out ?_); rintro e w' ⟨rfl, hb⟩; have HB := Lib.hid hb; clear hb)
  go_ret2
  exact ⟨rfl, HB.out⟩

theorem bare_list (h : Bare w p) (r most : Int) : Calls Try.prog 30 #[.pointer p, .int .i64 r, .int .i64 most] w (Listed w []) := by
  have hb := bare_below h (w1 := w.alloc (.cells #[.int .i64 most] 3)) ((Below.refl _ _).alloc (Nat.le_refl _) _)
  have := list_of w p r most [] (by simp) (all_none _ p 0 (fun w1 h1 => wide_bare w1 p (bare_below hb h1)) r (by omega))
  have e : cutM most [] = [] := by unfold cutM; split <;> simp
  rw [e] at this
  exact this
end

section
variable {w : World} {b : Nat} {S : List (List Int)} {O : List Nat}

theorem tells_is (h : Is w b S O) (r : Int) : Tells w (some ⟨b, 0, none⟩) r (rowS r S) := by
  obtain ⟨F, L, M, cap, T, hA, rfl, rfl⟩ := h
  unfold rowS
  by_cases hr : 0 ≤ r ∧ r < T.length
  · obtain ⟨k, rfl⟩ := Int.eq_ofNat_of_zero_le hr.1
    obtain ⟨ns, hns⟩ : ∃ ns, T[k]? = some ns := ⟨_, List.getElem?_eq_getElem (by omega)⟩
    rw [if_pos hr.1, Int.toNat_natCast, strip_get, hns]
    exact all_some hA k ns hns
  · have := all_none w _ _ (fun w1 h1 => wide_at (hA.below h1)) r hr
    by_cases h0 : 0 ≤ r
    · rw [if_pos h0, strip_get, List.getElem?_eq_none (by omega)]
      exact this
    · rw [if_neg h0]
      exact this

theorem rowS_len (S : List (List Int)) (r : Int) : (rowS r S).length ≤ S.flatten.length := by
  unfold rowS
  by_cases h0 : 0 ≤ r
  · rw [if_pos h0]
    cases hS : S[r.toNat]? with
    | none => simp
    | some l =>
      obtain ⟨S1, S2, rfl, _⟩ := at_split hS
      simp
      omega
  · rw [if_neg h0]
    simp

theorem list_is (h : Is w b S O) (r most : Int) : Calls Try.prog 30 #[.pointer (some ⟨b, 0, none⟩), .int .i64 r, .int .i64 most] w (Listed w (cutM most (rowS r S))) :=
  list_of w _ r most _ (Nat.le_trans (rowS_len S r) h.max) (tells_is (h.below ((Below.refl _ _).alloc (Nat.le_refl _) _)) r)
end

theorem LiveR.list {w0 w : World} {b : Nat} {S : List (List Int)} {R : List Nat} (h : LiveR w0 w b S R) (r most : Int) : Calls Try.prog 30 #[.pointer (some ⟨b, 0, none⟩), .int .i64 r, .int .i64 most] w (Listed w (cutM most (rowS r S))) := by
  obtain ⟨O, hI, hO, hB, hR⟩ := h
  exact list_is hI r most

theorem LiveR.max {w0 w : World} {b : Nat} {S : List (List Int)} {R : List Nat} (h : LiveR w0 w b S R) : S.flatten.length ≤ 4096 := by
  obtain ⟨O, hI, hO, hB, hR⟩ := h
  exact hI.max
end Go.Proofs.Ytnjpdcoahojgbaa.RInt
