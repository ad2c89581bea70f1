/- The document's layer 4: Place and Look by letters; table. -/
import Derived.Test.YtomkhdefjfjlnaaWLeafs
namespace Go.Proofs.Ytomkhdefjfjlnaa
open Go.ChangeShapes Go.WideShapes Go.ChangeAt Go.RowKit Go.Deep
set_option linter.unusedVariables false

section
variable {w0 w w' : World} {r f n : Nat} {R : List Nat} {L : List UInt8}

theorem ref_place2 (h : RS w0 w r f n R L) (root v : Int) :
    Calls Try.prog 14 #[.pointer (some ⟨r, 0, none⟩), .int .i64 root, .int .i64 v] w fun e w' => (∃ x y : Int, e = .returned (.tuple #[.int .i64 x, .int .i64 y, .bool (hasPlace n L root v)])) ∧ w.grownBy w' none := by
  refine (ref_place h root v).mono fun e w' ⟨he, hg⟩ => ⟨?_, hg⟩
  rw [he]
  unfold hasPlace
  cases placeOf n L root v with
  | none => exact ⟨0, 0, rfl⟩
  | some g => exact ⟨_, _, rfl⟩

theorem ref_look2 (h : RS w0 w r f n R L) (root v : Int) :
    Calls Try.prog 16 #[.pointer (some ⟨r, 0, none⟩), .int .i64 root, .int .i64 v] w fun e w' => (∃ b, e = .returned (.tuple #[.agg #[.int .i64 (lookF n L root v), .int .i64 (lookP n L root v)], .bool b])) ∧ w.grownBy w' none := by
  refine (ref_look h root v).mono fun e w' ⟨he, hg⟩ => ⟨?_, hg⟩
  rw [he]
  unfold lookF lookP
  cases placeOf n L root v with
  | none => exact ⟨false, rfl⟩
  | some g => exact ⟨true, rfl⟩

set_option maxHeartbeats 1000000 in
theorem ref_table (h : RS w0 w r f n R L) (root i : Int) :
    Calls Try.prog 46 #[.pointer (some ⟨r, 0, none⟩), .int .i64 root, .int .i64 i] w fun e w' => e = .returned (.bool (isTable n L root i)) ∧ w.grownBy w' none := by
  have HW := Lib.hid (rword_at h root i)
  have HS := Lib.hid h
  have hx := wordI_ok n L root i
  have hT : isTable n L root i = ((wordV n L root i).2 && decide (kindOf (flagOf (wordI n L root i)) = 1) && decide (0 ≤ ppnOf (wordI n L root i) ∧ ppnOf (wordI n L root i) < n)) := rfl
  rw [hT]
  clear h hT
  generalize (wordV n L root i).2 = ok at *
  generalize wordI n L root i = X at *
  have HDc := Lib.hid (ref_decode_ok X hx)
  have HK0 := ref_kind_ok (flagOf X) (ppnOf X)
  clear hx
  generalize flagOf X = A at *
  generalize ppnOf X = B at *
  cases ok
  · go_enter Try.func46, Try.ntmps46
    go_wp2_with fail
    refine HW.out.mono ?_
    rintro e w' ⟨rfl, rfl⟩
    go_wp2_with fail
    refine (HDc.out _).mono ?_
    rintro e w2 ⟨rfl, h2⟩
    have HG := Lib.hid (grown_trans (grown_of_below' h2) (World.grownBy_alloc w2 (.cells #[.int .i64 A, .int .i64 B] 40) none))
    clear h2
    go_wp2_with fail
    go_ret
    exact ⟨rfl, HG.out⟩
  · by_cases hk : kindOf A = 1
    · rw [hk] at HK0
      have hd : decide (kindOf A = 1) = true := by simp [hk]
      rw [hd, Bool.true_and, Bool.true_and]
      have HK := Lib.hid HK0
      clear hk hd HK0
      obtain ⟨b, hb⟩ : ∃ b, decide (0 ≤ B ∧ B < (n : Int)) = b := ⟨_, rfl⟩
      rw [hb]
      have HB := Lib.hid hb
      clear hb
      go_enter Try.func46, Try.ntmps46
      go_wp2_with fail
      refine HW.out.mono ?_
      rintro e w' ⟨rfl, rfl⟩
      go_wp2_with fail
      refine (HDc.out _).mono ?_
      rintro e w2 ⟨rfl, h2⟩
      have HG := Lib.hid (grown_trans (grown_of_below' h2) (World.grownBy_alloc w2 (.cells #[.int .i64 A, .int .i64 B] 40) none))
      have HY := Lib.hid (show EntB (w2.alloc (.cells #[.int .i64 A, .int .i64 B] 40)) w2.heap.size A B from heap_alloc_new w2 _)
      clear h2
      go_wp2_with fail
      refine (HK.out _).mono ?_
      rintro e w3 ⟨rfl, h3⟩
      have HG3 := Lib.hid (grown_trans HG.out (grown_of_below' h3))
      have HY3 := Lib.hid (HY.out.grow (grown_of_below' h3))
      have hc1 := HY3.out.at.2
      clear h3
      go_wp2_with fail
      refine (is_any (HS.out.grow HG3.out) B b HB.out).mono ?_
      rintro e w' ⟨rfl, rfl⟩
      go_wp2_with fail
      go_ret
      exact ⟨rfl, HG3.out⟩
    · have e0 : (kindOf A == 1) = false := by simp [hk]
      have hd : decide (kindOf A = 1) = false := by simp [hk]
      rw [hd, Bool.true_and, Bool.false_and]
      have HK := Lib.hid HK0
      clear hk hd HK0
      generalize kindOf A = kd at *
      go_enter Try.func46, Try.ntmps46
      go_wp2_with fail
      refine HW.out.mono ?_
      rintro e w' ⟨rfl, rfl⟩
      go_wp2_with fail
      refine (HDc.out _).mono ?_
      rintro e w2 ⟨rfl, h2⟩
      have HG := Lib.hid (grown_trans (grown_of_below' h2) (World.grownBy_alloc w2 (.cells #[.int .i64 A, .int .i64 B] 40) none))
      clear h2
      go_wp2_with fail
      refine (HK.out _).mono ?_
      rintro e w3 ⟨rfl, h3⟩
      have HG3 := Lib.hid (grown_trans HG.out (grown_of_below' h3))
      clear h3
      go_wp2_with fail
      go_ret
      exact ⟨rfl, HG3.out⟩
end
end Go.Proofs.Ytomkhdefjfjlnaa
