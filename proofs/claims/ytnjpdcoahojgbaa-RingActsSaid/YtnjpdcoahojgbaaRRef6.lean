/- The document's own rows: Turn, New. -/
import Derived.Test.YtnjpdcoahojgbaaRRef5
namespace Go.Proofs.Ytnjpdcoahojgbaa.RInt
open Go.ChangeShapes Go.WideShapes Go.ChangeAt Go.RowKit Go.Deep
set_option linter.unusedVariables false

theorem turn_push {S : List (List Int)} (hS : S.flatten.Nodup) {row : Int} {x : Int} {t : List Int} (h : rowS row S = x :: t) : turnS row S = pushS row x S ∧ fits row x S := by
  unfold rowS at h
  by_cases h0 : 0 ≤ row
  · rw [if_pos h0] at h
    cases hr : S[row.toNat]? with
    | none => rw [hr] at h; cases h
    | some l =>
      rw [hr] at h
      have hl : l = x :: t := h
      subst hl
      have hil := (List.getElem?_eq_some_iff.1 hr).1
      have hnd : (x :: t).Nodup := by
        obtain ⟨S1, S2, e, h1⟩ := at_split hr
        subst e
        rw [List.flatten_append, List.flatten_cons, List.nodup_append] at hS
        exact (List.nodup_append.1 hS.2.1).1
      have hf : fits row x S := ⟨h0, by omega, .inl (mem_flat_of hr (by simp))⟩
      refine ⟨?_, hf⟩
      have e1 : (S.set row.toNat t)[row.toNat]? = some t := List.getElem?_set_self hil
      unfold turnS pushS
      rw [if_pos h0, if_pos hf, modify_is _ hr, rmv_set hS hr (by simp), sieve_head hnd, modify_is _ e1, List.set_set]
  · rw [if_neg h0] at h
    cases h

theorem turn_nil {S : List (List Int)} {row : Int} (h : rowS row S = []) : turnS row S = S := by
  unfold rowS at h
  unfold turnS
  by_cases h0 : 0 ≤ row
  · rw [if_pos h0] at h ⊢
    refine List.ext_getElem? fun j => ?_
    rw [List.getElem?_modify]
    by_cases hij : row.toNat = j
    · subst hij
      cases hr : S[row.toNat]? with
      | none => rfl
      | some l =>
        rw [hr] at h
        have hl : l = [] := h
        subst hl
        simp
    · simp [hij]
  · rw [if_neg h0]

section
variable {w w' : World} {base r T : Nat} {S : List (List Int)} {vs : List Value}

theorem ref_turn (h : RefIs w base r T S vs) (hS : S.flatten.Nodup) (row : Int) :
    Calls Try.prog 22 #[.pointer (some ⟨r, 0, none⟩), .int .i64 row] w (RefNow w base r T vs (turnS row S) (.bool (!(rowS row S).isEmpty))) := by
  have HR := Lib.hid h
  have HS := Lib.hid hS
  have HF := Lib.hid (ref_first h row)
  clear h hS
  cases hl : rowS row S with
  | nil =>
    rw [hl] at HF
    have HN := Lib.hid (turn_nil hl)
    clear hl
    unfold firstV at HF
    go_enter Try.func22, Try.ntmps22
    go_wp2_with fail
    refine (HF.out.mono ?_)
    rintro e w1 ⟨rfl, rfl⟩
    go_wp2
    go_ret
    rw [HN.out]
    exact RefNow.same HR.out _
  | cons x t =>
    rw [hl] at HF
    have HN := Lib.hid (turn_push HS.out hl)
    clear hl
    unfold firstV at HF
    go_enter Try.func22, Try.ntmps22
    go_wp2_with fail
    refine (HF.out.mono ?_)
    rintro e w1 ⟨rfl, rfl⟩
    go_wp2_with fail
    refine ((ref_push HR.out HS.out row x).mono ?_)
    rw [decide_eq_true HN.out.2]
    rintro e w1 ⟨rfl, vs', h1, h2, h3⟩
    have H1 := Lib.hid h1
    have H2 := Lib.hid h2
    have H3 := Lib.hid h3
    clear h1 h2 h3
    go_wp2
    go_ret
    rw [HN.out.1]
    exact ⟨rfl, vs', H1.out, H2.out, H3.out⟩
end

theorem ref_new_no (n : Int) (w : World) (h : ¬ (1 ≤ n ∧ n ≤ 64)) :
    Calls Try.prog 11 #[.int .i64 n] w fun e w' => e = .returned (.pointer none) ∧ w = w' := by
  by_cases h0 : n < 1
  · go_enter Try.func11, Try.ntmps11
    go_wp2
    go_ret
    exact ⟨rfl, rfl⟩
  · have hd : decide (n < 1) = false := by simpa using h0
    have hd2 : 64 < n := by omega
    clear h
    go_enter Try.func11, Try.ntmps11
    go_wp2
    go_ret
    exact ⟨rfl, rfl⟩

theorem info_ints : (Try.prog.info? 34).map (fun i => (i.zero, i.size, i.bytes)) = some (some (.slice none 0 0), 1, 24) := by kernel_rfl

theorem made_nils (m : Nat) : madeCells #[Value.slice none 0 0] m = (List.replicate m (Value.slice none 0 0)).toArray := by
  apply Array.ext
  · simp [madeCells]
  · intro i h1 h2
    simp [madeCells, Nat.mod_one]

theorem ref_new (m : Nat) (w : World) (h1 : 1 ≤ m) (h2 : m ≤ 64) :
    Calls Try.prog 11 #[.int .i64 m] w fun e w' => ∃ r T, e = .returned (.pointer (some ⟨r, 0, none⟩)) ∧ RefIs w' w.heap.size r T (List.replicate m []) (List.replicate m (.slice none 0 0)) ∧ Below w.heap.size w w' := by
  have hmk : (Instr.makeSlice 62 (.int .i64 (m : Int)) (.int .i64 (m : Int))).run Try.prog w = .ok (.slice (some ⟨w.heap.size, 0, none⟩) m m) (w.alloc (.cells (List.replicate m (Value.slice none 0 0)).toArray 34)) := by
    obtain ⟨i0, hi, hz0, hz1, hz2⟩ := info_parts info_ints
    have hr := run_make (P := Try.prog) w 62 34 i0 _ Try.underlying62 hi hz0 .i64 .i64 (m : Int) (m : Int) (by omega) (by omega) (by rw [hz2]; omega) (by omega)
    rw [hr, Int.toNat_natCast, hz1, Nat.mul_one]
    simp only [Value.cells]
    rw [made_nils]
  obtain ⟨X, hX⟩ : ∃ X, X = List.replicate m (Value.slice none 0 0) := ⟨_, rfl⟩
  have HX := Lib.hid hX
  rw [← hX] at hmk
  clear hX
  have hd : decide ((m : Int) < 1) = false := by simp; omega
  have hd2 : decide ((m : Int) > 64) = false := by simp; omega
  go_enter Try.func11, Try.ntmps11
  go_wp2
  go_ret
  have hb := (((Below.refl _ w).alloc (Nat.le_refl _) (.cells X.toArray 34)).alloc (by simp) (.cells #[.slice (some ⟨w.heap.size, 0, none⟩) m m] 64))
  refine ⟨w.heap.size + 1, w.heap.size, rfl, ?_, hb⟩
  have e1 := heap_alloc_new (w.alloc (.cells X.toArray 34)) (.cells #[.slice (some ⟨w.heap.size, 0, none⟩) m m] 64)
  rw [World.size_alloc] at e1
  have e2 : ((w.alloc (.cells X.toArray 34)).alloc (.cells #[.slice (some ⟨w.heap.size, 0, none⟩) m m] 64)).heap[w.heap.size]? = some (.cells X.toArray 34 (0, 0)) :=
    (Below.heap_alloc (w.alloc (.cells X.toArray 34)) _ _ (by simp)).trans (heap_alloc_new w _)
  rw [← HX.out]
  refine ⟨by rw [List.length_replicate]; exact e1, e2, by rw [HX.out]; simp, fun i l hi => ?_, by omega, by omega, by simp, by simpa using h2⟩
  have hl : l = [] := by
    have := List.mem_of_getElem? hi
    exact List.eq_of_mem_replicate this
  have him : i < m := by simpa using (List.getElem?_eq_some_iff.1 hi).1
  subst hl
  exact ⟨.slice none 0 0, by rw [HX.out]; simp [him], Nums.nil _ _⟩
end Go.Proofs.Ytnjpdcoahojgbaa.RInt
