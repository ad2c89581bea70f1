/- The document's own rows: may, All, First, and what a store into their table leaves. -/
import Derived.Test.YtnjpdcoahojgbaaRRef1
namespace Go.Proofs.Ytnjpdcoahojgbaa.RInt
open Go.ChangeShapes Go.WideShapes Go.ChangeAt Go.RowKit Go.Deep
set_option linter.unusedVariables false

/-- Where one stands: the first row that has it. -/
theorem where_form (x : Int) (S : List (List Int)) : ∃ i : Nat, whereV x S = .tuple #[.int .i64 i, .bool (decide (x ∈ S.flatten))] ∧ (x ∈ S.flatten → ∃ l, S[i]? = some l ∧ x ∈ l) := by
  by_cases hx : x ∈ S.flatten
  · cases h : S.findIdx? (fun l => decide (x ∈ l)) with
    | none =>
      rw [List.findIdx?_eq_none_iff] at h
      obtain ⟨l, hl, hxl⟩ := List.mem_flatten.1 hx
      have := h l hl
      simp [hxl] at this
    | some i =>
      obtain ⟨hi, hp, _⟩ := List.findIdx?_eq_some_iff_getElem.1 h
      refine ⟨i, by unfold whereV; rw [h, decide_eq_true hx], fun _ => ⟨S[i], List.getElem?_eq_getElem hi, by simpa using hp⟩⟩
  · exact ⟨0, by rw [findIdx_none hx, decide_eq_false hx]; rfl, fun h => absurd h hx⟩

section
variable {w w' : World} {base r T : Nat} {S : List (List Int)} {vs : List Value}

theorem ref_may (h : RefIs w base r T S vs) (row x : Int) :
    Calls Try.prog 42 #[.pointer (some ⟨r, 0, none⟩), .int .i64 row, .int .i64 x] w fun e w' => e = .returned (.bool (decide (fits row x S))) ∧ w = w' := by
  have HR := Lib.hid h
  obtain ⟨i, hw, _⟩ := where_form x S
  have HW := Lib.hid hw
  clear h hw
  go_enter Try.func42, Try.ntmps42
  go_wp2_with fail
  refine ((ref_where HR.out x).mono ?_)
  rw [HW.out]
  by_cases hx : x ∈ S.flatten
  · rw [decide_eq_true hx]
    have HX := Lib.hid hx
    clear hx
    rintro e w1 ⟨rfl, rfl⟩
    go_wp2_with fail
    refine ((ref_is HR.out row).mono ?_)
    by_cases hr : 0 ≤ row ∧ row < S.length
    · rw [decide_eq_true hr]
      have HD := Lib.hid (show decide (fits row x S) = true from decide_eq_true ⟨hr.1, hr.2, .inl HX.out⟩)
      clear hr
      rintro e w1 ⟨rfl, rfl⟩
      go_wp2
      go_ret
      exact ⟨by rw [HD.out]; rfl, rfl⟩
    · rw [decide_eq_false hr]
      have HD := Lib.hid (show decide (fits row x S) = false from decide_eq_false fun hf => hr ⟨hf.1, hf.2.1⟩)
      clear hr
      rintro e w1 ⟨rfl, rfl⟩
      go_wp2
      go_ret
      exact ⟨by rw [HD.out]; rfl, rfl⟩
  · rw [decide_eq_false hx]
    have HX := Lib.hid hx
    clear hx
    rintro e w1 ⟨rfl, rfl⟩
    go_wp2_with fail
    refine ((ref_is HR.out row).mono ?_)
    by_cases hr : 0 ≤ row ∧ row < S.length
    · rw [decide_eq_true hr]
      have HD := Lib.hid hr
      clear hr
      rintro e w1 ⟨rfl, rfl⟩
      go_wp2_with fail
      refine ((ref_total HR.out).mono ?_)
      rintro e w1 ⟨rfl, rfl⟩
      by_cases ht : S.flatten.length < 4096
      · have hb : decide ((S.flatten.length : Int) < 4096) = true := by simp only [decide_eq_true_eq]; omega
        have HF := Lib.hid (show decide (fits row x S) = true from decide_eq_true ⟨HD.out.1, HD.out.2, .inr ht⟩)
        generalize S.flatten.length = tl at *
        go_wp2
        go_ret
        exact ⟨by rw [HF.out]; rfl, rfl⟩
      · have hb : decide ((S.flatten.length : Int) < 4096) = false := by simp only [decide_eq_false_iff_not]; omega
        have HF := Lib.hid (show decide (fits row x S) = false from decide_eq_false fun hf => by rcases hf.2.2 with q | q; exact HX.out q; exact ht q)
        generalize S.flatten.length = tl at *
        go_wp2
        go_ret
        exact ⟨by rw [HF.out]; rfl, rfl⟩
    · rw [decide_eq_false hr]
      have HD := Lib.hid (show decide (fits row x S) = false from decide_eq_false fun hf => hr ⟨hf.1, hf.2.1⟩)
      clear hr
      rintro e w1 ⟨rfl, rfl⟩
      go_wp2
      go_ret
      exact ⟨by rw [HD.out]; rfl, rfl⟩

/-- All: the row's own slice. -/
theorem ref_all (h : RefIs w base r T S vs) (row : Int) :
    Calls Try.prog 27 #[.pointer (some ⟨r, 0, none⟩), .int .i64 row] w fun e w' => (∃ v, e = .returned v ∧ Nums w base v (rowS row S) ∧ ∀ g, v.ownBlock = some g → g ∈ blocks vs) ∧ w = w' := by
  have HR := Lib.hid h
  have hc := h.cell
  clear h
  by_cases hr : 0 ≤ row ∧ row < S.length
  · obtain ⟨i, rfl⟩ := Int.eq_ofNat_of_zero_le hr.1
    have hi : i < S.length := by omega
    obtain ⟨v, hv, hn⟩ := HR.out.row i _ (List.getElem?_eq_getElem hi)
    have hrow : rowS (i : Int) S = S[i] := rowS_of (List.getElem?_eq_getElem hi)
    have hat : w.cell? ⟨T, i, none⟩ = some v := by rw [cell_of_row _ _ _ _ _ _ HR.out.tab]; simpa using hv
    have HB := Lib.hid (show ∀ g, v.ownBlock = some g → g ∈ blocks vs from fun g hg => mem_blocks.2 ⟨v, List.mem_of_getElem? hv, hg⟩)
    have HN := Lib.hid (show Nums w base v (rowS (i : Int) S) by rw [hrow]; exact hn)
    clear hv hn hrow hr
    go_enter Try.func27, Try.ntmps27
    go_wp2_with fail
    refine ((ref_is HR.out (i : Int)).mono ?_)
    rw [decide_eq_true (show 0 ≤ (i : Int) ∧ (i : Int) < S.length by omega)]
    rintro e w1 ⟨rfl, rfl⟩
    go_wp2
    go_ret
    exact ⟨⟨v, rfl, HN.out, HB.out⟩, rfl⟩
  · have hrow : rowS row S = [] := by
      unfold rowS
      by_cases h0 : 0 ≤ row
      · rw [if_pos h0, List.getElem?_eq_none (by omega)]
        rfl
      · rw [if_neg h0]
    have HROW := Lib.hid hrow
    have HD := Lib.hid hr
    clear hrow hr
    go_enter Try.func27, Try.ntmps27
    go_wp2_with fail
    refine ((ref_is HR.out row).mono ?_)
    rw [decide_eq_false HD.out]
    rintro e w1 ⟨rfl, rfl⟩
    go_wp2
    go_ret
    exact ⟨⟨_, rfl, by rw [HROW.out]; exact Nums.nil _ _, fun g hg => by simp [Value.ownBlock] at hg⟩, rfl⟩

theorem ref_first (h : RefIs w base r T S vs) (row : Int) :
    Calls Try.prog 26 #[.pointer (some ⟨r, 0, none⟩), .int .i64 row] w fun e w' => e = .returned (firstV (rowS row S)) ∧ w = w' := by
  have HR := Lib.hid h
  clear h
  go_enter Try.func26, Try.ntmps26
  go_wp2_with fail
  refine ((ref_all HR.out row).mono ?_)
  rintro e w1 ⟨⟨v, rfl, hn, -⟩, rfl⟩
  obtain ⟨l, hl⟩ : ∃ l, rowS row S = l := ⟨_, rfl⟩
  rw [hl] at hn
  have HL := Lib.hid hl
  clear hl
  obtain ⟨a, c, rfl⟩ := hn.form
  have HN := Lib.hid hn.ints
  clear hn
  cases l with
  | nil =>
    go_wp2
    go_ret2
    exact ⟨by rw [HL.out]; rfl, rfl⟩
  | cons x l =>
    obtain ⟨g8, o8, rfl, hc8⟩ : ∃ g8 o8, a = some ⟨g8, o8, none⟩ ∧ w.cell? ⟨g8, o8, none⟩ = some (.int .i64 x) := by
      rcases HN.out.cells with h0 | ⟨g8, o8, hs, hc⟩
      · simp at h0
      · exact ⟨g8, o8, hs, by simpa using hc 0 x rfl⟩
    have hgt : decide (((x :: l).length : Int) > 0) = true := by simp
    go_wp2
    go_ret2
    exact ⟨by rw [HL.out]; rfl, rfl⟩

/-- What a change leaves: the document's answer, their own table turned, all else as it was. -/
def RefNow (w : World) (base r T : Nat) (vs : List Value) (S' : List (List Int)) (v : Value) (e : Ending) (w' : World) : Prop :=
  e = .returned v ∧ ∃ vs', RefIs w' base r T S' vs' ∧ Kept [T] w w' ∧ ∀ g, g ∈ blocks vs' → g ∈ blocks vs ∨ w.heap.size ≤ g

theorem nums_type {v : Value} {xs : List Int} (h : Nums w base v xs) {g : Nat} (hg : v.ownBlock = some g) : ∃ cur, w.heap[g]? = some (.cells cur 3 (0, 0)) := by
  rcases h.2 with ⟨rfl, _⟩ | ⟨g', cap, cur, rfl, _, hgb, _⟩
  · simp [Value.ownBlock] at hg
  · simp [Value.ownBlock] at hg
    subst hg
    exact ⟨cur, hgb⟩

theorem RefIs.notT (h : RefIs w base r T S vs) {v : Value} {xs : List Int} (hn : Nums w base v xs) : v.ownBlock ≠ some T := by
  intro e
  obtain ⟨cur, hc⟩ := nums_type hn e
  rw [h.tab] at hc
  simp only [Option.some.injEq, Obj.cells.injEq] at hc
  exact absurd hc.2.1 (by decide)

/-- A row stored. -/
theorem RefIs.put (h : RefIs w base r T S vs) {i : Nat} (hi : i < S.length) {v : Value} {l : List Int} (hn : Nums w base v l) (hm : (S.set i l).flatten.length ≤ 4096) : RefIs (w.setCell ⟨T, i, none⟩ v) base r T (S.set i l) (vs.set i v) := by
  have hk : Kept [T] w (w.setCell ⟨T, i, none⟩ v) := (Kept.refl _ _).setCell (by simp) v
  have hkn : ∀ {u : Value} {xs : List Int}, Nums w base u xs → Nums (w.setCell ⟨T, i, none⟩ v) base u xs := fun {u xs} hu => hu.kept fun g hg => hk.block g (hu.lt hg).2 (by
    simp only [List.mem_singleton]
    rintro rfl
    exact h.notT hu hg)
  refine ⟨(hk.block r h.rlt (by simp only [List.mem_singleton]; exact h.ne)).trans (by rw [List.length_set]; exact h.box), ?_, by simp [h.len], fun j m hj => ?_, h.rge, h.tge, hm, by rw [List.length_set]; exact h.le⟩
  · have := heap_setCell_same w T i vs.toArray _ v h.tab
    rw [this]
    simp
  · by_cases hij : i = j
    · subst hij
      rw [List.getElem?_set_self hi] at hj
      cases hj
      exact ⟨v, by rw [List.getElem?_set_self (by rw [h.len]; exact hi)], hkn hn⟩
    · rw [List.getElem?_set_ne hij] at hj
      obtain ⟨u, hu, hun⟩ := h.row j m hj
      exact ⟨u, by rw [List.getElem?_set_ne hij]; exact hu, hkn hun⟩

theorem blocks_set {i : Nat} {v : Value} {g : Nat} (hg : g ∈ blocks (vs.set i v)) : g ∈ blocks vs ∨ v.ownBlock = some g := by
  obtain ⟨u, hu, hb⟩ := mem_blocks.1 hg
  rcases List.mem_or_eq_of_mem_set hu with q | rfl
  · exact .inl (mem_blocks.2 ⟨u, q, hb⟩)
  · exact .inr hb
end
end Go.Proofs.Ytnjpdcoahojgbaa.RInt
