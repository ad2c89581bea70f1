/- Package spread (landed): parts of rows of runs; what cut appends. -/
import Derived.Test.YtfmihbiongnpnaaJDd
import Derived.ArgAppend
import Derived.Deep.Upon
namespace Go.Proofs.Ytfmihbiongnpnaa
open Go.ChangeShapes Go.WideShapes Go.ChangeAt Go.RowKit Go.Deep
set_option linter.unusedVariables false

theorem flat_dropn {α : Type} (cells : α → List Value) (size : Nat) (hsz : ∀ x, (cells x).length = size) (xs : List α) (k : Nat) (hk : k ≤ xs.length) : ((xs.drop k).flatMap cells) = (xs.flatMap cells).drop (k * size) := by
  have h : xs.flatMap cells = (xs.take k).flatMap cells ++ (xs.drop k).flatMap cells := by rw [← List.flatMap_append, List.take_append_drop]
  have hl : ((xs.take k).flatMap cells).length = k * size := by rw [flat_len cells size hsz, List.length_take, Nat.min_eq_left hk]
  rw [h, ← hl, List.drop_left]
section
variable {w w' : World} {u : Value} {R : List JR} {g o c k : Nat}
theorem RunsC.drop (h : RunsC w (.slice (some ⟨g, o, none⟩) R.length c) R) (hk : k ≤ R.length) : RunsC w (.slice (some ⟨g, o + k * 3, none⟩) (R.length - k) (c - k)) (R.drop k) := by
  have hc := h.2 _ _ _ rfl
  refine ⟨⟨by rw [flat_len runCells 3 run_len], .inr ⟨g, o + k * 3, c - k, by rw [List.length_drop], ?_, fun j v hj => ?_⟩⟩, fun a l c e => by cases e; omega⟩
  · rcases h.form with ⟨e, _⟩ | ⟨g', o', c', e, _, hg⟩
    · cases e
    · cases e; exact hg
  · rcases h.1.2 with ⟨e, _⟩ | ⟨g', o', c', e, _, hcell⟩
    · cases e
    · cases e
      rw [flat_dropn runCells 3 run_len R k hk, List.getElem?_drop] at hj
      rw [Nat.add_assoc]
      exact hcell _ v hj
theorem RunsC.take (h : RunsC w (.slice (some ⟨g, o, none⟩) R.length c) R) (hk : k ≤ R.length) : RunsC w (.slice (some ⟨g, o, none⟩) k k) (R.take k) := by
  have hl : (R.take k).length = k := by rw [List.length_take, Nat.min_eq_left hk]
  refine ⟨⟨by rw [flat_len runCells 3 run_len], .inr ⟨g, o, k, by rw [hl], ?_, fun j v hj => ?_⟩⟩, fun a l c e => by cases e; omega⟩
  · rcases h.form with ⟨e, _⟩ | ⟨g', o', c', e, _, hg⟩
    · cases e
    · cases e; exact hg
  · rcases h.1.2 with ⟨e, _⟩ | ⟨g', o', c', e, _, hcell⟩
    · cases e
    · cases e
      refine hcell j v ?_
      have h2 : R.flatMap runCells = (R.take k).flatMap runCells ++ (R.drop k).flatMap runCells := by rw [← List.flatMap_append, List.take_append_drop]
      rw [h2, List.getElem?_append_left (List.getElem?_eq_some_iff.1 hj).1]
      exact hj
theorem RunsC.blank (h : g < w.heap.size) : RunsC w (.slice (some ⟨g, o, none⟩) 0 c) [] := ⟨⟨by simp, .inr ⟨g, o, c, rfl, h, fun j v hj => by simp at hj⟩⟩, fun a l c e => by cases e; omega⟩
theorem RunsC.cells (h : RunsC w (.slice (some ⟨g, o, none⟩) k c) R) (hk : R.length = k) : ∀ (j : Nat) v, (R.flatMap runCells)[j]? = some v → w.cell? ((⟨g, o, none⟩ : Addr).add j) = some v := by
  intro j v hj
  rcases h.1.2 with ⟨e, _⟩ | ⟨g', o', c', e, _, hcell⟩
  · cases e
  · cases e
    rw [Addr.add_mid]
    exact hcell j v hj
theorem RunB.cells {y : Nat} {r : JR} (h : RunB w y r) : ∀ (j : Nat) v, (runCells r)[j]? = some v → w.cell? ((⟨y, 0, none⟩ : Addr).add j) = some v := by
  intro j v hj
  rw [Addr.add_mid, Nat.zero_add, cell_of_row _ _ _ _ _ _ h]
  simpa [runCells] using hj
/-- 'append(runs[:k:k], low)': always another row. -/
theorem low_run {y : Nat} {r : JR} (h : RunsC w (.slice (some ⟨g, o, none⟩) k k) R) (hk : R.length = k) (hl : k ≤ 4096) (hb : RunB w y r) :
    ∃ g' c' w', (∀ ty, (Builtin.append_ #[96, 96] ty #[.slice (some ⟨g, o, none⟩) k k, .slice (some ⟨y, 0, none⟩) 1 1]).run Try.prog w = .ok (.slice (some ⟨g', 0, none⟩) (k + 1) c') w') ∧
      RunsC w' (.slice (some ⟨g', 0, none⟩) (k + 1) c') (R ++ [r]) ∧ w.grownBy w' none := by
  obtain ⟨i0, hi, hz0, hz1, hz2⟩ := info_parts info_run
  obtain ⟨v', w', hr, h2, h3⟩ := run_append_arg_grows (P := Try.prog) w 96 96 95 i0 (.agg #[.int .i64 0, .int .i64 0, .int .i64 0]) 3 24 Try.underlying96 hi hz0 hz1 hz2 rfl (by decide) ⟨g, o, none⟩ k k (R.flatMap runCells) (by rw [flat_len runCells 3 run_len, hk]) (h.cells hk) ⟨y, 0, none⟩ 1 1 (runCells r) rfl hb.cells (by omega) (by unfold maxLen; omega) (by omega)
  have h2' : ROwn w' w.heap.size v' (R ++ [r]) := by
    unfold ROwn OwnOf
    simp only [List.length_append, List.length_cons, List.length_nil, List.flatMap_append, List.flatMap_cons, List.flatMap_nil, List.append_nil, hk]
    exact h2
  obtain ⟨g', c', rfl⟩ := OwnOf.there h2' (by simp)
  have e : (R ++ [r]).length = k + 1 := by simp [hk]
  rw [e] at h2' hr
  exact ⟨g', c', w', fun _ => hr, ROwn.runs h2', h3⟩
/-- 'append([]Run{high}, runs[k+1:]...)'. -/
theorem high_run {y m : Nat} {r : JR} (h : RunsC w (.slice (some ⟨g, o, none⟩) m c) R) (hm : R.length = m) (hl : m ≤ 4096) (hb : RunB w y r) :
    ∃ g' c' w', (∀ ty, (Builtin.append_ #[96, 96] ty #[.slice (some ⟨y, 0, none⟩) 1 1, .slice (some ⟨g, o, none⟩) m c]).run Try.prog w = .ok (.slice (some ⟨g', 0, none⟩) (1 + m) c') w') ∧
      RunsC w' (.slice (some ⟨g', 0, none⟩) (1 + m) c') ([r] ++ R) ∧ w.grownBy w' none := by
  obtain ⟨i0, hi, hz0, hz1, hz2⟩ := info_parts info_run
  by_cases h0 : m = 0
  · subst h0
    have hn := List.length_eq_zero_iff.1 hm
    subst hn
    have hr := fun ty => run_append_nothing (P := Try.prog) w 96 96 ty 95 i0 Try.underlying96 hi (some ⟨y, 0, none⟩) 1 1 (Nat.le_refl _) (.slice (some ⟨g, o, none⟩) 0 c) (Src.ofSlice w Try.underlying96 ⟨g, o, none⟩ 0 c [] (by simp) (by simp) (by simp))
    refine ⟨y, 1, w, fun ty => hr ty, ⟨⟨rfl, .inr ⟨y, 0, 1, rfl, hb.lt, fun j v hj => ?_⟩⟩, fun a l c e => by cases e; omega⟩, grown_refl _ _⟩
    have := hb.cells j v (by simpa [runCells] using hj)
    rwa [Addr.add_mid] at this
  · obtain ⟨v', w', hr, h2, h3⟩ := run_append_arg_grows (P := Try.prog) w 96 96 95 i0 (.agg #[.int .i64 0, .int .i64 0, .int .i64 0]) 3 24 Try.underlying96 hi hz0 hz1 hz2 rfl (by decide) ⟨y, 0, none⟩ 1 1 (runCells r) rfl hb.cells ⟨g, o, none⟩ m c (R.flatMap runCells) (by rw [flat_len runCells 3 run_len, hm]) (h.cells hm) (by omega) (by unfold maxLen; omega) (by omega)
    have h2' : ROwn w' w.heap.size v' ([r] ++ R) := by
      unfold ROwn OwnOf
      simp only [List.length_append, List.length_cons, List.length_nil, List.flatMap_append, List.flatMap_cons, List.flatMap_nil, List.append_nil, hm, Nat.zero_add]
      exact h2
    obtain ⟨g', c', rfl⟩ := OwnOf.there h2' (by simp)
    have e : ([r] ++ R).length = 1 + m := by simp [hm]; omega
    rw [e] at h2' hr
    exact ⟨g', c', w', fun _ => hr, ROwn.runs h2', h3⟩
end
end Go.Proofs.Ytfmihbiongnpnaa
