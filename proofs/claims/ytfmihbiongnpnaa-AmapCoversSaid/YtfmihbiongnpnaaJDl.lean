/- Package spread (landed): counts that no call made; all that is shown of the package. -/
import Derived.Test.YtfmihbiongnpnaaJDj
namespace Go.Proofs.Ytfmihbiongnpnaa
open Go.ChangeShapes Go.WideShapes Go.ChangeAt Go.RowKit Go.Deep
set_option linter.unusedVariables false

/-- No counts: nil, or a zero value. -/
def NS (w : World) (v : Value) : Prop := v = .pointer none ∨ ∃ p, v = .pointer (some ⟨p, 0, none⟩) ∧ w.heap[p]? = some (.cells #[.bool false, .slice none 0 0] 98 (0, 0))
section
variable {w w' : World} {v : Value}
theorem NS.kept (h : NS w v) (g : w.grownBy w' none) : NS w' v := by
  rcases h with rfl | ⟨p, rfl, hp⟩
  · exact .inl rfl
  · exact .inr ⟨p, rfl, (g.block p (Array.getElem?_eq_some_iff.1 hp).1 (by simp)).trans hp⟩
theorem no_there (h : NS w v) : Calls Try.prog 56 #[v] w fun e w' => e = .returned (.bool false) ∧ w' = w := by
  rcases h with rfl | ⟨p, rfl, hp⟩
  · go_enter Try.func56, Try.ntmps56
    go_wp2_with fail
    go_ret
    exact ⟨rfl, rfl⟩
  · have c0 : w.cell? ⟨p, 0, none⟩ = some (.bool false) := by rw [cell_of_row _ _ _ _ _ _ hp]; rfl
    have hq := neq_ptr_nil
    clear hp
    go_enter Try.func56, Try.ntmps56
    go_wp2_with fail
    go_ret
    exact ⟨rfl, rfl⟩
theorem no_all (h : NS w v) : Calls Try.prog 52 #[v] w fun e w' => e = .returned (.slice none 0 0) ∧ w' = w := by
  rcases h with rfl | ⟨p, rfl, hp⟩
  · go_enter Try.func52, Try.ntmps52
    go_wp2_with fail
    go_ret
    exact ⟨rfl, rfl⟩
  · have c1 : w.cell? ⟨p, 1, none⟩ = some (.slice none 0 0) := by rw [cell_of_row _ _ _ _ _ _ hp]; rfl
    have hq := eql_ptr_nil
    clear hp
    go_enter Try.func52, Try.ntmps52
    go_wp2_with fail
    go_ret
    exact ⟨rfl, rfl⟩
theorem no_len (h : NS w v) : Calls Try.prog 43 #[v] w fun e w' => e = .returned (.int .i64 0) ∧ w' = w := by
  have HA := Lib.hid (no_all h)
  clear h
  go_enter Try.func43, Try.ntmps43
  go_wp2_with fail
  refine HA.out.mono ?_
  rintro e w2 ⟨rfl, e2⟩
  subst w2
  go_wp2_with fail
  go_ret
  exact ⟨rfl, rfl⟩
theorem no_add (h : NS w v) (lo hi by_ : Int) : Calls Try.prog 48 #[v, .int .i64 lo, .int .i64 hi, .int .i64 by_] w fun e w' => ∃ a c, e = .returned (.tuple #[.slice a 0 c, .int .i64 1]) ∧ w.grownBy w' none := by
  have HT := Lib.hid (no_there h)
  clear h
  go_enter Try.func48, Try.ntmps48
  go_wp2_with fail
  refine HT.out.mono ?_
  rintro e w2 ⟨rfl, e2⟩
  subst w2
  go_wp2_with fail
  go_ret2
  exact ⟨_, _, rfl, grown_refl _ _⟩
theorem no_at (h : NS w v) (i : Int) (hi : okI i) : Calls Try.prog 37 #[v, .int .i64 i] w fun e w' => e = .returned (.int .i64 (-1)) ∧ w.grownBy w' none := by
  have HL := Lib.hid (no_len h)
  clear h
  rcases (show i < 0 ∨ (¬ i < 0 ∧ i ≥ 0) by omega) with d0 | ⟨d0, d1⟩
  · go_enter Try.func37, Try.ntmps37
    go_wp2_with fail
    go_ret
    exact ⟨rfl, grown_refl _ _⟩
  · have d2 : decide (i ≥ 0) = true := decide_eq_true d1
    have d3 : decide (i < 0) = false := decide_eq_false d0
    clear d0 d1 hi
    go_enter Try.func37, Try.ntmps37
    go_wp2_with fail
    refine HL.out.mono ?_
    rintro e w2 ⟨rfl, e2⟩
    subst w2
    go_wp2_with fail
    go_ret
    exact ⟨rfl, grown_refl _ _⟩
theorem no_runs (h : NS w v) : Calls Try.prog 64 #[v] w fun e w' => ∃ a c, e = .returned (.slice a 0 c) ∧ w.grownBy w' none := by
  have HA := Lib.hid (no_all h)
  have HC := Lib.hid (clone_ok (RunsC.nil w) (by simp))
  clear h
  go_enter Try.func64, Try.ntmps64
  go_wp2_with fail
  refine HA.out.mono ?_
  rintro e w2 ⟨rfl, e2⟩
  subst w2
  go_wp2_with fail
  refine HC.out.mono ?_
  rintro e w2 ⟨u, rfl, hu, ho, g2⟩
  obtain ⟨a2, c2, hv, -⟩ := hu.slice
  have HG := Lib.hid g2
  subst hv
  clear hu ho g2
  go_wp2_with fail
  go_ret
  exact ⟨_, _, rfl, HG.out⟩
theorem NS.form (h : NS w v) : ∃ a, v = .pointer a := by
  rcases h with rfl | ⟨p, rfl, _⟩
  · exact ⟨_, rfl⟩
  · exact ⟨_, rfl⟩
theorem no_sum (h : NS w v) : Calls Try.prog 41 #[v] w fun e w' => e = .returned (.int .i64 0) ∧ w.grownBy w' none := by
  have hA := fun W (g : w.grownBy W none) => no_all (h.kept g)
  obtain ⟨a, rfl⟩ := h.form
  exact sum_of (R := []) hA (RunsC.nil w) (by simp) (fun r hr => by cases hr)
end
theorem noneOk11 : NoneOk11 NS where
  form := NS.form
  nil := fun w => .inl rfl
  kept := fun h g => h.kept g
  add := fun h => no_add h
  len := fun h => (no_len h).mono fun e w' k => ⟨k.1, by rw [k.2]; exact grown_refl _ _⟩
  sum := fun h => no_sum h
  at_ := fun h => no_at h
  runs := fun h => no_runs h
theorem counts_zero (w : World) : NS (w.alloc (.cells #[.bool false, .slice none 0 0] 98)) (.pointer (some ⟨w.heap.size, 0, none⟩)) := .inr ⟨_, rfl, heap_alloc_new w _⟩
theorem spOk : SpOk DS where
  toStOk := dsOk
  new := fun k w hk => sp_new k w hk
  newNo := fun n w h => sp_new_no n w h
  len := fun ⟨v, h, e⟩ hk => (sp_len h hk).mono fun e w' k => ⟨k.1, by rw [k.2]; exact grown_refl _ _⟩
  at_ := fun ⟨v, h, e⟩ hk i hi => sp_at h hk i hi
  add := fun ⟨v, h, e⟩ hk lo hi by_ h0 h1 h2 => by subst e; exact sp_add h hk lo hi by_ h0 h1 h2
  runs := fun ⟨v, h, e⟩ hk => sp_runs h hk
  sum := fun ⟨v, h, e⟩ hk => sp_sum h hk
end Go.Proofs.Ytfmihbiongnpnaa
