/- Package swap (landed): a Device that no call made; all that the interfaces ask. -/
import Derived.Test.YtnfofhnjeinmfaaVDc
import Derived.Test.YtnfofhnjeinmfaaVSay

namespace Go.Proofs.Ytnfofhnjeinmfaa
open Go.ChangeShapes Go.WideShapes Go.ChangeAt Go.RowKit Go.Deep
open Extern.Stop (cell)
set_option linter.unusedVariables false

/-- Nil, or a Device of zeros. -/
def ND (w : World) (v : Value) : Prop := v = .pointer none ∨ ∃ p, v = .pointer (some ⟨p, 0, none⟩) ∧ w.heap[p]? = some devZero
section
variable {w w' : World} {v : Value} {M p n : Nat} {s : VS} {O : List Nat}
theorem eq_map9 (w : World) : (binOp .neq 56 (.map none) (.map none)).run Try.prog w = .ok (.bool false) w := by
  have h1 : ∀ d : Nat, (Op.equalIn (d + 1) 56 (.map none) (.map none)).run Try.prog w = .ok true w := fun d => by
    simp [Op.equalIn, run_underlying Try.underlying56]
  simp only [binOp]
  simp [Op.equal, Op.maxDepth, h1 9999]
theorem eq_dev9 (w : World) : (binOp .neq 25 (.pointer none) (.pointer none)).run Try.prog w = .ok (.bool false) w := by
  have h1 : ∀ d : Nat, (Op.equalIn (d + 1) 25 (.pointer none) (.pointer none)).run Try.prog w = .ok true w := fun d => by
    simp [Op.equalIn, run_underlying Try.underlying25]
  simp only [binOp]
  simp [Op.equal, Op.maxDepth, h1 9999]
theorem eqn_dev9 (w : World) : (binOp .eql 25 (.pointer none) (.pointer none)).run Try.prog w = .ok (.bool true) w := by
  have h1 : ∀ d : Nat, (Op.equalIn (d + 1) 25 (.pointer none) (.pointer none)).run Try.prog w = .ok true w := fun d => by
    simp [Op.equalIn, run_underlying Try.underlying25]
  simp only [binOp]
  simp [Op.equal, Op.maxDepth, h1 9999]
theorem nd_made (h : ND w v) : Calls Try.prog 25 #[v] w fun e w' => e = .returned (.bool false) ∧ w' = w := by
  rcases h with rfl | ⟨p, rfl, h⟩
  · have q1 := eq_dev9
    go_enter Try.func25, Try.ntmps25
    go_wp2_with fail
    go_ret
    exact ⟨rfl, rfl⟩
  · have q1 := neq_dev9
    have q2 := eq_map9
    have c1 : w.cell? ⟨p, 1, none⟩ = some (.map none) := by rw [cell_of_row _ _ _ _ _ _ h]; rfl
    clear h
    go_enter Try.func25, Try.ntmps25
    go_wp2_with fail
    go_ret
    exact ⟨rfl, rfl⟩
theorem nd_read (h : ND w v) (i : Int) : Calls Try.prog 15 #[v, .int .i64 i] w fun e w' => ∃ u, e = .returned (.tuple #[u, .int .i64 1]) ∧ w.grownBy w' none := by
  have HM := Lib.hid (nd_made h)
  clear h
  go_enter Try.func15, Try.ntmps15
  go_wp2_with fail
  refine HM.out.mono ?_
  rintro e w2 ⟨rfl, e2⟩
  subst w2
  go_wp2_with fail
  go_ret2
  exact ⟨_, rfl, grown_refl _ _⟩
theorem nd_write (h : ND w v) (i : Int) (a : Option Addr) (l c : Nat) : Calls Try.prog 12 #[v, .int .i64 i, .slice a l c] w fun e w' => e = .returned (.int .i64 1) ∧ w.grownBy w' none := by
  have HM := Lib.hid (nd_made h)
  clear h
  go_enter Try.func12, Try.ntmps12
  go_wp2_with fail
  refine HM.out.mono ?_
  rintro e w2 ⟨rfl, e2⟩
  subst w2
  go_wp2_with fail
  go_ret
  exact ⟨rfl, grown_refl _ _⟩
theorem nd_plan (h : ND w v) (b : Bool) (q : Int) : Calls Try.prog 18 #[v, .bool b, .int .i64 q] w fun e w' => e = .returned (.int .i64 1) ∧ w.grownBy w' none := by
  have HM := Lib.hid (nd_made h)
  clear h
  go_enter Try.func18, Try.ntmps18
  go_wp2_with fail
  refine HM.out.mono ?_
  rintro e w2 ⟨rfl, e2⟩
  subst w2
  go_wp2_with fail
  go_ret
  exact ⟨rfl, grown_refl _ _⟩
theorem nd_count (h : ND w v) : Calls Try.prog 20 #[v] w fun e w' => e = .returned (.tuple #[.int .i64 0, .int .i64 0]) ∧ w.grownBy w' none := by
  rcases h with rfl | ⟨p, rfl, h⟩
  · have q1 := eqn_dev9
    go_enter Try.func20, Try.ntmps20
    go_wp2_with fail
    go_ret2
    exact ⟨rfl, grown_refl _ _⟩
  · have q1 := eql_dev9
    have c2 : w.cell? ⟨p, 2, none⟩ = some (.int .i64 0) := by rw [cell_of_row _ _ _ _ _ _ h]; rfl
    have c4 : w.cell? ⟨p, 4, none⟩ = some (.int .i64 0) := by rw [cell_of_row _ _ _ _ _ _ h]; rfl
    clear h
    go_enter Try.func20, Try.ntmps20
    go_wp2_with fail
    try go_quiet (fail)
    go_wp2_with fail
    go_ret2
    exact ⟨rfl, by first | exact grown_refl _ _ | exact grown_draws _ _⟩
theorem nd_places0 (h : ND w v) : Calls Try.prog 23 #[v] w fun e w' => e = .returned (.int .i64 0) ∧ w' = w := by
  rcases h with rfl | ⟨p, rfl, h⟩
  · have q1 := eqn_dev9
    go_enter Try.func23, Try.ntmps23
    go_wp2_with fail
    go_ret
    exact ⟨rfl, rfl⟩
  · have q1 := eql_dev9
    have c0 : w.cell? ⟨p, 0, none⟩ = some (.int .i64 0) := by rw [cell_of_row _ _ _ _ _ _ h]; rfl
    clear h
    go_enter Try.func23, Try.ntmps23
    go_wp2_with fail
    go_ret
    exact ⟨rfl, rfl⟩
theorem nd_places (h : ND w v) : Calls Try.prog 23 #[v] w fun e w' => e = .returned (.int .i64 0) ∧ w.grownBy w' none :=
  (nd_places0 h).mono fun e w' he => ⟨he.1, by rw [he.2]; exact grown_refl _ _⟩
theorem nd_has (h : ND w v) (i : Int) : Calls Try.prog 26 #[v, .int .i64 i] w fun e w' => e = .returned (.bool false) ∧ w' = w := by
  have HP := Lib.hid (nd_places0 h)
  clear h
  by_cases h0 : i ≥ 0
  · have d0 : decide (i ≥ 0) = true := decide_eq_true h0
    have d1 : decide (0 ≤ i) = true := decide_eq_true h0
    have d2 : decide (i < 0) = false := decide_eq_false (by omega)
    clear h0
    go_enter Try.func26, Try.ntmps26
    go_wp2_with fail
    refine HP.out.mono ?_
    rintro e w2 ⟨rfl, e2⟩
    subst w2
    go_wp2_with fail
    go_ret
    exact ⟨rfl, rfl⟩
  · have d0 : decide (i ≥ 0) = false := decide_eq_false h0
    have d1 : decide (0 ≤ i) = false := decide_eq_false h0
    clear h0
    go_enter Try.func26, Try.ntmps26
    go_wp2_with fail
    go_ret
    exact ⟨rfl, rfl⟩
theorem nd_peek (h : ND w v) (i : Int) : Calls Try.prog 21 #[v, .int .i64 i] w fun e w' => ∃ a c, e = .returned (.slice a 0 c) ∧ w.grownBy w' none := by
  have HM := Lib.hid (nd_has h i)
  clear h
  go_enter Try.func21, Try.ntmps21
  go_wp2_with fail
  refine HM.out.mono ?_
  rintro e w2 ⟨rfl, e2⟩
  subst w2
  go_wp2_with fail
  go_ret
  exact ⟨_, _, rfl, grown_refl _ _⟩
end
theorem noneOk9 : NoneOk9 ND where
  grow h g := by
    rcases h with rfl | ⟨p, rfl, h⟩
    · exact .inl rfl
    · exact .inr ⟨p, rfl, (g.block p (Array.getElem?_eq_some_iff.1 h).1 (by simp)).trans h⟩
  nil _ := .inl rfl
  read h i := nd_read h i
  write h i a l c := nd_write h i a l c
  plan h b n := nd_plan h b n
  count h := nd_count h
  places h := nd_places h
  peek h i := nd_peek h i
theorem devZero_ok : ∀ w : World, ND (w.alloc devZero) (.pointer (some ⟨w.heap.size, 0, none⟩)) := fun w => .inr ⟨_, rfl, heap_alloc_new w _⟩

/-- A device as it stands: its own block, its map. -/
def DD (w : World) (p : Nat) (s : VS) (O : List Nat) : Prop := ∃ M n : Nat, O = [p, M] ∧ (n : Int) ≤ s.cw ∧ SD w p s M n
theorem swOk : SwOk DD where
  lt := by rintro w p s O ⟨M, n, rfl, hn, h⟩; exact h.lt
  kept := by rintro w w' p s O ⟨M, n, rfl, hn, h⟩ _ hb; exact ⟨M, n, rfl, hn, h.kept hb⟩
  new w n hn := (sw_new_ok n w hn).mono fun e w' => by
    rintro ⟨p, M, he, hs, hg, hb⟩
    exact ⟨p, [p, M], he, ⟨M, 0, rfl, Int.le_refl _, hs⟩, hg, hb⟩
  newNo w n h := sw_new_no n w h
  write := by
    rintro w p s O k ⟨M, n, rfl, hn, h⟩ hk hk2 i a l c bs _ hs hl hne
    refine (sw_write h hk hk2 hn i a l c bs hs hl fun h0 ad e => ?_).mono ?_
    · have := hne h0 ad e
      simp at this
      exact this
    · rintro e w' ⟨rfl, n', hn', h', ht⟩
      exact ⟨rfl, [p, M], ⟨M, n', rfl, hn', h'⟩, ht, fun b hb => .inl hb⟩
  read := by
    rintro w p s O k ⟨M, n, rfl, hn, h⟩ hk hk2 i _
    refine (sw_read h hk hk2 i).mono ?_
    rintro e w' ⟨u, rfl, hf, h', hg⟩
    refine ⟨u, [p, M], rfl, ⟨M, n, rfl, ?_, h'⟩, Turn.one hg (by simp), fun b hb => .inl hb, hf⟩
    have : (readV s i).2.2.cw = s.cw := by
      unfold readV
      split
      · split <;> rfl
      · rfl
    rw [this]; exact hn
  plan := by
    rintro w p s O k ⟨M, n, rfl, hn, h⟩ hk b q _
    refine (sw_plan h b q).mono ?_
    rintro e w' ⟨rfl, h', hg⟩
    refine ⟨rfl, [p, M], ⟨M, n, rfl, ?_, h'⟩, Turn.one hg (by simp), fun b hb => .inl hb⟩
    have : (planV s b q).2.cw = s.cw := by
      unfold planV
      split
      · rfl
      · split <;> rfl
    rw [this]; exact hn
  count := by rintro w p s O ⟨M, n, rfl, hn, h⟩; exact sw_count h
  places := by
    rintro w p s O ⟨M, n, rfl, hn, h⟩
    exact (sw_places h).mono fun e w' he => ⟨he.1, by rw [he.2]; exact grown_refl _ _⟩
  peek := by rintro w p s O k ⟨M, n, rfl, hn, h⟩ hk i _; exact sw_peek h i
theorem none_done9 (W : World) (A : VActV) (hA : A.Ok W) : Calls Try.prog 6 #[.agg #[.int .i64 A.k, .int .i64 A.n, .slice A.s A.l A.c, .bool A.raw]] W fun e w' => e = .returned (.bool true) ∧ Below W.heap.size W w' := none_say9 swOk W noneOk9 devZero_ok A hA
end Go.Proofs.Ytnfofhnjeinmfaa
