/- Package entry (landed): from, goesOn. -/
import Derived.Test.YtefiiooibbkffaaGreatEyDb
namespace Go.Proofs.YtefiiooibbkffaaGreat
open Go.ChangeShapes Go.WideShapes Go.ChangeAt Go.RowKit Go.Deep
set_option linter.unusedVariables false

theorem heap_second (w : World) (o o' : Obj) : ((w.alloc o).alloc o').heap[w.heap.size + 1]? = some o' := by
  have := heap_alloc_new (w.alloc o) o'
  rw [World.size_alloc] at this
  exact this
set_option maxHeartbeats 2000000 in
theorem from_w (x : En) (hx : GoodE x) (pg : Int) (h1 : x.s ≤ pg) (h2 : pg ≤ x.e) (w : World) : Calls Tryz.prog 206 #[.agg #[.int .i64 x.s, .int .i64 x.e, .int .i64 x.f, .int .i64 x.o, .bool x.sh, .int .i64 x.p, .int .i64 x.m, .int .i64 x.i, .int .i64 x.a, .bool x.wi], .int .i64 pg] w fun e w' => e = .returned (.agg #[.int .i64 (fromE x pg).s, .int .i64 (fromE x pg).e, .int .i64 (fromE x pg).f, .int .i64 (fromE x pg).o, .bool (fromE x pg).sh, .int .i64 (fromE x pg).p, .int .i64 (fromE x pg).m, .int .i64 (fromE x pg).i, .int .i64 (fromE x pg).a, .bool (fromE x pg).wi]) ∧ w' = (w.alloc (.cells #[.int .i64 (fromE x pg).s, .int .i64 (fromE x pg).e, .int .i64 (fromE x pg).f, .int .i64 (fromE x pg).o, .bool (fromE x pg).sh, .int .i64 (fromE x pg).p, .int .i64 (fromE x pg).m, .int .i64 (fromE x pg).i, .int .i64 (fromE x pg).a, .bool (fromE x pg).wi] 50)).alloc (.cells #[.int .i64 (fromE x pg).s, .int .i64 (fromE x pg).e, .int .i64 (fromE x pg).f, .int .i64 (fromE x pg).o, .bool (fromE x pg).sh, .int .i64 (fromE x pg).p, .int .i64 (fromE x pg).m, .int .i64 (fromE x pg).i, .int .i64 (fromE x pg).a, .bool (fromE x pg).wi] 50) := by
  have q1 := hx.s0
  have q2 := hx.e1
  have q3 := hx.o0
  have q4 := hx.oz
  have q5 := hx.oe
  have q6 := hx.f0
  have q7 := hx.lt
  obtain ⟨s, e, f, o, sh, p, m, i, a, wi⟩ := x
  simp only at *
  unfold fromE
  simp only
  by_cases hf : f > 0
  · have b0 : decide (f > 0) = true := decide_eq_true hf
    rw [if_pos (show 0 < f from hf)]
    have q8 : o ≤ 4096 := by omega
    clear q4 q5 hx hf q6 q7
    go_enter Tryz.func206, Tryz.ntmps206
    go_wp2_with fail
    refine bodyPost_ret (results_cell_row rfl _ _ (w.heap.size + 1) _ #[.int .i64 pg, .int .i64 e, .int .i64 f, .int .i64 (o + (pg - s)), .bool sh, .int .i64 p, .int .i64 m, .int .i64 i, .int .i64 a, .bool wi] (0, 0) _ rfl (heap_second w _ _) Tryz.underlying50 (by kernel_rfl) (by kernel_rfl)) rfl ?_
    exact ⟨rfl, rfl⟩
  · have b0 : decide (f > 0) = false := decide_eq_false hf
    rw [if_neg (show ¬ 0 < f from hf)]
    clear q4 q5 hx hf q6 q7
    go_enter Tryz.func206, Tryz.ntmps206
    go_wp2_with fail
    refine bodyPost_ret (results_cell_row rfl _ _ (w.heap.size + 1) _ #[.int .i64 pg, .int .i64 e, .int .i64 f, .int .i64 o, .bool sh, .int .i64 p, .int .i64 m, .int .i64 i, .int .i64 a, .bool wi] (0, 0) _ rfl (heap_second w _ _) Tryz.underlying50 (by kernel_rfl) (by kernel_rfl)) rfl ?_
    exact ⟨rfl, rfl⟩
theorem from_ok (x : En) (hx : GoodE x) (pg : Int) (h1 : x.s ≤ pg) (h2 : pg ≤ x.e) (w : World) : Calls Tryz.prog 206 #[.agg #[.int .i64 x.s, .int .i64 x.e, .int .i64 x.f, .int .i64 x.o, .bool x.sh, .int .i64 x.p, .int .i64 x.m, .int .i64 x.i, .int .i64 x.a, .bool x.wi], .int .i64 pg] w fun e w' => e = .returned (.agg #[.int .i64 (fromE x pg).s, .int .i64 (fromE x pg).e, .int .i64 (fromE x pg).f, .int .i64 (fromE x pg).o, .bool (fromE x pg).sh, .int .i64 (fromE x pg).p, .int .i64 (fromE x pg).m, .int .i64 (fromE x pg).i, .int .i64 (fromE x pg).a, .bool (fromE x pg).wi]) ∧ w.grownBy w' none :=
  (from_w x hx pg h1 h2 w).mono fun e w' ⟨he, hw⟩ => ⟨he, by rw [hw]; exact grown_trans (World.grownBy_alloc _ _ _) (World.grownBy_alloc _ _ _)⟩
set_option maxHeartbeats 2000000 in
theorem goesOn_ok (x y : En) (hx : GoodE x) (w : World) : Calls Tryz.prog 190 #[.agg #[.int .i64 x.s, .int .i64 x.e, .int .i64 x.f, .int .i64 x.o, .bool x.sh, .int .i64 x.p, .int .i64 x.m, .int .i64 x.i, .int .i64 x.a, .bool x.wi], .agg #[.int .i64 y.s, .int .i64 y.e, .int .i64 y.f, .int .i64 y.o, .bool y.sh, .int .i64 y.p, .int .i64 y.m, .int .i64 y.i, .int .i64 y.a, .bool y.wi]] w fun e w' => e = .returned (.bool (goesB x y)) ∧ w.grownBy w' none := by
  obtain ⟨d, hd⟩ : ∃ d, goesB x y = d := ⟨_, rfl⟩
  rw [hd]
  obtain ⟨z, hz⟩ : ∃ z : En, { fromE x x.e with e := y.e } = z := ⟨_, rfl⟩
  have hq : ∀ wx, _ := fun wx => eql_en wx z y d (by rw [← hd, ← hz]; rfl)
  have HF := Lib.hid (fun W => from_ok x hx x.e (by have := hx.lt; omega) (Int.le_refl _) W)
  have hbx : EnB ((w.alloc (.cells #[.int .i64 x.s, .int .i64 x.e, .int .i64 x.f, .int .i64 x.o, .bool x.sh, .int .i64 x.p, .int .i64 x.m, .int .i64 x.i, .int .i64 x.a, .bool x.wi] 50)).alloc (.cells #[.int .i64 y.s, .int .i64 y.e, .int .i64 y.f, .int .i64 y.o, .bool y.sh, .int .i64 y.p, .int .i64 y.m, .int .i64 y.i, .int .i64 y.a, .bool y.wi] 50)) w.heap.size x := (EnB.new w x).grow (World.grownBy_alloc _ _ _)
  have hby : EnB ((w.alloc (.cells #[.int .i64 x.s, .int .i64 x.e, .int .i64 x.f, .int .i64 x.o, .bool x.sh, .int .i64 x.p, .int .i64 x.m, .int .i64 x.i, .int .i64 x.a, .bool x.wi] 50)).alloc (.cells #[.int .i64 y.s, .int .i64 y.e, .int .i64 y.f, .int .i64 y.o, .bool y.sh, .int .i64 y.p, .int .i64 y.m, .int .i64 y.i, .int .i64 y.a, .bool y.wi] 50)) (w.heap.size + 1) y := by
    have := EnB.new (w.alloc (.cells #[.int .i64 x.s, .int .i64 x.e, .int .i64 x.f, .int .i64 x.o, .bool x.sh, .int .i64 x.p, .int .i64 x.m, .int .i64 x.i, .int .i64 x.a, .bool x.wi] 50)) y
    rw [World.size_alloc] at this
    exact this
  have hg0 : w.grownBy ((w.alloc (.cells #[.int .i64 x.s, .int .i64 x.e, .int .i64 x.f, .int .i64 x.o, .bool x.sh, .int .i64 x.p, .int .i64 x.m, .int .i64 x.i, .int .i64 x.a, .bool x.wi] 50)).alloc (.cells #[.int .i64 y.s, .int .i64 y.e, .int .i64 y.f, .int .i64 y.o, .bool y.sh, .int .i64 y.p, .int .i64 y.m, .int .i64 y.i, .int .i64 y.a, .bool y.wi] 50)) none := grown_trans (World.grownBy_alloc _ _ _) (World.grownBy_alloc _ _ _)
  have HBy := Lib.hid hby
  have HG0 := Lib.hid hg0
  rw [← hz] at hq
  obtain ⟨v, hv⟩ : ∃ v, (if 0 < x.f then x.o + (x.e - x.s) else x.o) = v := ⟨_, rfl⟩
  unfold fromE at hq HF
  simp only [hv] at hq HF
  clear hd hz hx hbx hby hg0 hv
  go_enter Tryz.func190, Tryz.ntmps190
  go_wp2_with fail
  refine (HF.out _).mono ?_
  rintro e w2 ⟨rfl, g2⟩
  have HG := Lib.hid (grown_trans HG0.out g2)
  have hby2 := (HBy.out.grow g2).at
  have q0 : ∀ ob : Obj, (w2.alloc ob).cell? ⟨w.heap.size + 1, 0, none⟩ = some (.int .i64 y.s) := fun ob => (hby2.grow (World.grownBy_alloc w2 ob none)).c0
  have q1 : ∀ ob : Obj, (w2.alloc ob).cell? ⟨w.heap.size + 1, 1, none⟩ = some (.int .i64 y.e) := fun ob => (hby2.grow (World.grownBy_alloc w2 ob none)).c1
  have q2 : ∀ ob : Obj, (w2.alloc ob).cell? ⟨w.heap.size + 1, 2, none⟩ = some (.int .i64 y.f) := fun ob => (hby2.grow (World.grownBy_alloc w2 ob none)).c2
  have q3 : ∀ ob : Obj, (w2.alloc ob).cell? ⟨w.heap.size + 1, 3, none⟩ = some (.int .i64 y.o) := fun ob => (hby2.grow (World.grownBy_alloc w2 ob none)).c3
  have q4 : ∀ ob : Obj, (w2.alloc ob).cell? ⟨w.heap.size + 1, 4, none⟩ = some (.bool y.sh) := fun ob => (hby2.grow (World.grownBy_alloc w2 ob none)).c4
  have q5 : ∀ ob : Obj, (w2.alloc ob).cell? ⟨w.heap.size + 1, 5, none⟩ = some (.int .i64 y.p) := fun ob => (hby2.grow (World.grownBy_alloc w2 ob none)).c5
  have q6 : ∀ ob : Obj, (w2.alloc ob).cell? ⟨w.heap.size + 1, 6, none⟩ = some (.int .i64 y.m) := fun ob => (hby2.grow (World.grownBy_alloc w2 ob none)).c6
  have q7 : ∀ ob : Obj, (w2.alloc ob).cell? ⟨w.heap.size + 1, 7, none⟩ = some (.int .i64 y.i) := fun ob => (hby2.grow (World.grownBy_alloc w2 ob none)).c7
  have q8 : ∀ ob : Obj, (w2.alloc ob).cell? ⟨w.heap.size + 1, 8, none⟩ = some (.int .i64 y.a) := fun ob => (hby2.grow (World.grownBy_alloc w2 ob none)).c8
  have q9 : ∀ ob : Obj, (w2.alloc ob).cell? ⟨w.heap.size + 1, 9, none⟩ = some (.bool y.wi) := fun ob => (hby2.grow (World.grownBy_alloc w2 ob none)).c9
  clear g2 hby2
  go_wp2_with fail
  go_ret
  exact ⟨rfl, grown_trans HG.out (World.grownBy_alloc _ _ _)⟩
end Go.Proofs.YtefiiooibbkffaaGreat
