/- FileNone, walked out of what package file says of files that no call made (N: such by their pointer). -/
import Derived.Test.YtlaniifbfgcfaaaIOk
namespace Go.Proofs.Ytlaniifbfgcfaaa
open Go.ChangeShapes Go.WideShapes Go.ChangeAt Go.RowKit Go.Deep
open Extern.Stop (cell)
set_option linter.unusedVariables false

structure NoneOk10 (N : World → Value → Prop) : Prop where
  grow : ∀ {w w' v}, N w v → w.grownBy w' none → N w' v
  nil : ∀ w, N w (.pointer none)
  make : ∀ {w v}, N w v → ∀ n, Calls Try.prog 12 #[v, .int .i64 n] w fun e w' => ∃ u, e = .returned (.tuple #[u, .int .i64 1]) ∧ w.grownBy w' none
  read : ∀ {w v}, N w v → ∀ i n, Calls Try.prog 16 #[v, .int .i64 i, .int .i64 n] w fun e w' => ∃ u, e = .returned (.tuple #[u, .int .i64 1]) ∧ w.grownBy w' none
  size : ∀ {w v}, N w v → ∀ i, Calls Try.prog 24 #[v, .int .i64 i] w fun e w' => ∃ u, e = .returned (.tuple #[u, .bool false]) ∧ w.grownBy w' none
  write : ∀ {w v}, N w v → ∀ i n a l c, Calls Try.prog 19 #[v, .int .i64 i, .int .i64 n, .slice a l c] w fun e w' => e = .returned (.int .i64 1) ∧ w.grownBy w' none
  resize : ∀ {w v}, N w v → ∀ i n, Calls Try.prog 14 #[v, .int .i64 i, .int .i64 n] w fun e w' => e = .returned (.int .i64 1) ∧ w.grownBy w' none
  plan : ∀ {w v}, N w v → ∀ n, Calls Try.prog 22 #[v, .int .i64 n] w fun e w' => e = .returned (.int .i64 1) ∧ w.grownBy w' none
  ids : ∀ {w v}, N w v → Calls Try.prog 28 #[v] w fun e w' => ∃ a c, e = .returned (.slice a 0 c) ∧ w.grownBy w' none
  peek : ∀ {w v}, N w v → ∀ i n, Calls Try.prog 26 #[v, .int .i64 i, .int .i64 n] w fun e w' => ∃ a c, e = .returned (.slice a 0 c) ∧ w.grownBy w' none

/-- The law's box, and the files that no call made. -/
structure NI (N : World → Value → Prop) (w wx : World) (y : Nat) (z : Value) (A : IActV) : Prop where
  b : IActB wx y A
  z : N wx z
  grown : w.grownBy wx none
theorem NI.grow {N : World → Value → Prop} (M : NoneOk10 N) {w wx w2 : World} {y : Nat} {z : Value} {A : IActV} (h : NI N w wx y z A) (g : wx.grownBy w2 none) : NI N w w2 y z A := ⟨h.b.grow g, M.grow h.z g, grown_trans h.grown g⟩
/-- One act as a slice of one. -/
theorem one_acts {w : World} {A : IActV} (hA : A.Ok w) : IActsAre (w.alloc (.cells #[.int .i64 A.k, .int .i64 A.i, .int .i64 A.n, .slice A.s A.l A.c, .bool A.raw] 34 (0, 0))) (some ⟨w.heap.size, 0, none⟩) 1 [A] := by
  have g := World.grownBy_alloc w (.cells #[.int .i64 A.k, .int .i64 A.i, .int .i64 A.n, .slice A.s A.l A.c, .bool A.raw] 34 (0, 0)) none
  obtain ⟨b0, b1, b2, b3, b4⟩ := (IActB.new w A).at
  refine ⟨rfl, .inr ⟨w.heap.size, 0, rfl, fun i B hB j u hu => ?_⟩, fun B hB => by rw [List.mem_singleton.1 hB]; exact hA.grow g⟩
  have hi : i = 0 := by have := (List.getElem?_eq_some_iff.1 hB).1; simp at this; exact this
  subst hi
  simp at hB
  subst hB
  have hj : j < 5 := (List.getElem?_eq_some_iff.1 hu).1
  rcases (show j = 0 ∨ j = 1 ∨ j = 2 ∨ j = 3 ∨ j = 4 by omega) with rfl | rfl | rfl | rfl | rfl
  all_goals
    simp [iactCells] at hu
    subst hu
    first | exact b0 | exact b1 | exact b2 | exact b3 | exact b4
theorem light_one (A : IActV) : lightV 1 [A] = decide (A.l ≤ 5000) := by
  unfold lightV
  simp
end Go.Proofs.Ytlaniifbfgcfaaa
