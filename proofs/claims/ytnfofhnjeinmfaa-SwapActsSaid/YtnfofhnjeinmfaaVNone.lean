/- SwapNone, walked out of what package swap says of a device that no call made (N: a device by its pointer). -/
import Derived.Test.YtnfofhnjeinmfaaVOk
namespace Go.Proofs.Ytnfofhnjeinmfaa
open Go.ChangeShapes Go.WideShapes Go.ChangeAt Go.RowKit Go.Deep
open Extern.Stop (cell)
set_option linter.unusedVariables false

structure NoneOk9 (N : World → Value → Prop) : Prop where
  grow : ∀ {w w' v}, N w v → w.grownBy w' none → N w' v
  nil : ∀ w, N w (.pointer none)
  read : ∀ {w v}, N w v → ∀ i, Calls Try.prog 15 #[v, .int .i64 i] w fun e w' => ∃ u, e = .returned (.tuple #[u, .int .i64 1]) ∧ w.grownBy w' none
  write : ∀ {w v}, N w v → ∀ i a l c, Calls Try.prog 12 #[v, .int .i64 i, .slice a l c] w fun e w' => e = .returned (.int .i64 1) ∧ w.grownBy w' none
  plan : ∀ {w v}, N w v → ∀ b n, Calls Try.prog 18 #[v, .bool b, .int .i64 n] w fun e w' => e = .returned (.int .i64 1) ∧ w.grownBy w' none
  count : ∀ {w v}, N w v → Calls Try.prog 20 #[v] w fun e w' => e = .returned (.tuple #[.int .i64 0, .int .i64 0]) ∧ w.grownBy w' none
  places : ∀ {w v}, N w v → Calls Try.prog 23 #[v] w fun e w' => e = .returned (.int .i64 0) ∧ w.grownBy w' none
  peek : ∀ {w v}, N w v → ∀ i, Calls Try.prog 21 #[v, .int .i64 i] w fun e w' => ∃ a c, e = .returned (.slice a 0 c) ∧ w.grownBy w' none

/-- The law's box, and the device that no call made. -/
structure NV (N : World → Value → Prop) (w wx : World) (y : Nat) (z : Value) (A : VActV) : Prop where
  b : VActB wx y A
  z : N wx z
  grown : w.grownBy wx none
theorem NV.grow {N : World → Value → Prop} (M : NoneOk9 N) {w wx w2 : World} {y : Nat} {z : Value} {A : VActV} (h : NV N w wx y z A) (g : wx.grownBy w2 none) : NV N w w2 y z A := ⟨h.b.grow g, M.grow h.z g, grown_trans h.grown g⟩
/-- One act as a slice of one. -/
theorem one_acts {w : World} {A : VActV} (hA : A.Ok w) : VActsAre (w.alloc (.cells #[.int .i64 A.k, .int .i64 A.n, .slice A.s A.l A.c, .bool A.raw] 31 (0, 0))) (some ⟨w.heap.size, 0, none⟩) 1 [A] := by
  have g := World.grownBy_alloc w (.cells #[.int .i64 A.k, .int .i64 A.n, .slice A.s A.l A.c, .bool A.raw] 31 (0, 0)) none
  obtain ⟨b0, b1, b2, b3⟩ := (VActB.new w A).at
  refine ⟨rfl, .inr ⟨w.heap.size, 0, rfl, fun i B hB j u hu => ?_⟩, fun B hB => by rw [List.mem_singleton.1 hB]; exact hA.grow g⟩
  have hi : i = 0 := by have := (List.getElem?_eq_some_iff.1 hB).1; simp at this; exact this
  subst hi
  simp at hB
  subst hB
  have hj : j < 4 := (List.getElem?_eq_some_iff.1 hu).1
  rcases (show j = 0 ∨ j = 1 ∨ j = 2 ∨ j = 3 by omega) with rfl | rfl | rfl | rfl
  all_goals
    simp [vactCells] at hu
    subst hu
    first | exact b0 | exact b1 | exact b2 | exact b3
theorem light_one (A : VActV) : lightV 1 [A] = decide (A.l ≤ 5000) := by
  unfold lightV
  simp
end Go.Proofs.Ytnfofhnjeinmfaa
