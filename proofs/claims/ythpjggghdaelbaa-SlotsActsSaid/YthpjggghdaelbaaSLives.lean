/- Layer 8's example; places of a law's own. -/
import Derived.Test.YthpjggghdaelbaaSRefC
namespace Go.Proofs.Ythpjggghdaelbaa
open Go.ChangeShapes Go.WideShapes Go.ChangeAt Go.RowKit Go.Deep
set_option linter.unusedVariables false

/-- Places that the law itself made. -/
structure LS (w wx : World) (r : Nat) (L : List Int) (gu gs : Nat) : Prop where
  sp : SP wx r L gu gs
  own : ∀ b, b ∈ [r, gu, gs] → w.heap.size ≤ b
  grown : w.grownBy wx none
section
variable {w wx w2 : World} {r gu gs : Nat} {L L' : List Int}
theorem LS.grow (h : LS w wx r L gu gs) (k : wx.grownBy w2 none) : LS w w2 r L gu gs := ⟨h.sp.grow k, h.own, grown_trans h.grown k⟩
theorem LS.left (h : LS w wx r L gu gs) (k : SLeft wx w2 r L' gu gs) : LS w w2 r L' gu gs :=
  ⟨k.1, h.own, ((Turn.grown h.grown).trans' k.2).noGrown fun b hb => h.own b (List.mem_cons_of_mem _ hb)⟩
end

theorem lx1 : takeL [0, 0, 0, 0] 1 = ⟨0, true, [1, 0, 0, 0]⟩ := by rfl
theorem lx2 : takeL [1, 0, 0, 0] 2 = ⟨1, true, [1, 1, 1, 0]⟩ := by rfl
theorem lx3 : giveL [1, 1, 1, 0] 1 = ⟨0, true, [1, 0, 1, 0]⟩ := by rfl
theorem lx4 : takeL [1, 0, 1, 0] 2 = ⟨0, false, [1, 0, 1, 0]⟩ := by rfl
theorem lx5 : takeL [1, 0, 1, 0] 1 = ⟨1, true, [1, 1, 1, 0]⟩ := by rfl
theorem lx6 : WordsAre (usedB [1, 1, 1, 0]) 1 [7] := ⟨rfl, by decide, fun q b u hu hb => by
  have hq : q = 0 := by have := (List.getElem?_eq_some_iff.1 hu).1; simp at this; exact this
  subst hq
  simp at hu
  subst hu
  have : ∀ b, b < 64 → Nat.testBit 7 b = usedB [1, 1, 1, 0] (64 * 0 + b) := by decide
  exact this b hb⟩

theorem okS {x : Int} (h0 : -1000 ≤ x) (h1 : x ≤ 1000) : okI x := ⟨by omega, by omega⟩

set_option maxRecDepth 100000 in
set_option maxHeartbeats 1000000 in
theorem lives8 (w : World) : Calls Try.prog 10 #[] w fun e w' => e = .returned (.bool true) ∧ w.grownBy w' none := by
  have HN := Lib.hid (sl_new_ok 4 w (by decide))
  have hq := eql_slots_nil
  go_enter Try.func10, Try.ntmps10
  go_wp2_with fail
  refine HN.out.mono ?_
  rintro e w1 ⟨r, gu, gs, rfl, h1, g1, o1⟩
  have H1 := Lib.hid (show LS w w1 r [0, 0, 0, 0] gu gs from ⟨h1, o1, g1⟩)
  have hk := sl_take H1.out.sp
  rw [lx1] at hk
  have HK := Lib.hid hk
  clear hk h1 g1 o1 HN
  go_wp2_with fail
  refine HK.out.mono ?_
  rintro e w2 ⟨rfl, h2⟩
  have H2 := Lib.hid (H1.out.left h2)
  have hk := sl_takeRun H2.out.sp 2 (okS (by decide) (by decide))
  rw [lx2] at hk
  have HK2 := Lib.hid hk
  clear hk h2 HK H1
  go_wp2_with fail
  refine HK2.out.mono ?_
  rintro e w3 ⟨rfl, h3⟩
  have H3 := Lib.hid (H2.out.left h3)
  have hk := sl_give H3.out.sp 1
  rw [lx3] at hk
  have HK3 := Lib.hid hk
  clear hk h3 HK2 H2
  go_wp2_with fail
  refine HK3.out.mono ?_
  rintro e w4 ⟨rfl, h4⟩
  have H4 := Lib.hid (H3.out.left h4)
  have hk := sl_takeRun H4.out.sp 2 (okS (by decide) (by decide))
  rw [lx4] at hk
  have HK4 := Lib.hid hk
  clear hk h4 HK3 H3
  go_wp2_with fail
  refine HK4.out.mono ?_
  rintro e w5 ⟨rfl, h5⟩
  have H5 := Lib.hid (H4.out.left h5)
  have hk := sl_take H5.out.sp
  rw [lx5] at hk
  have HK5 := Lib.hid hk
  clear hk h5 HK4 H4
  go_wp2_with fail
  refine HK5.out.mono ?_
  rintro e w6 ⟨rfl, h6⟩
  have H6 := Lib.hid (H5.out.left h6)
  have HW := Lib.hid (sl_words H6.out.sp)
  clear h6 HK5 H5
  go_wp2_with fail
  refine HW.out.mono ?_
  rintro e w7 ⟨g, us, rfl, h7, p7, g7, o7⟩
  obtain rfl : us = [7] := p7.uniq lx6 fun _ _ => rfl
  have gb := World.grownBy_alloc w7 (.cells #[.int .u64 7] 43) none
  have HB := Lib.hid (show WRow (w7.alloc (.cells #[.int .u64 7] 43)) w7.heap.size [7] from heap_alloc_new w7 _)
  have HA := Lib.hid (h7.kept (gb.block g h7.lt (by simp)))
  have HG := Lib.hid (grown_trans (H6.out.grow g7).grown gb)
  have HSm := Lib.hid (rf_same (ca := 1) (cb := 1) HA.out HB.out (by decide) (by decide) true (by decide))
  clear h7 p7 g7 o7 gb H6 HW
  go_wp2_with fail
  refine HSm.out.mono ?_
  rintro e w8 ⟨rfl, g8⟩
  have HG8 := Lib.hid (grown_trans HG.out g8)
  clear g8
  go_wp2_with fail
  go_ret
  exact ⟨rfl, HG8.out⟩
end Go.Proofs.Ythpjggghdaelbaa
