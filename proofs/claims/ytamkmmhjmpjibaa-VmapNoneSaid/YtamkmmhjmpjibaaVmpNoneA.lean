/- Layer 16: a map that no call made: what each call answers. -/
import Derived.Test.YtamkmmhjmpjibaaVmpMore
namespace Go.Proofs.Ytamkmmhjmpjibaa
open Go.ChangeShapes Go.WideShapes Go.ChangeAt Go.RowKit Go.Deep
set_option linter.unusedVariables false
set_option linter.unusedSimpArgs false

/-- A map that no call made: none at all, or the zero value in a box. -/
def NM (w : World) (pv : Value) : Prop := pv = .pointer none ∨ ∃ r, pv = .pointer (some ⟨r, 0, none⟩) ∧ w.heap[r]? = some (.cells #[.slice none 0 0, .bool false] 50 (0, 0))
section
variable {w w' : World} {pv : Value}
theorem NM.grow (h : NM w pv) (g : w.grownBy w' none) : NM w' pv := h.imp id fun ⟨r, e, hb⟩ => ⟨r, e, (g.block _ (Array.getElem?_eq_some_iff.1 hb).1 (by simp)).trans hb⟩
theorem made_no (h : NM w pv) : Calls Try.prog 36 #[pv] w fun e w' => e = .returned (.bool false) ∧ w' = w := by
  rcases h with rfl | ⟨r, rfl, hb⟩
  · go_enter Try.func36, Try.ntmps36
    go_wp2_with fail
    go_ret
    exact ⟨rfl, rfl⟩
  · have c1 : w.cell? ⟨r, 1, none⟩ = some (.bool false) := by rw [cell_of_row _ _ _ _ _ _ hb]; rfl
    go_enter Try.func36, Try.ntmps36
    go_wp2_with fail
    go_ret
    exact ⟨rfl, rfl⟩
theorem asked_no (h : NM w pv) (lo n : Int) (may : Bool) : Calls Try.prog 56 #[pv, .int .i64 lo, .int .i64 n, .bool may] w fun e w' => e = .returned (.int .i64 1) ∧ w' = w := by
  have HM := Lib.hid (made_no h)
  clear h
  go_enter Try.func56, Try.ntmps56
  go_wp2_with fail
  refine HM.out.mono ?_
  rintro e w1 ⟨rfl, e1⟩
  subst e1
  go_wp2_with fail
  go_ret
  exact ⟨rfl, rfl⟩
theorem entries_no (h : NM w pv) : Calls Try.prog 15 #[pv] w fun e w' => e = .returned (.slice none 0 0) ∧ w' = w := by
  have HM := Lib.hid (made_no h)
  clear h
  go_enter Try.func15, Try.ntmps15
  go_wp2_with fail
  refine HM.out.mono ?_
  rintro e w1 ⟨rfl, e1⟩
  subst e1
  go_wp2_with fail
  go_ret
  exact ⟨rfl, rfl⟩
theorem fork_no (h : NM w pv) : Calls Try.prog 18 #[pv] w fun e w' => e = .returned (.pointer none) ∧ w' = w := by
  have HM := Lib.hid (made_no h)
  clear h
  go_enter Try.func18, Try.ntmps18
  go_wp2_with fail
  refine HM.out.mono ?_
  rintro e w1 ⟨rfl, e1⟩
  subst e1
  go_wp2_with fail
  go_ret
  exact ⟨rfl, rfl⟩
theorem unmap_no (h : NM w pv) (lo n : Int) : Calls Try.prog 28 #[pv, .int .i64 lo, .int .i64 n] w fun e w' => e = .returned (.tuple #[.slice none 0 0, .int .i64 1]) ∧ w.grownBy w' none := by
  have HM := Lib.hid (asked_no h lo n true)
  have HG := Lib.hid (grown_refl w none)
  clear h
  go_enter Try.func28, Try.ntmps28
  go_wp2_with fail
  refine HM.out.mono ?_
  rintro e w1 ⟨rfl, e1⟩
  subst e1
  go_wp2_with fail
  go_ret2
  exact ⟨rfl, HG.out⟩
theorem change_no (h : NM w pv) (lo n : Int) (may : Bool) (gs : Nat) (rcs caps : Array Value) : Calls Try.prog 51 #[pv, .int .i64 lo, .int .i64 n, .bool may, .func (.func gs) rcs caps] w fun e w' => e = .returned (.int .i64 1) ∧ w.grownBy w' none := by
  have HM := Lib.hid (fun W (g : w.grownBy W none) => asked_no (h.grow g) lo n may)
  have hgr : w.grownBy ((w.alloc (.cells #[.int .i64 lo] 3)).alloc (.cells #[.func (.func gs) rcs caps] 86)) none := grown_trans (World.grownBy_alloc _ _ _) (World.grownBy_alloc _ _ _)
  have HG := Lib.hid hgr
  clear h hgr
  go_enter Try.func51, Try.ntmps51
  go_wp2_with fail
  refine (HM.out _ HG.out).mono ?_
  rintro e w1 ⟨rfl, e1⟩
  subst e1
  go_wp2_with fail
  go_ret
  exact ⟨rfl, HG.out⟩
theorem wire_no (h : NM w pv) (lo n : Int) (on : Bool) : Calls Try.prog 26 #[pv, .int .i64 lo, .int .i64 n, .bool on] w fun e w' => e = .returned (.int .i64 1) ∧ w.grownBy w' none := by
  have HM := Lib.hid (fun W (g : w.grownBy W none) (may : Bool) (gs : Nat) (rcs caps : Array Value) => change_no (h.grow g) lo n may gs rcs caps)
  have HG := Lib.hid (World.grownBy_alloc w (.cells #[.bool on] 4) none)
  clear h
  go_enter Try.func26, Try.ntmps26
  go_wp2_with fail
  refine (HM.out _ HG.out _ _ _ _).mono ?_
  rintro e w1 ⟨rfl, g1⟩
  have HG1 := Lib.hid (grown_trans HG.out g1)
  clear g1
  go_wp2_with fail
  go_ret
  exact ⟨rfl, HG1.out⟩
theorem inherit_no (h : NM w pv) (lo n how : Int) : Calls Try.prog 24 #[pv, .int .i64 lo, .int .i64 n, .int .i64 how] w fun e w' => e = .returned (.int .i64 1) ∧ w.grownBy w' none := by
  have HM := Lib.hid (fun W (g : w.grownBy W none) (may : Bool) (gs : Nat) (rcs caps : Array Value) => change_no (h.grow g) lo n may gs rcs caps)
  have HG := Lib.hid (World.grownBy_alloc w (.cells #[.int .i64 how] 3) none)
  clear h
  by_cases d1 : how ≥ 0
  · have e1 : decide (how ≥ 0) = true := decide_eq_true d1
    obtain ⟨d2, hd2⟩ : ∃ d2, decide (how ≤ 2) = d2 := ⟨_, rfl⟩
    go_enter Try.func24, Try.ntmps24
    go_wp2_with fail
    refine (HM.out _ HG.out _ _ _ _).mono ?_
    rintro e w1 ⟨rfl, g1⟩
    have HG1 := Lib.hid (grown_trans HG.out g1)
    clear g1
    go_wp2_with fail
    go_ret
    exact ⟨rfl, HG1.out⟩
  · have e1 : decide (how ≥ 0) = false := decide_eq_false d1
    go_enter Try.func24, Try.ntmps24
    go_wp2_with fail
    refine (HM.out _ HG.out _ _ _ _).mono ?_
    rintro e w1 ⟨rfl, g1⟩
    have HG1 := Lib.hid (grown_trans HG.out g1)
    clear g1
    go_wp2_with fail
    go_ret
    exact ⟨rfl, HG1.out⟩
theorem advise_no (h : NM w pv) (lo n how : Int) : Calls Try.prog 25 #[pv, .int .i64 lo, .int .i64 n, .int .i64 how] w fun e w' => e = .returned (.int .i64 1) ∧ w.grownBy w' none := by
  have HM := Lib.hid (fun W (g : w.grownBy W none) (may : Bool) (gs : Nat) (rcs caps : Array Value) => change_no (h.grow g) lo n may gs rcs caps)
  have HG := Lib.hid (World.grownBy_alloc w (.cells #[.int .i64 how] 3) none)
  clear h
  by_cases d1 : how ≥ 0
  · have e1 : decide (how ≥ 0) = true := decide_eq_true d1
    obtain ⟨d2, hd2⟩ : ∃ d2, decide (how ≤ 4) = d2 := ⟨_, rfl⟩
    go_enter Try.func25, Try.ntmps25
    go_wp2_with fail
    refine (HM.out _ HG.out _ _ _ _).mono ?_
    rintro e w1 ⟨rfl, g1⟩
    have HG1 := Lib.hid (grown_trans HG.out g1)
    clear g1
    go_wp2_with fail
    go_ret
    exact ⟨rfl, HG1.out⟩
  · have e1 : decide (how ≥ 0) = false := decide_eq_false d1
    go_enter Try.func25, Try.ntmps25
    go_wp2_with fail
    refine (HM.out _ HG.out _ _ _ _).mono ?_
    rintro e w1 ⟨rfl, g1⟩
    have HG1 := Lib.hid (grown_trans HG.out g1)
    clear g1
    go_wp2_with fail
    go_ret
    exact ⟨rfl, HG1.out⟩
theorem protect_no (h : NM w pv) (lo n p : Int) : Calls Try.prog 27 #[pv, .int .i64 lo, .int .i64 n, .int .i64 p] w fun e w' => e = .returned (.int .i64 1) ∧ w.grownBy w' none := by
  have HM := Lib.hid (fun (may : Bool) (gs : Nat) (rcs caps : Array Value) => change_no h lo n may gs rcs caps)
  obtain ⟨z, hz⟩ : ∃ z, bits .andNot .i64 p 7 = z := ⟨_, rfl⟩
  obtain ⟨d, hd⟩ : ∃ d, (z == 0) = d := ⟨_, rfl⟩
  clear h
  go_enter Try.func27, Try.ntmps27
  go_wp2_with fail
  refine (HM.out _ _ _ _).mono ?_
  rintro e w1 ⟨rfl, g1⟩
  have HG1 := Lib.hid g1
  clear g1
  go_wp2_with fail
  go_ret
  exact ⟨rfl, HG1.out⟩
set_option maxHeartbeats 4000000 in
theorem map_no (h : NM w pv) (addr : Int) (x : En) (fixed : Bool) (hx : OkN x) : Calls Try.prog 22 #[pv, .int .i64 addr, .agg #[.int .i64 x.s, .int .i64 x.e, .int .i64 x.f, .int .i64 x.o, .bool x.sh, .int .i64 x.p, .int .i64 x.m, .int .i64 x.i, .int .i64 x.a, .bool x.wi], .bool fixed] w fun e w' => e = .returned (.tuple #[.int .i64 0, .slice none 0 0, .int .i64 1]) ∧ w.grownBy w' none := by
  have HG0 := Lib.hid (World.grownBy_alloc w (.cells #[.int .i64 x.s, .int .i64 x.e, .int .i64 x.f, .int .i64 x.o, .bool x.sh, .int .i64 x.p, .int .i64 x.m, .int .i64 x.i, .int .i64 x.a, .bool x.wi] 31) none)
  have HS := Lib.hid (size_ok x hx (w.alloc (.cells #[.int .i64 x.s, .int .i64 x.e, .int .i64 x.f, .int .i64 x.o, .bool x.sh, .int .i64 x.p, .int .i64 x.m, .int .i64 x.i, .int .i64 x.a, .bool x.wi] 31)))
  have HM := Lib.hid (fun W (g : w.grownBy W none) => made_no (h.grow g))
  have HB0 := Lib.hid (EnB.new w x)
  clear h hx
  go_enter Try.func22, Try.ntmps22
  go_wp2_with fail
  refine HS.out.mono ?_
  rintro e w1 ⟨n, rfl, -, -, g1⟩
  have HG1 := Lib.hid (grown_trans HG0.out g1)
  have HMa := Lib.hid (HM.out w1 HG1.out)
  clear g1
  go_wp2_with fail
  refine HMa.out.mono ?_
  rintro e w2 ⟨rfl, e1⟩
  subst e1
  go_wp2_with fail
  go_ret3
  exact ⟨rfl, HG1.out⟩
set_option maxHeartbeats 4000000 in
theorem at_no (h : NM w pv) (pg : Int) : Calls Try.prog 16 #[pv, .int .i64 pg] w fun e w' => ∃ x : En, e = .returned (.tuple #[.agg #[.int .i64 x.s, .int .i64 x.e, .int .i64 x.f, .int .i64 x.o, .bool x.sh, .int .i64 x.p, .int .i64 x.m, .int .i64 x.i, .int .i64 x.a, .bool x.wi], .bool false]) ∧ w.grownBy w' none := by
  have hg1 := World.grownBy_alloc w (.cells #[.int .i64 zeroE.s, .int .i64 zeroE.e, .int .i64 zeroE.f, .int .i64 zeroE.o, .bool zeroE.sh, .int .i64 zeroE.p, .int .i64 zeroE.m, .int .i64 zeroE.i, .int .i64 zeroE.a, .bool zeroE.wi] 31) none
  have HG1 := Lib.hid hg1
  have HB := Lib.hid (EnB.new w zeroE)
  have HM := Lib.hid (made_no (h.grow hg1))
  unfold zeroE at HM HG1
  clear h hg1
  go_enter Try.func16, Try.ntmps16
  go_wp2_with fail
  refine HM.out.mono ?_
  rintro e w1 ⟨rfl, e1⟩
  have hb := HB.out
  have hg := HG1.out
  unfold zeroE at hb
  rw [← e1] at hb hg
  clear e1 HM HB HG1
  have hb : EnB w1 w.heap.size zeroE := hb
  have HB2 := Lib.hid (set10_box hb zeroE)
  have HG2 := Lib.hid (grown_at hg (set10_grown _ w.heap.size zeroE) (Nat.le_refl _))
  obtain ⟨q0, q1, q2, q3, q4, q5, q6, q7, q8, q9⟩ := hb.all
  have hf := hb.frozen
  clear hb hg
  unfold set10 zeroE at HB2 HG2
  unfold zeroE at q0 q1 q2 q3 q4 q5 q6 q7 q8 q9 hf
  go_wp2_with fail
  refine bodyPost_ret (results_row_tmp rfl _ _ w.heap.size _ _ (0, 0) _ rfl HB2.out Try.underlying31 (by kernel_rfl) (by kernel_rfl)) rfl ?_
  exact ⟨zeroE, rfl, HG2.out⟩
end
end Go.Proofs.Ytamkmmhjmpjibaa
