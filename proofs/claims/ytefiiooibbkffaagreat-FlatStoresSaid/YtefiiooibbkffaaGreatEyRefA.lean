/- Layer 15: lists held against each other; whether a list may be (both); where a page's entry stands, whether all pages have one, where there is space: the document's. -/
import Derived.Test.YtefiiooibbkffaaGreatEyGoodR
import Derived.Test.YtefiiooibbkffaaGreatEyGood
import Derived.Lib.QuietBelow
namespace Go.Proofs.YtefiiooibbkffaaGreat
open Go.ChangeShapes Go.WideShapes Go.ChangeAt Go.RowKit Go.Deep Go.Sort
set_option linter.unusedVariables false

theorem EnB.all {w : World} {y : Nat} {x : En} (h : EnB w y x) : w.cell? ⟨y, 0, none⟩ = some (.int .i64 x.s) ∧ w.cell? ⟨y, 1, none⟩ = some (.int .i64 x.e) ∧ w.cell? ⟨y, 2, none⟩ = some (.int .i64 x.f) ∧ w.cell? ⟨y, 3, none⟩ = some (.int .i64 x.o) ∧ w.cell? ⟨y, 4, none⟩ = some (.bool x.sh) ∧ w.cell? ⟨y, 5, none⟩ = some (.int .i64 x.p) ∧ w.cell? ⟨y, 6, none⟩ = some (.int .i64 x.m) ∧ w.cell? ⟨y, 7, none⟩ = some (.int .i64 x.i) ∧ w.cell? ⟨y, 8, none⟩ = some (.int .i64 x.a) ∧ w.cell? ⟨y, 9, none⟩ = some (.bool x.wi) :=
  ⟨h.at.c0, h.at.c1, h.at.c2, h.at.c3, h.at.c4, h.at.c5, h.at.c6, h.at.c7, h.at.c8, h.at.c9⟩
theorem get_eq {L : List En} {q : Nat} {x : En} (h : L[q]? = some x) : L.drop q = x :: L.drop (q + 1) := by
  obtain ⟨hl, rfl⟩ := List.getElem?_eq_some_iff.1 h
  exact List.drop_eq_getElem_cons hl
set_option maxHeartbeats 1000000 in
/-- The very same entries? -/
theorem same_ok {w : World} {s s' : Option Addr} {xs ys : List En} (c c' : Nat) (hx : ERow w (.slice s xs.length c) xs) (hy : ERow w (.slice s' ys.length c') ys) (hlx : xs.length ≤ 1000000) (d : Bool) (hd : decide (xs = ys) = d) :
    Calls Tryz.prog 48 #[.slice s xs.length c, .slice s' ys.length c'] w fun e w' => e = .returned (.bool d) ∧ w.grownBy w' none := by
  have HX := Lib.hid hx
  have HY := Lib.hid hy
  have HD := Lib.hid hd
  by_cases hlm : xs.length = ys.length
  · have hb : ((xs.length : Int) != (ys.length : Int)) = false := by simp [hlm]
    have HL := Lib.hid hlm
    clear hx hy hd hlm
    go_enter Tryz.func48, Tryz.ntmps48
    go_wp2_with fail
    go_loopw [13] (fun i wr => ∃ q : Nat, q ≤ xs.length ∧ i = .int .i64 q ∧ Hid (xs.take q = ys.take q) ∧ Hid (w.grownBy wr none)) (fun i _ => xs.length - (intOf i).toNat)
    case atStart => exact ⟨0, by omega, rfl, rfl, grown_refl _ _⟩
    case round =>
      obtain ⟨q, hq, rfl, HE, HB⟩ := hrel
      by_cases hlt : q < xs.length
      · have hly : q < ys.length := by rw [← HL.out]; exact hlt
        obtain ⟨x, hx⟩ : ∃ x, xs[q]? = some x := ⟨_, List.getElem?_eq_getElem hlt⟩
        obtain ⟨y, hy⟩ : ∃ y, ys[q]? = some y := ⟨_, List.getElem?_eq_getElem hly⟩
        obtain ⟨g, o, c1, hv1, ka0, ka1, ka2, ka3, ka4, ka5, ka6, ka7, ka8, ka9⟩ := en_cells (erow_grow HX.out HB.out) hx
        obtain ⟨g2, o2, c2, hv2, kb0, kb1, kb2, kb3, kb4, kb5, kb6, kb7, kb8, kb9⟩ := en_cells (erow_grow HY.out HB.out) hy
        injection hv1 with e1 e2 e3
        injection hv2 with e4 e5 e6
        subst e1 e3 e4 e6
        have e1 := takel_at hx
        have e2 := takel_at hy
        by_cases hxy : x = y
        · subst hxy
          have hq1 := fun wx => neq_en wx x x true (by simp)
          have HS := Lib.hid (show xs.take (q + 1) = ys.take (q + 1) by rw [e1, e2, HE.out])
          clear hx hy e1 e2
          go_wp2_with fail
          go_quiet (fail)
          go_wp2_with fail
          go_roundw
          case rel => exact ⟨q + 1, by omega, by go_num, HS, Lib.hid (grown_trans HB.out (grown_draws _ _))⟩
          case measure => simp [intOf]; omega
        · have hq1 := fun wx => neq_en wx x y false (by simp [hxy])
          have hne2 : xs ≠ ys := fun e => hxy (by rw [e] at hx; rw [hx] at hy; cases hy; rfl)
          have hd2 : d = false := by rw [← HD.out]; simp [hne2]
          subst hd2
          clear hx hy e1 e2 hxy hne2
          go_wp2_with fail
          go_quiet (fail)
          go_wp2_with fail
          go_ret
          exact ⟨rfl, grown_trans HB.out (grown_draws _ _)⟩
      · obtain rfl : q = xs.length := by omega
        have hd2 : d = true := by
          rw [← HD.out]
          have h1 : xs.take xs.length = xs := List.take_length
          have h2 : ys.take xs.length = ys := by rw [HL.out, List.take_length]
          have := HE.out
          rw [h1, h2] at this
          simp [this]
        subst hd2
        go_wp2_with fail
        go_ret
        exact ⟨rfl, HB.out⟩
  · have hb : ((xs.length : Int) != (ys.length : Int)) = true := by simp; omega
    have hd2 : d = false := by rw [← hd]; exact decide_eq_false fun e => hlm (by rw [e])
    subst hd2
    clear hx hy hd hlm
    go_enter Tryz.func48, Tryz.ntmps48
    go_wp2_with fail
    go_ret
    exact ⟨rfl, grown_refl _ _⟩

/-! ### a region whose callees make memory and whose loads read what was there, walked once -/
theorem regrown_grown (w : World) (d : Nat) (os : Array Obj) : w.grownBy (grow (redrawn w d) os) none := grown_of_below (below_regrown w d os) none
theorem Calls.regrown_g {f : FuncId} {args : Array Value} {w : World} {v : Value} (h : ∀ W, w.grownBy W none → Calls Tryz.prog f args W fun e w' => e = .returned v ∧ W.grownBy w' none) (d : Nat) (os : Array Obj) :
    Calls Tryz.prog f args (grow (redrawn w d) os) fun e w'' => e = .returned v ∧ ∃ p : Regrown, w'' = grow (redrawn w p.d) p.os :=
  Calls.regrown_of ((h _ (regrown_grown w d os)).mono fun e w' ⟨he, g⟩ => ⟨he, below_of_grown g (Nat.le_refl _) (by simp)⟩)

/-! ### lists that may be -/
abbrev boxE (w : World) (x : En) : World := w.alloc (.cells #[.int .i64 x.s, .int .i64 x.e, .int .i64 x.f, .int .i64 x.o, .bool x.sh, .int .i64 x.p, .int .i64 x.m, .int .i64 x.i, .int .i64 x.a, .bool x.wi] 50 (0, 0))
theorem grown_box (w : World) (x : En) : w.grownBy (boxE w x) none := World.grownBy_alloc _ _ _
end Go.Proofs.YtefiiooibbkffaaGreat
