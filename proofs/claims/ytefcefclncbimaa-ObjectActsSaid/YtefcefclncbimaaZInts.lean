/- Rows of numbers, held against one another (the document's Ints). -/
import Derived.Test.YtefcefclncbimaaZRow
namespace Go.Proofs.Ytefcefclncbimaa
open Go.ChangeShapes Go.WideShapes Go.ChangeAt Go.RowKit Go.Deep
set_option linter.unusedVariables false

set_option maxHeartbeats 1000000 in
/-- The very same numbers? -/
theorem ints_ok {w : World} {s s' : Option Addr} {xs ys : List Int} (c c' : Nat) (hx : RowOf zCells 1 w (.slice s xs.length c) xs) (hy : RowOf zCells 1 w (.slice s' ys.length c') ys) (hlx : xs.length ≤ 1000000) (d : Bool) (hd : decide (xs = ys) = d) :
    Calls Try.prog 25 #[.slice s xs.length c, .slice s' ys.length c'] w fun e w' => e = .returned (.bool d) ∧ w.grownBy w' none := by
  have HX := Lib.hid hx
  have HY := Lib.hid hy
  have HD := Lib.hid hd
  by_cases hlm : xs.length = ys.length
  · have hb : ((xs.length : Int) != (ys.length : Int)) = false := by simp [hlm]
    have HL := Lib.hid hlm
    clear hx hy hd hlm
    go_enter Try.func25, Try.ntmps25
    go_wp2_with fail
    go_loopw [13] (fun i wr => ∃ q : Nat, q ≤ xs.length ∧ i = .int .i64 q ∧ Hid (xs.take q = ys.take q) ∧ Hid (w.grownBy wr none)) (fun i _ => xs.length - (intOf i).toNat)
    case atStart => exact ⟨0, by omega, rfl, rfl, grown_refl _ _⟩
    case round =>
      obtain ⟨q, hq, rfl, HE, HB⟩ := hrel
      by_cases hlt : q < xs.length
      · have hly : q < ys.length := by rw [← HL.out]; exact hlt
        obtain ⟨x, hx⟩ : ∃ x, xs[q]? = some x := ⟨_, List.getElem?_eq_getElem hlt⟩
        obtain ⟨y, hy⟩ : ∃ y, ys[q]? = some y := ⟨_, List.getElem?_eq_getElem hly⟩
        obtain ⟨g, o, c1, hv1, hc1⟩ := z_cells ((HX.out).grow HB.out) hx
        obtain ⟨g2, o2, c2, hv2, hc2⟩ := z_cells ((HY.out).grow HB.out) hy
        injection hv1 with e1 e2 e3
        injection hv2 with e4 e5 e6
        subst e1 e3 e4 e6
        have e1 := takel_at hx
        have e2 := takel_at hy
        by_cases hxy : x = y
        · have hb : (x != y) = false := by simp [hxy]
          have HS := Lib.hid (show xs.take (q + 1) = ys.take (q + 1) by rw [e1, e2, HE.out, hxy])
          clear hx hy e1 e2 hxy
          go_wp2_with fail
          go_quiet (fail)
          go_wp2_with fail
          go_roundw
          case rel => exact ⟨q + 1, by omega, by go_num, HS, Lib.hid (grown_trans HB.out (grown_draws _ _))⟩
          case measure => simp [intOf]; omega
        · have hb : (x != y) = true := by simp [hxy]
          have hne2 : xs ≠ ys := fun e => hxy (by rw [e] at hx; rw [hx] at hy; cases hy; rfl)
          have hd2 : d = false := by rw [← HD.out]; simp [hne2]
          subst hd2
          clear hx hy e1 e2 hxy hne2
          go_wp2_with fail
          go_quiet (fail)
          go_wp2_with fail
          go_ret
          exact ⟨rfl, grown_trans HB.out (grown_draws _ _)⟩
      · obtain rfl : q = xs.length := by omega
        have hd2 : d = true := by
          rw [← HD.out]
          have h1 : xs.take xs.length = xs := List.take_length
          have h2 : ys.take xs.length = ys := by rw [HL.out, List.take_length]
          have := HE.out
          rw [h1, h2] at this
          simp [this]
        subst hd2
        go_wp2_with fail
        go_ret
        exact ⟨rfl, HB.out⟩
  · have hb : ((xs.length : Int) != (ys.length : Int)) = true := by simp; omega
    have hd2 : d = false := by rw [← hd]; exact decide_eq_false fun e => hlm (by rw [e])
    subst hd2
    clear hx hy hd hlm
    go_enter Try.func25, Try.ntmps25
    go_wp2_with fail
    go_ret
    exact ⟨rfl, grown_refl _ _⟩
end Go.Proofs.Ytefcefclncbimaa
