/- Package frames: what is done to a frame: Give, Own, Wire, Loan. -/
import Derived.Test.YtabgfjmfhkfbmaaFDc
namespace Go.Proofs.Ytabgfjmfhkfbmaa
open Go.ChangeShapes Go.WideShapes Go.ChangeAt Go.RowKit Go.Deep
set_option linter.unusedVariables false

section
variable {w : World} {r g c : Nat} {rs : Int} {xs : List FrV}
/-! ### Give -/
def giveX (x : FrV) : Int × FrV := if x.wi ≠ 0 ∨ x.lo ≠ 0 then (8, x) else (0, zeroF)
set_option maxHeartbeats 1000000 in
theorem give_fn (h : FP w r rs xs g c) {k : Nat} {x : FrV} (hx : xs[k]? = some x) :
    Calls Try.prog 35 (#[.pointer (some ⟨g, k * 5, none⟩)] ++ #[]) w fun e w' => e = .returned (.int .i64 (giveX x).1) ∧ FLeft PP w w' r rs [r, g] (xs.set k (giveX x).2) := by
  show Calls Try.prog 35 #[.pointer (some ⟨g, k * 5, none⟩)] w _
  obtain ⟨f0, f1, f2, f3, f4⟩ := h.fr hx
  by_cases hw : x.wi = 0
  · have b1 : (x.wi != 0) = false := by simpa using hw
    by_cases hl : x.lo = 0
    · have b2 : (x.lo != 0) = false := by simpa using hl
      have ha : giveX x = (0, zeroF) := if_neg (by rintro (q | q) <;> contradiction)
      rw [ha]
      obtain ⟨cur, hcur, _⟩ := h.cur
      have z0 := frozen_of_row w g (k * 5) _ _ hcur
      have z1 := frozen_of_row w g (k * 5 + 1) _ _ hcur
      have z2 := frozen_of_row w g (k * 5 + 2) _ _ hcur
      have z3 := frozen_of_row w g (k * 5 + 3) _ _ hcur
      have z4 := frozen_of_row w g (k * 5 + 4) _ _ hcur
      have hS := h.left k zeroF (List.getElem?_eq_some_iff.1 hx).1 good_zero
      unfold zeroF at hS ⊢
      simp only at hS ⊢
      have HS := Lib.hid hS
      clear hS
      clear h hx hw hl ha hcur
      go_enter Try.func35, Try.ntmps35
      go_wp2_with fail
      go_ret
      exact ⟨rfl, HS.out⟩
    · have b2 : (x.lo != 0) = true := by simpa using hl
      have ha : giveX x = (8, x) := if_pos (.inr hl)
      rw [ha]
      have HS := Lib.hid (h.same (grown_refl _ _) hx)
      clear h hx hw hl ha
      go_enter Try.func35, Try.ntmps35
      go_wp2_with fail
      go_ret
      exact ⟨rfl, HS.out⟩
  · have b1 : (x.wi != 0) = true := by simpa using hw
    have ha : giveX x = (8, x) := if_pos (.inl hw)
    rw [ha]
    have HS := Lib.hid (h.same (grown_refl _ _) hx)
    clear h hx hw ha
    go_enter Try.func35, Try.ntmps35
    go_wp2_with fail
    go_ret
    exact ⟨rfl, HS.out⟩
theorem fr_give (h : FP w r rs xs g c) (fr : Int) :
    Calls Try.prog 19 #[.pointer (some ⟨r, 0, none⟩), .int .i64 fr] w fun e w' => e = .returned (.int .i64 (giveF xs fr).e) ∧ FLeft PP w w' r rs [r, g] (giveF xs fr).xs := by
  have HC := Lib.hid (change_walk 35 #[] (enters_of Try.func35 (by kernel_rfl) rfl) h fr giveX fun k x _ hx _ => give_fn h hx)
  clear h
  go_enter Try.func19, Try.ntmps19
  go_wp2_with fail
  refine HC.out.mono ?_
  rintro e w2 ⟨rfl, h2⟩
  have H2 := Lib.hid h2
  clear h2
  go_wp2_with fail
  go_ret
  exact ⟨rfl, H2.out⟩
end
end Go.Proofs.Ytabgfjmfhkfbmaa
