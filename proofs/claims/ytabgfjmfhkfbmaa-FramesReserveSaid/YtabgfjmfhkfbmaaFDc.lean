/- Package frames: a count that is added to; what is done to a frame that is not free; Give, Own, Wire, Loan. -/
import Derived.Test.YtabgfjmfhkfbmaaFDb
import Derived.Shelf.Abstract
namespace Go.Proofs.Ytabgfjmfhkfbmaa
open Go.ChangeShapes Go.WideShapes Go.ChangeAt Go.RowKit Go.Deep
set_option linter.unusedVariables false

theorem add_ok (w : World) (g o : Nat) (n b : Int) (h0 : 0 ≤ n) (h1 : n ≤ 1000000) (hm : mayBy n b) (hc : w.cell? ⟨g, o, none⟩ = some (.int .i64 n)) (hf : w.frozen? ⟨g, o, none⟩ = false) :
    Calls Try.prog 37 #[.pointer (some ⟨g, o, none⟩), .int .i64 b] w fun e w' => e = .returned (.int .i64 0) ∧ w' = w.setCell ⟨g, o, none⟩ (.int .i64 (n + b)) := by
  have h2 := hm.1
  have h3 := hm.2
  have d0 : decide (b < -n) = false := by simp; omega
  have d1 : decide (b > 1000000 - n) = false := by simp; omega
  clear hm
  go_enter Try.func37, Try.ntmps37
  go_wp2_with fail
  go_ret
  exact ⟨rfl, rfl⟩
theorem add_no (w : World) (g o : Nat) (n b : Int) (h0 : 0 ≤ n) (h1 : n ≤ 1000000) (hm : ¬ mayBy n b) (hc : w.cell? ⟨g, o, none⟩ = some (.int .i64 n)) :
    Calls Try.prog 37 #[.pointer (some ⟨g, o, none⟩), .int .i64 b] w fun e w' => e = .returned (.int .i64 2) ∧ w' = w := by
  by_cases h2 : b < -n
  · have d0 : decide (b < -n) = true := by simpa using h2
    clear hm h2
    go_enter Try.func37, Try.ntmps37
    go_wp2_with fail
    go_ret
    exact ⟨rfl, rfl⟩
  · have h3 : b > 1000000 - n := by unfold mayBy at hm; omega
    have d0 : decide (b < -n) = false := by simpa using h2
    have d1 : decide (b > 1000000 - n) = true := by simpa using h3
    clear hm h2
    go_enter Try.func37, Try.ntmps37
    go_wp2_with fail
    go_ret
    exact ⟨rfl, rfl⟩

section
variable {w : World} {r g c : Nat} {rs : Int} {xs : List FrV}

set_option maxHeartbeats 1000000 in
theorem change_walk (gf : Nat) (cap : Array Value) (eg : ∀ args w, (callFunc gf args).run Try.prog w = .ok (.enter gf args) w) (h : FP w r rs xs g c) (fr : Int) (f : FrV → Int × FrV)
    (HC : ∀ (k : Nat) x, fr = k → xs[k]? = some x → x.cl ≠ 0 → Calls Try.prog gf (#[.pointer (some ⟨g, k * 5, none⟩)] ++ cap) w fun e w' => e = .returned (.int .i64 (f x).1) ∧ FLeft PP w w' r rs [r, g] (xs.set k (f x).2)) :
    Calls Try.prog 34 #[.pointer (some ⟨r, 0, none⟩), .int .i64 fr, .func (.func gf) #[] cap] w fun e w' => e = .returned (.int .i64 (atF xs fr f).e) ∧ FLeft PP w w' r rs [r, g] (atF xs fr f).xs := by
  have HR := Lib.hid h
  have HM := Lib.hid (fr_made h)
  obtain ⟨c0, c1⟩ := h.at
  by_cases hc : 0 ≤ fr ∧ fr < xs.length
  · obtain ⟨k, rfl⟩ := Int.eq_ofNat_of_zero_le hc.1
    have hk : k < xs.length := by omega
    obtain ⟨x, hx⟩ : ∃ x, xs[k]? = some x := ⟨_, List.getElem?_eq_getElem hk⟩
    have HH := Lib.hid (fr_has h k true (by rw [decide_eq_true hc]))
    obtain ⟨f0, f1, f2, f3, f4⟩ := h.fr hx
    have hg := zero_iff (h.good x (List.mem_of_getElem? hx))
    have hl1 := h.len1
    by_cases h0 : x.cl = 0
    · rw [show atF xs k f = ⟨0, 2, xs⟩ from atF_free hx h0]
      have hd : decide (x.cl = 0 ∧ x.ow = 0 ∧ x.ix = 0 ∧ x.wi = 0 ∧ x.lo = 0) = true := decide_eq_true (hg.2 h0)
      have hq : ∀ wx : World, (binOp .eql 36 (.agg #[.int .i64 x.cl, .int .i64 x.ow, .int .i64 x.ix, .int .i64 x.wi, .int .i64 x.lo]) (.agg #[.int .i64 0, .int .i64 0, .int .i64 0, .int .i64 0, .int .i64 0])).run Try.prog wx = .ok (.bool true) wx := fun wx => by rw [eql_zero_r, hd]
      clear h HC hc hx hg h0 hd
      go_enter Try.func34, Try.ntmps34
      go_wp2_with fail
      refine HM.out.mono ?_
      rintro e w2 ⟨rfl, e2⟩
      subst w2
      go_wp2_with fail
      refine HH.out.mono ?_
      rintro e w2 ⟨rfl, e2⟩
      subst w2
      go_wp2_with fail
      go_ret
      exact ⟨rfl, HR.out.stay⟩
    · rw [show atF xs k f = ⟨0, (f x).1, xs.set k (f x).2⟩ from atF_at hx h0]
      have hd : decide (x.cl = 0 ∧ x.ow = 0 ∧ x.ix = 0 ∧ x.wi = 0 ∧ x.lo = 0) = false := decide_eq_false (fun q => h0 q.1)
      have hq : ∀ wx : World, (binOp .eql 36 (.agg #[.int .i64 x.cl, .int .i64 x.ow, .int .i64 x.ix, .int .i64 x.wi, .int .i64 x.lo]) (.agg #[.int .i64 0, .int .i64 0, .int .i64 0, .int .i64 0, .int .i64 0])).run Try.prog wx = .ok (.bool false) wx := fun wx => by rw [eql_zero_r, hd]
      have HC2 := Lib.hid (HC k x rfl hx h0)
      clear h HC hc hx hg h0 hd
      go_enter Try.func34, Try.ntmps34
      go_wp2_with fail
      refine HM.out.mono ?_
      rintro e w2 ⟨rfl, e2⟩
      subst w2
      go_wp2_with fail
      refine HH.out.mono ?_
      rintro e w2 ⟨rfl, e2⟩
      subst w2
      go_wp2_with (go_at_fn gf; refine HC2.out.mono ?_; rintro e w3 ⟨rfl, h3⟩; have H3 := Lib.hid h3; clear h3)
      go_ret
      exact ⟨rfl, H3.out⟩
  · have HH := Lib.hid (fr_has h fr false (by rw [decide_eq_false hc]))
    rw [show atF xs fr f = ⟨0, 7, xs⟩ from atF_out hc]
    clear h HC hc
    go_enter Try.func34, Try.ntmps34
    go_wp2_with fail
    refine HM.out.mono ?_
    rintro e w2 ⟨rfl, e2⟩
    subst w2
    go_wp2_with fail
    refine HH.out.mono ?_
    rintro e w2 ⟨rfl, e2⟩
    subst w2
    go_wp2_with fail
    go_ret
    exact ⟨rfl, HR.out.stay⟩

/-- A change that leaves the frame as it is. -/
theorem FP.same (h : FP w r rs xs g c) {w' : World} (q : w.grownBy w' none) {k : Nat} {x : FrV} (hx : xs[k]? = some x) : FLeft PP w w' r rs [r, g] (xs.set k x) := by
  rw [set_self hx]
  exact h.stay' q

end
end Go.Proofs.Ytabgfjmfhkfbmaa
