/- Package anon (landed): Ref's closure; what becomes of a pool where one goes. -/
import Derived.Test.YtpiemnffbcgbmaaNDb
namespace Go.Proofs.Ytpiemnffbcgbmaa
open Go.ChangeShapes Go.WideShapes Go.ChangeAt Go.RowKit Go.Deep
set_option linter.unusedVariables false

section
variable {w w' w2 : World} {p most M : Nat} {hv : Value} {zs : List Int} {N : List (Int × Nat)} {L : List AnV}
set_option maxHeartbeats 1000000 in
theorem ref_fn_no {b F S : Nat} {x : AnV} (hx : AB w b 36 x) (hg : GoodX x) (by_ : Int) (hF : w.cell? ⟨F, 0, none⟩ = some (.int .i64 by_)) (hm : ¬ mayN x.re by_) :
    Calls Try.prog 30 (#[.pointer (some ⟨b, 0, none⟩)] ++ #[.pointer (some ⟨F, 0, none⟩), .pointer (some ⟨S, 0, none⟩)]) w fun e w' => ∃ z : Int, e = .returned (.int .i64 z) ∧ z = 2 ∧ w.grownBy w' none := by
  show Calls Try.prog 30 #[.pointer (some ⟨b, 0, none⟩), .pointer (some ⟨F, 0, none⟩), .pointer (some ⟨S, 0, none⟩)] w _
  obtain ⟨x0, x1, x2⟩ := hx.at
  obtain ⟨xr, xf, xs⟩ := x
  have r0 : 0 ≤ xr := hg.r0
  have r1 : xr ≤ 1000000 := hg.r1
  simp only at x0 hm
  have dd : (decide (by_ < -xr) = true) ∨ (decide (by_ < -xr) = false ∧ decide (by_ > 1000000 - xr) = true) := by
    unfold mayN at hm
    by_cases h : by_ < -xr
    · exact .inl (decide_eq_true h)
    · exact .inr ⟨decide_eq_false h, decide_eq_true (by omega)⟩
  clear hx x1 x2 hm hg
  rcases dd with d0 | ⟨d0, d1⟩
  all_goals
    go_enter Try.func30, Try.ntmps30
    go_wp2_with fail
    go_quiet (fail)
    go_wp2_with fail
    go_ret
    exact ⟨2, rfl, rfl, grown_draws _ _⟩
set_option maxHeartbeats 1000000 in
theorem ref_fn {b F S : Nat} {x y : AnV} (hx : AB w b 36 x) (hy : AB w S 36 y) (hg : GoodX x) (by_ : Int) (hF : w.cell? ⟨F, 0, none⟩ = some (.int .i64 by_)) (hFb : F ≠ b) (hSb : S ≠ b) (hm : mayN x.re by_) :
    Calls Try.prog 30 (#[.pointer (some ⟨b, 0, none⟩)] ++ #[.pointer (some ⟨F, 0, none⟩), .pointer (some ⟨S, 0, none⟩)]) w fun e w' => ∃ z : Int, e = .returned (.int .i64 z) ∧ z = 0 ∧ AB w' b 36 ⟨x.re + by_, x.fr, x.sl⟩ ∧ AB w' S 36 ⟨x.re + by_, x.fr, x.sl⟩ ∧ Turn [b, S] w w' := by
  show Calls Try.prog 30 #[.pointer (some ⟨b, 0, none⟩), .pointer (some ⟨F, 0, none⟩), .pointer (some ⟨S, 0, none⟩)] w _
  obtain ⟨x0, x1, x2⟩ := hx.at
  obtain ⟨y0, y1, y2⟩ := hy.at
  have z0 := hx.frozen 0
  have f0 := hy.frozen 0
  have f1 := hy.frozen 1
  have f2 := hy.frozen 2
  have HX := Lib.hid hx
  have HY := Lib.hid hy
  obtain ⟨xr, xf, xs⟩ := x
  have r0 : 0 ≤ xr := hg.r0
  have r1 : xr ≤ 1000000 := hg.r1
  have m0 := hm.1
  have m1 := hm.2
  simp only at x0 x1 x2 m0 m1
  have d0 : decide (by_ < -xr) = false := decide_eq_false (by omega)
  have d1 : decide (by_ > 1000000 - xr) = false := decide_eq_false (by omega)
  clear hx hy hm hg
  go_enter Try.func30, Try.ntmps30
  go_wp2_with fail
  go_quiet (fail)
  go_wp2_with fail
  go_region
  have hX1 : AB ((w.drewN (nq + 1)).setCell ⟨b, 0, none⟩ (.int .i64 (xr + by_))) b 36 ⟨xr + by_, xf, xs⟩ := heap_setCell_same (w.drewN (nq + 1)) b 0 _ _ (.int .i64 (xr + by_)) HX.out
  have hY1 : AB ((w.drewN (nq + 1)).setCell ⟨b, 0, none⟩ (.int .i64 (xr + by_))) S 36 y := AB.kept (w := w) HY.out (heap_setCell_other (w.drewN (nq + 1)) ⟨b, 0, none⟩ S _ (by first | exact hSb | exact hSb.symm))
  have hT1 : Turn [b, S] w ((w.drewN (nq + 1)).setCell ⟨b, 0, none⟩ (.int .i64 (xr + by_))) := (Turn.grown (grown_draws w (nq + 1))).trans' (Turn.setCell _ _ b 0 _ (by simp))
  generalize (w.drewN (nq + 1)).setCell ⟨b, 0, none⟩ (.int .i64 (xr + by_)) = W1 at *
  obtain ⟨x0, x1, x2⟩ := hX1.at
  obtain ⟨y0, y1, y2⟩ := hY1.at
  have f0 := hY1.frozen 0
  have f1 := hY1.frozen 1
  have f2 := hY1.frozen 2
  simp only at x0 x1 x2
  have HX1 := Lib.hid hX1
  have HY1 := Lib.hid hY1
  have HT1 := Lib.hid hT1
  clear hX1 hY1 hT1
  go_wp2_with fail
  go_ret
  have hg := grown_three W1 S 0 (.int .i64 (xr + by_)) (.int .i64 xf) (.int .i64 xs)
  refine ⟨0, rfl, rfl, HX1.out.kept (hg.block b HX1.out.lt (fun e => hSb (Option.some.inj e).symm)), heap_three _ _ _ _ _ _ HY1.out, HT1.out.trans' (Turn.one hg (by simp))⟩

/-! ### one goes -/
theorem PA.gone {N1 N2 : List (Int × Nat)} {i b : Nat} {x : AnV} (h : PA w p most M hv zs (N1 ++ ((i : Int) + 1, b) :: N2) L) (hl : liveB L i = true) (h0 : x.re = 0) (hG : GoodX x) {W : World} {hv' : Value} {zs' : List Int}
    (hf : FreeS W p (.map (some M)) hv' zs') (hz : zs'.Perm (((i : Int) + 1) :: zs)) (hm : MapOf Try.prog 3 klI W M (N1 ++ N2)) (hb : ∀ n, n ∈ N1 ++ N2 → W.heap[n.2]? = w.heap[n.2]?) : PA W p most M hv' zs' (N1 ++ N2) (L.set i x) := by
  have hi := live_lt hl
  have him := Nat.lt_of_lt_of_le hi h.good.len
  have hsub : ∀ n, n ∈ N1 ++ N2 → n ∈ N1 ++ ((i : Int) + 1, b) :: N2 := fun n hn => by
    rcases List.mem_append.1 hn with q | q
    · exact List.mem_append_left _ q
    · exact List.mem_append_right _ (List.mem_cons_of_mem _ q)
  have hp : (N1 ++ ((i : Int) + 1, b) :: N2).Perm (((i : Int) + 1, b) :: (N1 ++ N2)) := List.perm_middle
  have hnd := h.nodup
  have hne : ∀ n, n ∈ N1 ++ N2 → n.1 ≠ (i : Int) + 1 := fun n hn e => by
    have h1 := ((hp.map (·.1)).nodup_iff).1 hnd
    rw [List.map_cons, List.nodup_cons] at h1
    exact h1.1 (List.mem_map.2 ⟨n, hn, e⟩)
  refine ⟨hf, hm, ?_, fun n hn => ?_, ?_, ?_, h.good.set i hG⟩
  · have h1 := ((hp.map (·.1)).symm.trans h.ids).trans (go_ids hi hl h0)
    rw [List.map_cons] at h1
    exact List.Perm.cons_inv h1
  · obtain ⟨y, h1, h2⟩ := h.box n (hsub n hn)
    exact ⟨y, by rw [← putL_set hi, getN_other (Nat.le_of_lt hi) (hne n hn)]; exact h1, h2.kept (hb n hn)⟩
  · have h1 := ((hp.map (·.2)).nodup_iff).1 h.dist
    rw [List.map_cons, List.nodup_cons] at h1
    exact h1.2
  · exact (hz.trans (h.nums.cons _)).trans (go_free hi him hl h0).symm
end
end Go.Proofs.Ytpiemnffbcgbmaa
