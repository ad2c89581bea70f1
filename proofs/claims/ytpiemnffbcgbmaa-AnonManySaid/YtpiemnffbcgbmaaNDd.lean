/- Package anon (landed): Ref, where nothing goes. -/
import Derived.Test.YtpiemnffbcgbmaaNDc
import Derived.Deep.CutBlock
import Derived.Deep.DeepCutAuto
namespace Go.Proofs.Ytpiemnffbcgbmaa
open Go.ChangeShapes Go.WideShapes Go.ChangeAt Go.RowKit Go.Deep
set_option linter.unusedVariables false

/-- Behind Ref's three boxes: by, the result, what the closure tells. -/
structure RefB (w wC : World) (by_ : Int) : Prop where
  grown : w.grownBy wC none
  cell : wC.cell? ⟨w.heap.size, 0, none⟩ = some (.int .i64 by_)
  res : AB wC (w.heap.size + 1) 36 zeroN
  now : AB wC (w.heap.size + 2) 36 zeroN
theorem refB_made (w : World) (by_ : Int) : RefB w (((w.alloc (.cells #[.int .i64 by_] 3 (0, 0))).alloc (.cells #[.int .i64 0, .int .i64 0, .int .i64 0] 36 (0, 0))).alloc (.cells #[.int .i64 0, .int .i64 0, .int .i64 0] 36 (0, 0))) by_ := by
  have g1 := World.grownBy_alloc w (.cells #[.int .i64 by_] 3 (0, 0)) none
  have h1 := heap_alloc_new w (.cells #[.int .i64 by_] 3 (0, 0))
  have e1 : (w.alloc (.cells #[.int .i64 by_] 3 (0, 0))).heap.size = w.heap.size + 1 := by simp
  generalize w.alloc (.cells #[.int .i64 by_] 3 (0, 0)) = w1 at *
  have g2 := World.grownBy_alloc w1 (.cells #[.int .i64 0, .int .i64 0, .int .i64 0] 36 (0, 0)) none
  have h2 := AB.new w1 36 zeroN
  unfold zeroN at h2
  simp only at h2
  have e2 : (w1.alloc (.cells #[.int .i64 0, .int .i64 0, .int .i64 0] 36 (0, 0))).heap.size = w1.heap.size + 1 := by simp
  generalize w1.alloc (.cells #[.int .i64 0, .int .i64 0, .int .i64 0] 36 (0, 0)) = w2 at *
  have g3 := World.grownBy_alloc w2 (.cells #[.int .i64 0, .int .i64 0, .int .i64 0] 36 (0, 0)) none
  have h3 := AB.new w2 36 zeroN
  refine ⟨grown_trans g1 (grown_trans g2 g3), ?_, ?_, ?_⟩
  · have c1 : w1.cell? ⟨w.heap.size, 0, none⟩ = some (.int .i64 by_) := by rw [cell_of_row _ _ _ _ _ _ h1]; rfl
    exact (grown_trans g2 g3).cell (a := ⟨w.heap.size, 0, none⟩) c1 (by simp)
  · rw [e1] at h2
    exact AB.grow h2 g3
  · rw [e2, e1] at h3
    exact h3

section
variable {w w' w2 : World} {p most M : Nat} {hv : Value} {zs : List Int} {N : List (Int × Nat)} {L : List AnV}
set_option maxHeartbeats 2000000 in
theorem pa_ref_none (h : PA w p most M hv zs N L) (id b : Int) (hid : okI id) (hno : id ∉ idsN L) : Calls Try.prog 14 #[.pointer (some ⟨p, 0, none⟩), .int .i64 id, .int .i64 b] w fun e w' => e = .returned (ansN ⟨zeroN, 7, L⟩) ∧ w.grownBy w' none := by
  have hR := refB_made w b
  generalize hwC : ((w.alloc (.cells #[.int .i64 b] 3 (0, 0))).alloc (.cells #[.int .i64 0, .int .i64 0, .int .i64 0] 36 (0, 0))).alloc (.cells #[.int .i64 0, .int .i64 0, .int .i64 0] 36 (0, 0)) = wC at *
  have HC := Lib.hid (change_no 30 #[.pointer (some ⟨w.heap.size, 0, none⟩), .pointer (some ⟨w.heap.size + 2, 0, none⟩)] (h.grow hR.grown) hno hid)
  obtain ⟨n0, n1, n2⟩ := hR.now.at
  obtain ⟨r0, r1, r2⟩ := hR.res.at
  have z0 := hR.res.frozen 0
  have z1 := hR.res.frozen 1
  have z2 := hR.res.frozen 2
  have HR := Lib.hid hR
  unfold zeroN at n0 n1 n2 r0 r1 r2
  simp only at n0 n1 n2 r0 r1 r2
  unfold ansN anAgg zeroN
  simp only
  clear h hno hR
  go_enter Try.func14, Try.ntmps14
  go_wp2_with fail
  refine HC.out.mono ?_
  rintro e w2 ⟨rfl, e2⟩
  subst w2
  go_wp2_with fail
  refine bodyPost_ret (results_pair_tmp rfl _ _ (w.heap.size + 1) _ #[.int .i64 0, .int .i64 0, .int .i64 0] (0, 0) _ rfl (heap_three _ _ _ _ _ _ HR.out.res) Try.underlying36 (by kernel_rfl) (by kernel_rfl)) rfl ?_
  exact ⟨rfl, grown_at HR.out.grown (grown_three _ _ _ _ _ _) (by omega)⟩

set_option maxHeartbeats 2000000 in
theorem pa_ref_inval (h : PA w p most M hv zs N L) {i : Nat} {x : AnV} (b : Int) (hid : okI ((i : Int) + 1)) (hl : liveB L i = true) (hx : getN L ((i : Int) + 1) = some x) (hg : GoodX x) (hm : ¬ mayN x.re b) : Calls Try.prog 14 #[.pointer (some ⟨p, 0, none⟩), .int .i64 ((i : Int) + 1), .int .i64 b] w fun e w' => e = .returned (ansN ⟨zeroN, 2, L⟩) ∧ w.grownBy w' none := by
  have hR := refB_made w b
  generalize hwC : ((w.alloc (.cells #[.int .i64 b] 3 (0, 0))).alloc (.cells #[.int .i64 0, .int .i64 0, .int .i64 0] 36 (0, 0))).alloc (.cells #[.int .i64 0, .int .i64 0, .int .i64 0] 36 (0, 0)) = wC at *
  have hC := h.grow hR.grown
  obtain ⟨y, hy⟩ := hC.there hl
  have HC := Lib.hid (change_yes 30 #[.pointer (some ⟨w.heap.size, 0, none⟩), .pointer (some ⟨w.heap.size + 2, 0, none⟩)] (enters_of Try.func30 (by kernel_rfl) rfl) hC hy hid (fun z w' => z = 2 ∧ wC.grownBy w' none)
    (ref_fn_no (hC.at_box hy hx) hg b hR.cell hm))
  have HR := Lib.hid hR
  unfold ansN anAgg zeroN
  simp only
  clear h hl hR hC hy hx hg hm
  go_enter Try.func14, Try.ntmps14
  go_wp2_with fail
  refine HC.out.mono ?_
  rintro e w2 ⟨z, rfl, rfl, g2⟩
  have hb2 := HR.out.res.grow g2
  obtain ⟨n0, n1, n2⟩ := (HR.out.now.grow g2).at
  obtain ⟨r0, r1, r2⟩ := hb2.at
  have z0 := hb2.frozen 0
  have z1 := hb2.frozen 1
  have z2 := hb2.frozen 2
  unfold zeroN at n0 n1 n2 r0 r1 r2 hb2
  simp only at n0 n1 n2 r0 r1 r2
  have HB2 := Lib.hid hb2
  have HG2 := Lib.hid (grown_trans HR.out.grown g2)
  clear g2 hb2
  go_wp2_with fail
  refine bodyPost_ret (results_pair_tmp rfl _ _ (w.heap.size + 1) _ #[.int .i64 0, .int .i64 0, .int .i64 0] (0, 0) _ rfl (heap_three _ _ _ _ _ _ HB2.out) Try.underlying36 (by kernel_rfl) (by kernel_rfl)) rfl ?_
  exact ⟨rfl, grown_at HG2.out (grown_three _ _ _ _ _ _) (by omega)⟩

set_option maxHeartbeats 2000000 in
theorem pa_ref_stays (h : PA w p most M hv zs N L) {i : Nat} {x : AnV} (b : Int) (hid : okI ((i : Int) + 1)) (hl : liveB L i = true) (hx : getN L ((i : Int) + 1) = some x) (hg : GoodX x) (hm : mayN x.re b) (h0 : x.re + b ≠ 0) :
    Calls Try.prog 14 #[.pointer (some ⟨p, 0, none⟩), .int .i64 ((i : Int) + 1), .int .i64 b] w fun e w' => e = .returned (ansN ⟨⟨x.re + b, x.fr, x.sl⟩, 0, L⟩) ∧ AL DN w w' p most (blkP p M hv N) (L.set i ⟨x.re + b, x.fr, x.sl⟩) := by
  have hR := refB_made w b
  generalize hwC : ((w.alloc (.cells #[.int .i64 b] 3 (0, 0))).alloc (.cells #[.int .i64 0, .int .i64 0, .int .i64 0] 36 (0, 0))).alloc (.cells #[.int .i64 0, .int .i64 0, .int .i64 0] 36 (0, 0)) = wC at *
  have hC := h.grow hR.grown
  obtain ⟨y, hy⟩ := hC.there hl
  have hylt : y < w.heap.size := h.lt y (mem_blkP.2 (.inr (.inr (.inr ⟨_, hy, rfl⟩))))
  have hg2 : GoodX ⟨x.re + b, x.fr, x.sl⟩ := ⟨by have := hm.1; show 0 ≤ x.re + b; omega, by have := hm.2; show x.re + b ≤ 1000000; omega, hg.fr, hg.sl⟩
  have HC := Lib.hid (change_yes 30 #[.pointer (some ⟨w.heap.size, 0, none⟩), .pointer (some ⟨w.heap.size + 2, 0, none⟩)] (enters_of Try.func30 (by kernel_rfl) rfl) hC hy hid (fun z w' => z = 0 ∧ AB w' y 36 ⟨x.re + b, x.fr, x.sl⟩ ∧ AB w' (w.heap.size + 2) 36 ⟨x.re + b, x.fr, x.sl⟩ ∧ Turn [y, w.heap.size + 2] wC w')
    (ref_fn (hC.at_box hy hx) hR.now hg b hR.cell (by omega) (by omega) hm))
  have HS := Lib.hid fun (W : World) (hW : AB W y 36 ⟨x.re + b, x.fr, x.sl⟩) (hoth : ∀ k, k < w.heap.size → k ≠ y → W.heap[k]? = w.heap[k]?) => h.setbox hy hl hW (fun k hk hne => hoth k (h.lt k hk) hne) h0 hg2
  have HY := Lib.hid (mem_blkP.2 (.inr (.inr (.inr ⟨_, hy, rfl⟩))) : y ∈ blkP p M hv N)
  have HR := Lib.hid hR
  obtain ⟨xr, xf, xs⟩ := x
  simp only at *
  have m0 := hm.1
  have m1 := hm.2
  have r0 : 0 ≤ xr := hg.r0
  have r1 : xr ≤ 1000000 := hg.r1
  generalize hX : xr + b = X at *
  have hX0 : (X == 0) = false := by simpa using h0
  unfold ansN anAgg
  simp only
  clear h hl hR hC hy hx hg hm h0 hg2 hX m0 m1 r0 r1
  go_enter Try.func14, Try.ntmps14
  go_wp2_with fail
  refine HC.out.mono ?_
  rintro e w2 ⟨z, rfl, rfl, hy2, hn2, t2⟩
  have hb2 := HR.out.res.kept (t2.block (w.heap.size + 1) HR.out.res.lt (by simp; omega))
  obtain ⟨n0, n1, n2⟩ := hn2.at
  obtain ⟨r0, r1, r2⟩ := hb2.at
  have z0 := hb2.frozen 0
  have z1 := hb2.frozen 1
  have z2 := hb2.frozen 2
  unfold zeroN at r0 r1 r2 hb2
  simp only at n0 n1 n2 r0 r1 r2
  have HB2 := Lib.hid hb2
  have HY2 := Lib.hid hy2
  have HT2 := Lib.hid t2
  clear t2 hb2 hy2 hn2
  go_wp2_with fail
  refine bodyPost_ret (results_pair_tmp rfl _ _ (w.heap.size + 1) _ #[.int .i64 X, .int .i64 xf, .int .i64 xs] (0, 0) _ rfl (heap_three _ _ _ _ _ _ HB2.out) Try.underlying36 (by kernel_rfl) (by kernel_rfl)) rfl ?_
  have hgr := grown_three w2 (w.heap.size + 1) 0 (.int .i64 X) (.int .i64 xf) (.int .i64 xs)
  have hsz := HR.out.grown.size
  have ht : Turn [y, w.heap.size + 2, w.heap.size + 1] wC _ := (HT2.out.mono fun b hb => by simp at hb ⊢; omega).trans' (Turn.one hgr (by simp))
  have hfin := HS.out _ (HY2.out.kept (hgr.block y HY2.out.lt (fun e => by have := Option.some.inj e; omega))) fun k hk hne => by
    rw [ht.block k (by omega) (by simp; omega)]
    exact HR.out.grown.block k hk (by simp)
  refine ⟨rfl, blkP p M hv N, ⟨M, hv, zs, N, hfin, rfl⟩, (Turn.grown HR.out.grown).trans ht fun k hk => ?_, fun k hk => .inl hk⟩
  simp at hk
  rcases hk with rfl | rfl | rfl
  · exact .inl HY.out
  · exact .inr (by omega)
  · exact .inr (by omega)
end
end Go.Proofs.Ytpiemnffbcgbmaa
