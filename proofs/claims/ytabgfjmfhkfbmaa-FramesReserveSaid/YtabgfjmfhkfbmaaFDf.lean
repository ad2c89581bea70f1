/- Package frames: Own; of no pool, and of one that no call made; all that the interface asks. -/
import Derived.Test.YtabgfjmfhkfbmaaFDe
import Derived.Test.YtabgfjmfhkfbmaaFNone
namespace Go.Proofs.Ytabgfjmfhkfbmaa
open Go.ChangeShapes Go.WideShapes Go.ChangeAt Go.RowKit Go.Deep
set_option linter.unusedVariables false

section
variable {w : World} {r g c : Nat} {rs : Int} {xs : List FrV}
def ownX (cl ow ix : Int) (x : FrV) : Int × FrV := if isCls cl then (0, ⟨cl, ow, ix, x.wi, x.lo⟩) else (2, x)

theorem FP.left_own (h : FP w r rs xs g c) {k : Nat} {x : FrV} (hx : xs[k]? = some x) (cl ow ix : Int) (hm : isCls cl) (ho : okI ow) (hi : okI ix) :
    FLeft PP w (((w.setCell ⟨g, k * 5, none⟩ (.int .i64 cl)).setCell ⟨g, k * 5 + 1, none⟩ (.int .i64 ow)).setCell ⟨g, k * 5 + 2, none⟩ (.int .i64 ix)) r rs [r, g] (xs.set k ⟨cl, ow, ix, x.wi, x.lo⟩) := by
  have hk := (List.getElem?_eq_some_iff.1 hx).1
  have hgx := h.good x (List.mem_of_getElem? hx)
  have h1 := hm.1
  have h2 := hm.2
  have gd : ∀ o i, okI o → okI i → GoodF ⟨cl, o, i, x.wi, x.lo⟩ := fun o i ho hi => ⟨by show (0 : Int) ≤ cl; omega, h2, fun e => by have : cl = 0 := e; omega, hgx.w0, hgx.w1, hgx.l0, hgx.l1, ho, hi⟩
  have k1 := h.one hx (q := 0) (by omega) (gd x.ow x.ix hgx.ow hgx.ix) (v := .int .i64 cl) rfl
  have x1 : (xs.set k ⟨cl, x.ow, x.ix, x.wi, x.lo⟩)[k]? = some ⟨cl, x.ow, x.ix, x.wi, x.lo⟩ := List.getElem?_set_self hk
  have k2 := k1.one x1 (q := 1) (by omega) (gd ow x.ix ho hgx.ix) (v := .int .i64 ow) rfl
  rw [List.set_set] at k2
  have x2 : (xs.set k ⟨cl, ow, x.ix, x.wi, x.lo⟩)[k]? = some ⟨cl, ow, x.ix, x.wi, x.lo⟩ := List.getElem?_set_self hk
  have k3 := k2.one x2 (q := 2) (by omega) (gd ow ix ho hi) (v := .int .i64 ix) rfl
  rw [List.set_set] at k3
  exact ⟨[r, g], ⟨g, c, rfl, k3⟩, ((Turn.setCell [r, g] _ g _ _ (by simp)).trans' (Turn.setCell [r, g] _ g _ _ (by simp))).trans' (Turn.setCell [r, g] _ g _ _ (by simp)), fun b hb => .inl hb⟩

theorem FLeft.drew {w w' : World} {p : Nat} {rs : Int} {O : List Nat} {zs : List FrV} (h : FLeft PP w w' p rs O zs) : FLeft PP w w'.drew p rs O zs := by
  obtain ⟨O', ⟨g, c, e, h1⟩, h2, h3⟩ := h
  exact ⟨O', ⟨g, c, e, h1.grow (grown_drew1 _)⟩, h2.trans' (Turn.grown (grown_drew1 _)), h3⟩

def Caps (W : World) (B : Nat) (cl ow ix : Int) : Prop := W.cell? ⟨B, 0, none⟩ = some (.int .i64 cl) ∧ W.cell? ⟨B + 1, 0, none⟩ = some (.int .i64 ow) ∧ W.cell? ⟨B + 1 + 1, 0, none⟩ = some (.int .i64 ix)
theorem Caps.set {W : World} {B : Nat} {cl ow ix : Int} (h : Caps W B cl ow ix) {g : Nat} (hg : g < B) (o : Nat) (v : Value) : Caps (W.setCell ⟨g, o, none⟩ v) B cl ow ix := by
  have key : ∀ b, b ≠ g → (W.setCell ⟨g, o, none⟩ v).heap[b]? = W.heap[b]? := fun b hb => heap_setCell_other W _ b v (by first | exact hb | exact hb.symm)
  exact ⟨(World.cell?_of_block (a := ⟨B, 0, none⟩) (key B (by omega))).trans h.1, (World.cell?_of_block (a := ⟨B + 1, 0, none⟩) (key (B + 1) (by omega))).trans h.2.1, (World.cell?_of_block (a := ⟨B + 1 + 1, 0, none⟩) (key (B + 1 + 1) (by omega))).trans h.2.2⟩
theorem Caps.drew {W : World} {B : Nat} {cl ow ix : Int} (h : Caps W B cl ow ix) : Caps W.drew B cl ow ix := h

set_option maxHeartbeats 1000000 in
theorem own_fn (h : FP w r rs xs g c) {k : Nat} {x : FrV} (hx : xs[k]? = some x) (B : Nat) (cl ow ix : Int) (hB : Caps w B cl ow ix) (hBg : g < B) (ho : okI ow) (hi : okI ix) :
    Calls Try.prog 39 (#[.pointer (some ⟨g, k * 5, none⟩)] ++ #[.pointer (some ⟨B, 0, none⟩), .pointer (some ⟨B + 1, 0, none⟩), .pointer (some ⟨B + 1 + 1, 0, none⟩)]) w fun e w' => e = .returned (.int .i64 (ownX cl ow ix x).1) ∧ FLeft PP w w' r rs [r, g] (xs.set k (ownX cl ow ix x).2) := by
  show Calls Try.prog 39 #[.pointer (some ⟨g, k * 5, none⟩), .pointer (some ⟨B, 0, none⟩), .pointer (some ⟨B + 1, 0, none⟩), .pointer (some ⟨B + 1 + 1, 0, none⟩)] w _
  obtain ⟨b0, b1, b2⟩ := hB
  by_cases hm : isCls cl
  · have ha : ownX cl ow ix x = (0, ⟨cl, ow, ix, x.wi, x.lo⟩) := if_pos hm
    rw [ha]
    have HY := Lib.hid (fr_may cl true (by rw [decide_eq_true hm]) w)
    have HS := Lib.hid (h.left_own hx cl ow ix hm ho hi).drew
    obtain ⟨f0, f1, f2, f3, f4⟩ := h.fr hx
    obtain ⟨cur, hcur, _⟩ := h.cur
    have z0 := frozen_of_row w g (k * 5) _ _ hcur
    have z1 := frozen_of_row w g (k * 5 + 1) _ _ hcur
    have z2 := frozen_of_row w g (k * 5 + 2) _ _ hcur
    have HB : Caps w B cl ow ix := ⟨b0, b1, b2⟩
    have s0 := Lib.hid HB.drew
    have s1 := Lib.hid (HB.set hBg (k * 5) (.int .i64 cl)).drew
    have s2 := Lib.hid ((HB.set hBg (k * 5) (.int .i64 cl)).set hBg (k * 5 + 1) (.int .i64 ow)).drew
    have s3 := Lib.hid (((HB.set hBg (k * 5) (.int .i64 cl)).set hBg (k * 5 + 1) (.int .i64 ow)).set hBg (k * 5 + 2) (.int .i64 ix)).drew
    unfold Caps at s0 s1 s2 s3
    clear h hx hm ha hcur ho hi HB hBg
    go_enter Try.func39, Try.ntmps39
    go_wp2_with fail
    refine HY.out.mono ?_
    rintro e w2 ⟨rfl, e2⟩
    subst w2
    go_wp2_with fail
    go_region_held3 (fun W => W.cell? ⟨B, 0, none⟩ = some (.int .i64 cl) ∧ W.cell? ⟨B + 1, 0, none⟩ = some (.int .i64 ow) ∧ W.cell? ⟨B + 1 + 1, 0, none⟩ = some (.int .i64 ix)) (first | with_reducible exact s0.out | with_reducible exact s1.out | with_reducible exact s2.out | with_reducible exact s3.out)
      (fail)
    all_goals
      go_wp2_with fail
      go_ret
      exact ⟨rfl, HS.out⟩
  · have ha : ownX cl ow ix x = (2, x) := if_neg hm
    rw [ha]
    have HY := Lib.hid (fr_may cl false (by rw [decide_eq_false hm]) w)
    have HS := Lib.hid (h.same (grown_refl _ _) hx)
    clear h hx hm ha ho hi hBg
    go_enter Try.func39, Try.ntmps39
    go_wp2_with fail
    refine HY.out.mono ?_
    rintro e w2 ⟨rfl, e2⟩
    subst w2
    go_wp2_with fail
    go_ret
    exact ⟨rfl, HS.out⟩

theorem fr_own (h : FP w r rs xs g c) (fr cl ow ix : Int) (ho : okI ow) (hi : okI ix) :
    Calls Try.prog 22 #[.pointer (some ⟨r, 0, none⟩), .int .i64 fr, .int .i64 cl, .int .i64 ow, .int .i64 ix] w fun e w' => e = .returned (.int .i64 (ownF xs fr cl ow ix).e) ∧ FLeft PP w w' r rs [r, g] (ownF xs fr cl ow ix).xs := by
  have ga := World.grownBy_alloc w (.cells #[.int .i64 cl] 3 (0, 0)) none
  have gb := grown_trans ga (World.grownBy_alloc (w.alloc (.cells #[.int .i64 cl] 3 (0, 0))) (.cells #[.int .i64 ow] 3 (0, 0)) none)
  have gc := World.grownBy_alloc ((w.alloc (.cells #[.int .i64 cl] 3 (0, 0))).alloc (.cells #[.int .i64 ow] 3 (0, 0))) (.cells #[.int .i64 ix] 3 (0, 0)) none
  have hb0 := heap_alloc_new w (.cells #[.int .i64 cl] 3 (0, 0))
  have hb1 := heap_alloc_new (w.alloc (.cells #[.int .i64 cl] 3 (0, 0))) (.cells #[.int .i64 ow] 3 (0, 0))
  have hb2 := heap_alloc_new ((w.alloc (.cells #[.int .i64 cl] 3 (0, 0))).alloc (.cells #[.int .i64 ow] 3 (0, 0))) (.cells #[.int .i64 ix] 3 (0, 0))
  have hs1 := World.size_alloc w (.cells #[.int .i64 cl] 3 (0, 0))
  have hs2 := World.size_alloc (w.alloc (.cells #[.int .i64 cl] 3 (0, 0))) (.cells #[.int .i64 ow] 3 (0, 0))
  have hb0' := (grown_trans (World.grownBy_alloc (w.alloc (.cells #[.int .i64 cl] 3 (0, 0))) (.cells #[.int .i64 ow] 3 (0, 0)) none) gc).block w.heap.size (by rw [hs1]; omega) (by simp) |>.trans hb0
  have hb1' := gc.block (w.heap.size + 1) (by rw [hs2, hs1]; omega) (by simp) |>.trans (hs1 ▸ hb1)
  have hB : Caps (((w.alloc (.cells #[.int .i64 cl] 3 (0, 0))).alloc (.cells #[.int .i64 ow] 3 (0, 0))).alloc (.cells #[.int .i64 ix] 3 (0, 0))) w.heap.size cl ow ix := by
    refine ⟨by rw [cell_of_row _ _ _ _ _ _ hb0']; rfl, by rw [cell_of_row _ _ _ _ _ _ hb1']; rfl, ?_⟩
    rw [hs2, hs1] at hb2
    rw [cell_of_row _ _ _ _ _ _ hb2]; rfl
  have HC := Lib.hid (change_walk 39 #[.pointer (some ⟨w.heap.size, 0, none⟩), .pointer (some ⟨w.heap.size + 1, 0, none⟩), .pointer (some ⟨w.heap.size + 1 + 1, 0, none⟩)] (enters_of Try.func39 (by kernel_rfl) rfl) (h.grow (grown_trans gb gc)) fr (ownX cl ow ix) fun k x _ hx hc => own_fn (h.grow (grown_trans gb gc)) hx _ cl ow ix hB h.glt ho hi)
  have HG := Lib.hid (grown_trans gb gc)
  clear h ga gb gc hb0 hb1 hb2 hb0' hb1' hB ho hi
  go_enter Try.func22, Try.ntmps22
  go_wp2_with fail
  refine HC.out.mono ?_
  rintro e w2 ⟨rfl, h2⟩
  have H2 := Lib.hid (h2.back HG.out)
  clear h2
  go_wp2_with fail
  go_ret
  exact ⟨rfl, H2.out⟩
end
end Go.Proofs.Ytabgfjmfhkfbmaa
