/- Package spread (landed): emptied. -/
import Derived.Test.YtfmihbiongnpnaaJDh
namespace Go.Proofs.Ytfmihbiongnpnaa
open Go.ChangeShapes Go.WideShapes Go.ChangeAt Go.RowKit Go.Deep
set_option linter.unusedVariables false
attribute [local go_sem] Oper.semAt_some

theorem kpR_app {G : List Nat} {W w1 : World} {B n₀ k : Nat} {v v' : Value} {xs : List Value} {tmp : Obj} (hv : Boxed W B 39 v) (hrow : W.ownsRow n₀ 3 1 v k xs) (hgrow : (W.alloc tmp).grownBy w1 v.ownBlock) (hB : n₀ ≤ B) (hG : ∀ k, k ∈ G → k < n₀ ∧ k < W.heap.size) :
    KpR G W (w1.setCell ⟨B, 0, none⟩ v') := by
  have hown : ∀ g, v.ownBlock = some g → n₀ ≤ g ∧ ∃ cur, W.heap[g]? = some (.cells cur 3 (0, 0)) := fun g e => by
    rcases hrow.2 with ⟨rfl, _⟩ | ⟨g', cap, cur, rfl, hb, hg, _⟩
    · cases e
    · have e2 : g' = g := by simpa [Value.ownBlock] using e
      subst e2
      exact ⟨hb, cur, hg⟩
  have key : ∀ k, k < W.heap.size → k ≠ B → v.ownBlock ≠ some k → (w1.setCell ⟨B, 0, none⟩ v').heap[k]? = W.heap[k]? := fun k hk h1 h2 =>
    ((heap_setCell_other w1 ⟨B, 0, none⟩ k v' (by first | exact h1 | exact h1.symm)).trans (hgrow.block k (by simp; omega) (fun e => h2 e.symm))).trans ((World.grownBy_alloc W tmp none).block k hk (by simp))
  refine ⟨fun k hk => key k (hG k hk).2 (by have := (hG k hk).1; omega) (fun e => by have := (hown k e).1; have := (hG k hk).1; omega), fun k cs fr hk => (key k (Array.getElem?_eq_some_iff.1 hk).1 (fun e => ?_) fun e => ?_).trans hk⟩
  · subst e
    have := (show W.heap[k]? = _ from hv).symm.trans hk
    injection this with this
    injection this with _ this
    exact absurd this (by decide)
  · obtain ⟨_, cur, hc⟩ := hown k e
    have := hc.symm.trans hk
    injection this with this
    injection this with _ this
    exact absurd this (by decide)

/-- Those whose count is not 0, but is when so much is added, as a machine adds. -/
def isGone (by_ : Int) (x : JI) : Bool := (x.n != 0) && (wrap64 (x.n + by_) == 0)
def gonW (by_ : Int) (xs : List JI) : List Int := (xs.filter (isGone by_)).map (·.i)
theorem gonW_snoc (by_ : Int) (xs : List JI) (x : JI) : gonW by_ (xs ++ [x]) = gonW by_ xs ++ (if isGone by_ x = true then [x.i] else []) := by
  unfold gonW
  rw [List.filter_append, List.map_append]
  congr 1
  cases h : isGone by_ x with
  | true => rw [List.filter_cons_of_pos h]; rfl
  | false => rw [List.filter_cons_of_neg (by rw [h]; decide)]; rfl
theorem gonW_len (by_ : Int) (xs : List JI) : (gonW by_ xs).length ≤ xs.length := by unfold gonW; rw [List.length_map]; exact List.length_filter_le _ _
theorem items_len {L : List Int} {R : List JR} {a b : Int} (h : Loose L a R b) (h0 : 0 ≤ a) : (itemsR R).length = (b - a).toNat := by rw [items_loose h h0, List.length_map, List.length_range]

set_option maxRecDepth 100000 in
set_option maxHeartbeats 4000000 in
theorem emptied_ok {w : World} {u : Value} {L : List Int} {R : List JR} {a b : Int} (h : RunsC w u R) (hs : Loose L a R b) (h0 : 0 ≤ a) (hb4 : b ≤ 4096) (by_ : Int) :
    Calls Try.prog 60 #[u, .int .i64 by_] w fun e w' => ∃ u', e = .returned u' ∧ ZOwn w' w.heap.size u' (gonW by_ (itemsR R)) ∧ w.grownBy w' none := by
  have hle : R.length ≤ 4096 := by have := hs.len; have := hs.le; omega
  have hbd : ∀ r, r ∈ R → 0 ≤ r.lo ∧ r.lo ≤ r.hi ∧ r.hi ≤ 4096 := fun r hr => by have := hs.at hr; omega
  have hil : (itemsR R).length ≤ 4096 := by rw [items_len hs h0]; omega
  have hold : ∀ k, u.ownBlock = some k → k < w.heap.size := fun k e => h.lt e
  obtain ⟨s, c, hv, -⟩ := h.slice
  subst hv
  have HRow := Lib.hid h
  have HBd := Lib.hid hbd
  have HOld := Lib.hid hold
  obtain ⟨i0, hi, hz0, hz1, hz2⟩ := info_parts info_int11
  clear h hs hbd hold h0 hb4
  refine (callsIn_wide (n := 9)).1 ?_
  refine callsIn_of_wp_marks Try.func60 rfl trivial ?_ rfl
  simp only [Try.ntmps60, List.size_toArray, List.length_cons, List.length_nil, Nat.reduceAdd, Nat.reduceSub, Array.replicate_succ, Array.replicate_zero, List.push_toArray, List.append_toArray, List.nil_append, List.cons_append]
  gi_wp2_with fail
  refine ⟨trivial, ?_⟩
  refine (callsIn_wide.2 (counts_of _ _ _ _)).mono ?_
  rintro e w2 ⟨rfl, e2⟩
  subst w2
  gi_wp2_with fail
  have ga1 := World.grownBy_alloc w (.cells #[.int .i64 by_] 3) none
  have ga2 := World.grownBy_alloc (w.alloc (.cells #[.int .i64 by_] 3)) (.cells #[.slice none 0 0] 39) none
  have ga3 := World.grownBy_alloc ((w.alloc (.cells #[.int .i64 by_] 3)).alloc (.cells #[.slice none 0 0] 39)) (.cells #[.slice s R.length c] 96) none
  have bY := ((Boxed.new w 3 (.int .i64 by_)).alloc (.cells #[.slice none 0 0] 39)).alloc (.cells #[.slice s R.length c] 96)
  have bO := (Boxed.new (w.alloc (.cells #[.int .i64 by_] 3)) 39 (.slice none 0 0)).alloc (.cells #[.slice s R.length c] 96)
  have bS := Boxed.new ((w.alloc (.cells #[.int .i64 by_] 3)).alloc (.cells #[.slice none 0 0] 39)) 96 (.slice s R.length c)
  have hsz : (((w.alloc (.cells #[.int .i64 by_] 3)).alloc (.cells #[.slice none 0 0] 39)).alloc (.cells #[.slice s R.length c] 96)).heap.size = w.heap.size + 3 := by simp
  rw [World.size_alloc] at bO bS
  rw [World.size_alloc] at bS
  have hG : ∀ g, (Value.slice s R.length c).ownBlock = some g → g ∈ (Value.slice s R.length c).ownBlock.toList := fun g e => by rw [e]; simp
  have hG2 : ∀ k, k ∈ (Value.slice s R.length c).ownBlock.toList → k < w.heap.size := fun k hk => HOld.out k (by simpa using hk)
  have hg9 := grown_trans ga1 (grown_trans ga2 ga3)
  have hR9 := HRow.out.grow hg9
  generalize hw9 : ((w.alloc (.cells #[.int .i64 by_] 3)).alloc (.cells #[.slice none 0 0] 39)).alloc (.cells #[.slice s R.length c] 96 (0, 0)) = w9 at *
  refine wpIn_rangeFunc_ownG rfl (by omega) (gf := 66) (lb := #[.pointer (some ⟨w.heap.size + 1 + 1, 0, none⟩)]) rfl trivial (enters_of Try.func66 (by kernel_rfl) rfl)
    (counts1_stops 8 (by omega) (w.heap.size + 1 + 1) _ R hle HBd.out _ hG _ bS.cell hR9) (fun h k => kpR_t h k) (fun W l o o' hl ho hc _ => kpR_b (B := w9.heap.size) (fun k hk => by have := hG2 k hk; omega) W l o o' hl ho hc) (Below.refl _ _) (fun _ => rfl)
    (fun pre W => (∃ v, Boxed W (w.heap.size + 1) 39 v ∧ W.ownsRow (w.heap.size + 1) 3 1 v (gonW by_ pre).length ((gonW by_ pre).map (Value.int .i64)) ∧ True) ∧ Boxed W w.heap.size 3 (.int .i64 by_) ∧ w.grownBy W none)
    (fun c pre W => False)
    (OwnFrom.and (Own.from (holdsRow_own (w.heap.size + 1) (w.heap.size + 1) 39 3 1 (fun pre : List JI => (gonW by_ pre).length) (fun pre : List JI => (gonW by_ pre).map (Value.int .i64)) (fun _ _ => True)) _) (OwnFrom.and (Own.from (boxed_own _ _ _) _) (fun s A B row hs hg hr => grown_own hs hg fun x e => by have := (hr x e).1; omega)))
    (fun c s A B row hs hg hr => hs)
    ⟨⟨_, bO, World.ownsRow_nil _ _ _ _, trivial⟩, bY, hg9⟩
    (fun x => { tmps := #[.slice s R.length c, .int .i64 by_, undef, .pointer (some ⟨w.heap.size, 0, none⟩), .slice none 0 0, .pointer (some ⟨w.heap.size + 1, 0, none⟩), .int .i64 x.i, .int .i64 x.n, .slice s R.length c, .func (.func 66) #[] #[.pointer (some ⟨w.heap.size + 1 + 1, 0, none⟩)], .int .i64 x.i, .int .i64 x.n, undef, undef, undef, undef, undef, undef, undef, undef, undef, undef, undef, undef, undef], defers := [] }) ?assign ?body ?done ?stop
  case assign =>
    intro l x W K hK
    simp only [encI]
    gi_wp2
    exact hK
  case body =>
    rintro l pre x W ⟨⟨v, hv, hrow, _⟩, hy, hg⟩ hlt
    have hgl := gonW_len by_ pre
    have hc := hv.cell
    have hcy := hy.cell
    have hsn := gonW_snoc by_ pre x
    cases hgo : isGone by_ x with
    | true =>
      rw [hgo, if_pos rfl] at hsn
      obtain ⟨g1, g2⟩ : (x.n != 0) = true ∧ (wrap64 (x.n + by_) == 0) = true := by simpa [isGone] using hgo
      have HSn := Lib.hid hsn
      have HV := Lib.hid hv
      have HR := Lib.hid hrow
      have HY := Lib.hid hy
      have HG := Lib.hid hg
      have hws := hv.lt
      obtain ⟨xs, hxs⟩ : ∃ xs, gonW by_ pre = xs := ⟨_, rfl⟩
      rw [hxs] at HSn HR hgl
      obtain ⟨a, cc, rfl⟩ := OwnOf.form (cells := zCells) (xs := xs) (by unfold OwnOf; rw [z_flat]; exact HR.out)
      clear hv hrow hy hg hgo hsn hxs
      gi_wp2_with (gi_at_builtin; refine wpListIn_append_own _ rfl _ _ 39 rfl (w.heap.size + 1) 3 i0 (.int .i64 0) 1 8 Try.underlying39 hi hz0 hz1 hz2 rfl (by decide) _ _ _ rfl (HR.out.alloc _) ⟨W.heap.size, 0, none⟩ 1 1 [.int .i64 x.i] rfl rfl (cell_one_new _ _ _) (by simp [Value.oneCell']) (by unfold maxLen; omega) (by omega) (by simp; omega) ?_; intro v' w2 hown' hgrow _; obtain ⟨g', cap', rfl⟩ := ownsRow_succ hown'; obtain ⟨hv1, hv2, hr2, hk2, hb2⟩ := HV.out.appended (by decide) HR.out (by omega) (Nat.le_refl _) hown' hgrow; have hc1 := hv1.cell; have hf1 := hv1.frozen)
      refine ⟨hk2.from _, kpR_app HV.out HR.out hgrow (Nat.le_refl _) (fun k hk => by have := hG2 k hk; omega), ⟨_, hv2, ?_, trivial⟩, (hb2.block _ (Nat.lt_succ_self _)).trans HY.out, ?_⟩
      · rw [HSn.out, List.map_append, List.length_append]
        exact hr2
      · refine grown_at (x := w.heap.size + 1) (grown_own (grown_trans HG.out (World.grownBy_alloc W _ none)) hgrow fun k hk => ?_) (grown_set _ _ _ _) (Nat.le_succ _)
        have := (World.ownsRow.lt HR.out) k hk
        omega
    | false =>
      rw [hgo, if_neg (by decide), List.append_nil] at hsn
      have HSn := Lib.hid hsn
      have HV := Lib.hid hv
      have HR := Lib.hid hrow
      have HY := Lib.hid hy
      have HG := Lib.hid hg
      rcases (show (x.n != 0) = false ∨ ((x.n != 0) = true ∧ (wrap64 (x.n + by_) == 0) = false) by
        unfold isGone at hgo
        cases h1 : (x.n != 0) with
        | false => exact .inl rfl
        | true => rw [h1] at hgo; exact .inr ⟨rfl, by simpa using hgo⟩) with g1 | ⟨g1, g2⟩
      all_goals
        clear hv hrow hy hg hgo hsn
        gi_wp2
        exact ⟨KeepsFrom.refl _ _, ⟨fun k _ => rfl, fun k cs fr hk => hk⟩, by rw [HSn.out]; exact ⟨v, HV.out, HR.out, trivial⟩, HY.out, HG.out⟩
  case done =>
    rintro D ys W hD rfl ⟨⟨v, hv, hrow, _⟩, hy, hg⟩ hK
    have hc := hv.cell
    have HR := Lib.hid hrow
    have HG := Lib.hid hg
    obtain ⟨a, cc, rfl⟩ := OwnOf.form (cells := zCells) (xs := gonW by_ (itemsR R)) (by unfold OwnOf; rw [z_flat]; exact hrow)
    clear hv hrow hy hg
    gi_wp2
    refine ⟨by simp, .inl ⟨_, _, rfl, run_takeDeferred hK, ?_⟩⟩
    refine ⟨_, results_tmp rfl _ _ _, _, rfl, ?_, grown_own HG.out (grownBy_putObj' W D _) fun x e => by cases e; omega⟩
    refine OwnOf.lower (base := w.heap.size + 1) ?_ (Nat.le_succ _)
    unfold OwnOf
    rw [z_flat]
    exact ownsRow_putObj HR.out _ hK rfl
  case stop =>
    intro D c pre W _ _ hx
    exact hx.elim
end Go.Proofs.Ytfmihbiongnpnaa
