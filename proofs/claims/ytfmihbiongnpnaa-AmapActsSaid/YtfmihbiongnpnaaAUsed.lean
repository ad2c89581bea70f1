/- The laws' 'used': what Used hands back, as far as is wanted. -/
import Derived.Test.YtfmihbiongnpnaaADh
namespace Go.Proofs.Ytfmihbiongnpnaa
open Go.ChangeShapes Go.WideShapes Go.ChangeAt Go.RowKit Go.Deep
set_option linter.unusedVariables false
attribute [local go_sem] Oper.semAt_some

theorem eql_seq13 (w : World) (fn : Fn) (a b : Array Value) : (binOp .eql 87 (.func fn a b) .nilFunc).run Try.prog w = .ok (.bool false) w := by
  have h1 : ∀ d : Nat, (Op.equalIn (d + 1) 87 (.func fn a b) .nilFunc).run Try.prog w = .ok false w := fun d => by
    simp [Op.equalIn, run_underlying Try.underlying87]
  simp only [binOp]
  simp [Op.equal, Op.maxDepth, h1 9999]
def pairU {k : Nat} (x : UI k) : Int × Int := (x.1.i, x.1.n)
def cutP (most m2 : Int) {k : Nat} (pre : List (UI k)) : List Int := cutU most m2 (pre.map pairU)
section
variable {most m2 : Int} {k : Nat} {pre : List (UI k)} {x : UI k} {zs : List Int}
theorem cutP_more (h : moreU most m2 (cutP most m2 pre).length) : cutP most m2 (pre ++ [x]) = cutP most m2 pre ++ [x.1.i, x.1.n] := by
  unfold cutP at h ⊢
  rw [List.map_append, List.map_cons, List.map_nil, cutu_snoc, if_pos h]
  rfl
theorem cutP_less (h : ¬ moreU most m2 (cutP most m2 pre).length) : cutP most m2 (pre ++ [x]) = cutP most m2 pre := by
  unfold cutP at h ⊢
  rw [List.map_append, List.map_cons, List.map_nil, cutu_snoc, if_neg h]
theorem cutP_all : cutP most m2 (uAll zs) = cutU most m2 (usedA zs) := by
  unfold cutP uAll usedA
  rw [← uTo_used (Nat.le_refl _)]
  rfl
theorem cutP_stop {pre : List (UI zs.length)} (hp : pre <+: uAll zs) (h : ¬ moreU most m2 (cutP most m2 pre).length) : cutP most m2 pre = cutU most m2 (usedA zs) := by
  rw [← cutP_all]
  obtain ⟨t, ht⟩ := hp
  unfold cutP at h ⊢
  rw [← ht, List.map_append, cutu_stop h]
theorem cutP_len : (cutP most m2 pre).length ≤ 2 * pre.length := by
  unfold cutP
  refine Nat.le_trans cutu_len ?_
  rw [List.length_map]
  exact Nat.le_refl _
end
theorem own_two {w : World} {base n : Nat} {t : TypeId} {v : Value} {ys : List Value} (h : w.ownsRow base t 1 v (n + 2) ys) : ∃ g c, v = .slice (some ⟨g, 0, none⟩) (n + 2) c := by
  rcases h.2 with ⟨_, h1⟩ | ⟨g, cap, cur, rfl, _⟩
  · omega
  · exact ⟨_, _, rfl⟩
/-- What is told lies in its box. -/
def TellB (W : World) (B : Nat) (l : List Int) : Prop := ∃ v, Boxed W B 39 v ∧ W.ownsRow B 3 1 v l.length (l.map (Value.int .i64)) ∧ True
theorem tellB_own {β : Type} (B : Nat) (f : β → List Int) : Own (fun (s : β) W => TellB W B (f s)) := holdsRow_own B B 39 3 1 (fun s : β => (f s).length) (fun s : β => (f s).map (Value.int .i64)) (fun _ _ => True)

set_option maxRecDepth 100000 in
set_option maxHeartbeats 1000000 in
theorem law_used {w : World} {a : Option Addr} {id most m2 : Int} (zs : List Int) (hz4 : zs.length ≤ 4096) (hm2 : IntKind.i64.wrap (2 * most) = m2) (hm : okI most) (HU : ∀ W, w.grownBy W none → Calls Try.prog 45 #[.pointer a, .int .i64 id] W (UsedR W zs)) :
    Calls Try.prog 31 #[.pointer a, .int .i64 id, .int .i64 most] w fun e w' => ∃ u, e = .returned u ∧ RowOf zCells 1 w' u (cutU most m2 (usedA zs)) ∧ (∀ b, u.ownBlock = some b → w.heap.size ≤ b) ∧ w.grownBy w' none := by
  have ga := World.grownBy_alloc w (.cells #[.int .i64 most] 3) none
  have HK := Lib.hid (HU _ ga)
  have bM := Boxed.new w 3 (.int .i64 most)
  have HB := Lib.hid bM
  have HG := Lib.hid ga
  have hq := eql_seq13
  clear HU ga bM
  refine (callsIn_wide (n := 9)).1 ?_
  refine callsIn_of_wp_marks Try.func31 rfl trivial ?_ rfl
  simp only [Try.ntmps31, List.size_toArray, List.length_cons, List.length_nil, Nat.reduceAdd, Nat.reduceSub, Array.replicate_succ, Array.replicate_zero, List.push_toArray, List.append_toArray, List.nil_append, List.cons_append]
  refine wpIn_wide.2 ?_
  go_wp2_with fail
  refine HK.out.mono ?_
  rintro e w2 ⟨Bs, u, rfl, hBs, hr, ho, hB, g2⟩
  have HBs := Lib.hid hBs
  have HR := Lib.hid hr
  have HOw := Lib.hid ho
  have HBB := Lib.hid hB
  have HG2 := Lib.hid g2
  clear hBs hr ho hB g2 HK
  go_wp2_with fail
  have ga := World.grownBy_alloc w2 (.cells #[.slice none 0 0] 39) none
  have bL := Boxed.new w2 39 (.slice none 0 0)
  have bM := (HB.out.kept HG2.out (by simp)).alloc (.cells #[.slice none 0 0] 39)
  have cB := ga.cell HBs.out (by simp)
  have hR9 := rowOf_grow HR.out ga
  have hg2 := grown_trans HG.out HG2.out
  have hg9 := grown_trans hg2 ga
  have hG : ∀ g, u.ownBlock = some g → g ∈ u.ownBlock.toList := fun g e => by rw [e]; simp
  have hG2 : ∀ k, k ∈ u.ownBlock.toList → k < w2.heap.size := fun k hk => row_lt HR.out (by simpa using hk)
  have hws : w.heap.size ≤ w2.heap.size := hg2.size
  have hwl : w.heap.size < w2.heap.size := by
    have h1 := HG2.out.size
    rw [World.size_alloc] at h1
    omega
  have hsz : (w2.alloc (.cells #[.slice none 0 0] 39)).heap.size = w2.heap.size + 1 := by simp
  have hul := uAll_len (zs := zs)
  obtain ⟨i0, hi, hz0, hz1, hz2⟩ := info_parts info_int11
  generalize hw9 : w2.alloc (.cells #[.slice none 0 0] 39 (0, 0)) = w9 at *
  refine (wpIn_wide (n := 9)).1 ?_
  refine wpIn_rangeFunc_ownG rfl (by omega) (gf := 53) (lb := #[.pointer (some ⟨Bs, 0, none⟩)]) rfl trivial (enters_of Try.func53 (by kernel_rfl) rfl)
    (used1_stops 8 (by omega) Bs u zs hz4 u.ownBlock.toList hG _ cB hR9) (fun h k => kpG_t h k) (fun W l o o' hl ho hc _ => kpG_b (B := w9.heap.size) (fun k hk => by have := hG2 k hk; omega) W l o' hl) (Below.refl _ _) (fun _ => rfl)
    (fun pre W => TellB W w2.heap.size (cutP most m2 pre) ∧ Boxed W w.heap.size 3 (.int .i64 most) ∧ w.grownBy W none)
    (fun c pre W => (c = .exit 0 ∧ ¬ moreU most m2 (cutP most m2 pre).length) ∧ TellB W w2.heap.size (cutP most m2 pre) ∧ w.grownBy W none)
    (OwnFrom.and (Own.from (tellB_own w2.heap.size (fun pre : List (UI zs.length) => cutP most m2 pre)) _) (OwnFrom.and (Own.from (boxed_own _ _ _) _) (fun s A B row hs hg hr => grown_own hs hg fun x e => by have := (hr x e).1; omega)))
    (fun c s A B row hs hg hr => ⟨hs.1, (Own.from (tellB_own w2.heap.size (fun pre : List (UI zs.length) => cutP most m2 pre)) w9.heap.size) s A B row hs.2.1 hg hr, grown_own hs.2.2 hg fun x e => by have := (hr x e).1; omega⟩)
    ⟨⟨_, bL, World.ownsRow_nil _ _ _ _, trivial⟩, bM, hg9⟩
    (fun (x : UI zs.length) => { tmps := #[Value.pointer a, Value.int IntKind.i64 id, Value.int IntKind.i64 most, undef, undef, Value.pointer (some { block := w.heap.size, off := 0 }), Value.slice none 0 0, Value.func (Fn.func 53) #[] #[Value.pointer (some { block := Bs, off := 0 })], Value.pointer (some { block := w2.heap.size, off := 0 }), .int .i64 x.1.i, .int .i64 x.1.n, Value.pointer a, Value.int IntKind.i64 id, Value.func (Fn.func 53) #[] #[Value.pointer (some { block := Bs, off := 0 })], Value.func (Fn.func 53) #[] #[Value.pointer (some { block := Bs, off := 0 })], Value.bool false, undef, Value.func (Fn.func 53) #[] #[Value.pointer (some { block := Bs, off := 0 })], .int .i64 x.1.i, .int .i64 x.1.n, undef, undef, undef, undef, undef, undef, undef, undef, undef, undef, undef, undef, undef, undef, undef], defers := [] }) ?assign ?body ?done ?stop
  case assign =>
    intro l x W K hK
    simp only [encU, encI]
    gi_wp2
    exact hK
  case body =>
    rintro l9 pre ⟨⟨xi, xn⟩, hx⟩ W ⟨⟨v9, hv, hrow, _⟩, hy, hg⟩ hlt
    have hc := hv.cell
    have hcy := hy.cell
    have hol : (cutP most m2 pre).length ≤ 8192 := by have := cutP_len (most := most) (m2 := m2) (pre := pre); omega
    by_cases hmore : moreU most m2 (cutP most m2 pre).length
    · have hsn := cutP_more (x := ⟨⟨xi, xn⟩, hx⟩) hmore
      have HSn := Lib.hid hsn
      have HV := Lib.hid hv
      have HR9 := Lib.hid hrow
      have HY := Lib.hid hy
      have HG9 := Lib.hid hg
      have hws9 := hv.lt
      obtain ⟨xs, hxs⟩ : ∃ xs, cutP most m2 pre = xs := ⟨_, rfl⟩
      rw [hxs] at HSn HR9 hol hmore
      obtain ⟨a9, cc, rfl⟩ := OwnOf.form (cells := zCells) (xs := xs) (by unfold OwnOf; rw [z_flat]; exact HR9.out)
      have dd : decide (most ≥ 0) = false ∨ (decide (most ≥ 0) = true ∧ decide ((xs.length : Int) ≥ m2) = false) := by
        unfold moreU at hmore
        simp only [decide_eq_true_eq, decide_eq_false_iff_not]
        omega
      clear hv hrow hy hg hsn hxs hmore
      rcases dd with d0 | ⟨d0, d1⟩
      all_goals
        gi_wp2_with (gi_at_builtin; refine wpListIn_append_own _ rfl _ _ 39 rfl w2.heap.size 3 i0 (.int .i64 0) 1 8 Try.underlying39 hi hz0 hz1 hz2 rfl (by decide) _ _ _ rfl (HR9.out.alloc _) ⟨W.heap.size, 0, none⟩ 2 2 [.int .i64 xi, .int .i64 xn] rfl rfl (World.news_of_block (heap_alloc_new W _)) (by simp [Value.oneCell']) (by unfold maxLen; omega) (by omega) (by simp; omega) ?_; intro v' w2' hown' hgrow _; obtain ⟨g', cap', rfl⟩ := own_two hown'; obtain ⟨hv1, hv2, hr2, hk2, hb2⟩ := HV.out.appended (by decide) HR9.out (by omega) (Nat.le_refl _) hown' hgrow; have hc1 := hv1.cell; have hf1 := hv1.frozen)
        refine ⟨hk2.from _, fun k hk => hb2.block _ (hG2 k hk), ⟨_, hv2, ?_, trivial⟩, (hb2.block _ hwl).trans HY.out, ?_⟩
        · rw [HSn.out, List.map_append, List.length_append]
          exact hr2
        · refine grown_at (x := w2.heap.size) (grown_own (grown_trans HG9.out (World.grownBy_alloc W _ none)) hgrow fun k hk => ?_) (grown_set _ _ _ _) hws
          have := (World.ownsRow.lt HR9.out) k hk
          omega
    · have hsn := cutP_less (x := ⟨⟨xi, xn⟩, hx⟩) hmore
      have HSn := Lib.hid hsn
      have HV := Lib.hid hv
      have HR9 := Lib.hid hrow
      have HG9 := Lib.hid hg
      have HMr := Lib.hid hmore
      obtain ⟨xs, hxs⟩ : ∃ xs, cutP most m2 pre = xs := ⟨_, rfl⟩
      rw [hxs] at HSn HR9 hol hmore HMr
      obtain ⟨a9, cc, rfl⟩ := OwnOf.form (cells := zCells) (xs := xs) (by unfold OwnOf; rw [z_flat]; exact HR9.out)
      have d0 : decide (most ≥ 0) = true := by
        unfold moreU at hmore
        exact decide_eq_true (by omega)
      have d1 : decide ((xs.length : Int) ≥ m2) = true := by
        unfold moreU at hmore
        exact decide_eq_true (by omega)
      clear hv hrow hy hg hsn hxs hmore
      gi_wp2
      refine ⟨KeepsFrom.refl _ _, ⟨rfl, ?_⟩, ?_, HG9.out⟩
      · rw [HSn.out]; exact HMr.out
      · rw [HSn.out]; exact ⟨_, HV.out, HR9.out, trivial⟩
  case done =>
    rintro D ys W hD rfl ⟨⟨v, hv, hrow, _⟩, hy, hg⟩ hK
    have hc := hv.cell
    have HR9 := Lib.hid hrow
    have HG9 := Lib.hid hg
    obtain ⟨a9, cc, rfl⟩ := OwnOf.form (cells := zCells) (xs := cutP most m2 (uAll zs)) (by unfold OwnOf; rw [z_flat]; exact hrow)
    clear hv hrow hy hg
    go_wp2_with fail
    refine ⟨by simp, .inl ⟨_, _, rfl, run_takeDeferred hK, ?_⟩⟩
    refine ⟨_, results_tmp rfl _ _ _, _, rfl, ?_, fun b e => ?_, grown_own HG9.out (grownBy_putObj' W D _) fun x e => by cases e; omega⟩
    · rw [← cutP_all]
      refine OwnOf.row (base := w2.heap.size) (t := 3) ?_
      unfold OwnOf
      rw [z_flat]
      exact ownsRow_putObj HR9.out _ hK rfl
    · have := (World.ownsRow.lt HR9.out) b e
      omega
  case stop =>
    rintro D c pre W hD hpre ⟨⟨rfl, hnm⟩, ⟨v, hv, hrow, _⟩, hg⟩ hK
    have hcs := cutP_stop hpre hnm
    rw [hcs] at hrow
    have hc := hv.cell
    have HR9 := Lib.hid hrow
    have HG9 := Lib.hid hg
    obtain ⟨a9, cc, rfl⟩ := OwnOf.form (cells := zCells) (xs := cutU most m2 (usedA zs)) (by unfold OwnOf; rw [z_flat]; exact hrow)
    clear hv hrow hg hcs hnm hpre
    refine wpIn_exit ?_
    go_wp2_with fail
    refine ⟨by simp, .inl ⟨_, _, rfl, run_takeDeferred hK, ?_⟩⟩
    refine ⟨_, results_tmp rfl _ _ _, _, rfl, ?_, fun b e => ?_, grown_own HG9.out (grownBy_putObj' W D _) fun x e => by cases e; omega⟩
    · refine OwnOf.row (base := w2.heap.size) (t := 3) ?_
      unfold OwnOf
      rw [z_flat]
      exact ownsRow_putObj HR9.out _ hK rfl
    · have := (World.ownsRow.lt HR9.out) b e
      omega
end Go.Proofs.Ytfmihbiongnpnaa
