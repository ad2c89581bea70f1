/- Layer 16: an act: in memory, and what it does to a map, the landed one and the document's. -/
import Derived.Test.YtamkmmhjmpjibaaVmpLk
import Derived.Test.YtamkmmhjmpjibaaOpen
import Derived.Test.YtamkmmhjmpjibaaTFlat
import Derived.Below
namespace Go.Proofs.Ytamkmmhjmpjibaa
open Go.ChangeShapes Go.WideShapes Go.ChangeAt Go.RowKit Go.Deep
set_option linter.unusedVariables false
set_option linter.unusedSimpArgs false

def vactCells (A : VAct) : List Value := [.int .i64 A.k, .int .i64 A.lo, .int .i64 A.n, .int .i64 A.how, .int .i64 A.x.s, .int .i64 A.x.e, .int .i64 A.x.f, .int .i64 A.x.o, .bool A.x.sh, .int .i64 A.x.p, .int .i64 A.x.m, .int .i64 A.x.i, .int .i64 A.x.a, .bool A.x.wi, .bool A.on]
structure VAct.Ok (A : VAct) : Prop where
  lo : okI A.lo
  n : okI A.n
  how : okI A.how
  x : OkN A.x
theorem results_tmp4 {fn : Func} {t u v x : Tmp} (h : fn.results = #[.tmp t, .tmp u, .tmp v, .tmp x]) (tmps : Array Value) (P : Program) (w : World) :
    (results fn tmps).run P w = .ok (.tuple #[tmps.getD t undef, tmps.getD u undef, tmps.getD v undef, tmps.getD x undef]) w := by
  simp [results, h]
set_option maxRecDepth 100000 in
set_option maxHeartbeats 16000000 in
theorem act_ok {w : World} {r : Nat} {v : Value} {L : List En} (h : VM w r v L) (hm : MapL L) (hl : L.length ≤ 900) (A : VAct) (hA : A.Ok) :
    Calls Try.prog 12 #[.pointer (some ⟨r, 0, none⟩), .agg #[.int .i64 A.k, .int .i64 A.lo, .int .i64 A.n, .int .i64 A.how, .int .i64 A.x.s, .int .i64 A.x.e, .int .i64 A.x.f, .int .i64 A.x.o, .bool A.x.sh, .int .i64 A.x.p, .int .i64 A.x.m, .int .i64 A.x.i, .int .i64 A.x.a, .bool A.x.wi, .bool A.on]] w fun e w' => ∃ r' u v', e = .returned (.tuple #[.pointer (some ⟨r', 0, none⟩), .int .i64 (stepV L A).n, u, .int .i64 (stepV L A).err]) ∧ EOwn w' w.heap.size u (stepV L A).gone ∧ VM w' r' v' (stepV L A).l ∧ (r' = r ∨ w.heap.size ≤ r') ∧ (A.k ≠ 6 → r' = r) ∧ New w v v' ∧ Turn (r :: blkL v) w w' := by
  have g1 := World.grownBy_alloc w (.cells #[.int .i64 A.k, .int .i64 A.lo, .int .i64 A.n, .int .i64 A.how, .int .i64 A.x.s, .int .i64 A.x.e, .int .i64 A.x.f, .int .i64 A.x.o, .bool A.x.sh, .int .i64 A.x.p, .int .i64 A.x.m, .int .i64 A.x.i, .int .i64 A.x.a, .bool A.x.wi, .bool A.on] 33) none
  obtain ⟨k, lo, n, how, x, on⟩ := A
  simp only at *
  by_cases h0 : k = 0
  · subst h0
    have e : stepV L ⟨0, lo, n, how, x, on⟩ = mapV L lo x on := by unfold stepV; simp
    rw [e]
    have HC := Lib.hid (map_ok (h.grow g1) hm hl lo x on hA.lo hA.x)
    generalize (mapV L lo x on).err = er at *
    generalize (mapV L lo x on).l = Lf at *
    generalize (mapV L lo x on).gone = Gf at *
    generalize (mapV L lo x on).n = nf at *
    have HG := Lib.hid g1
    clear e h hm hl hA g1
    go_enter Try.func12, Try.ntmps12
    go_wp2_with fail
    refine HC.out.mono ?_
    rintro e w2 ⟨u, v', rfl, k1, k2, k3, k4⟩
    have H1 := Lib.hid k1
    have H2 := Lib.hid k2
    have H3 := Lib.hid k3
    have H4 := Lib.hid k4
    clear k1 k2 k3 k4
    go_wp2_with fail
    refine bodyPost_ret (results_tmp4 rfl _ _ _) rfl ?_
    exact ⟨_, _, _, rfl, OwnOf.lower H1.out HG.out.size, H2.out, .inl rfl, fun _ => rfl, H3.out.after HG.out.size, (Turn.grown HG.out).trans' H4.out⟩
  by_cases h1 : k = 1
  · subst h1
    have e : stepV L ⟨1, lo, n, how, x, on⟩ = unmapV L lo n := by unfold stepV; simp
    rw [e]
    have hn0 : (unmapV L lo n).n = 0 := by unfold unmapV; split <;> rfl
    rw [hn0]
    have HC := Lib.hid (unmap_ok (h.grow g1) hm hl lo n hA.lo hA.n)
    generalize (unmapV L lo n).err = er at *
    generalize (unmapV L lo n).l = Lf at *
    generalize (unmapV L lo n).gone = Gf at *
    have HG := Lib.hid g1
    clear e h hm hl hA g1 hn0
    go_enter Try.func12, Try.ntmps12
    go_wp2_with fail
    refine HC.out.mono ?_
    rintro e w2 ⟨u, v', rfl, k1, k2, k3, k4⟩
    have H1 := Lib.hid k1
    have H2 := Lib.hid k2
    have H3 := Lib.hid k3
    have H4 := Lib.hid k4
    clear k1 k2 k3 k4
    go_wp2_with fail
    refine bodyPost_ret (results_tmp4 rfl _ _ _) rfl ?_
    exact ⟨_, _, _, rfl, OwnOf.lower H1.out HG.out.size, H2.out, .inl rfl, fun _ => rfl, H3.out.after HG.out.size, (Turn.grown HG.out).trans' H4.out⟩
  by_cases h2 : k = 2
  · subst h2
    have e : stepV L ⟨2, lo, n, how, x, on⟩ = protV L lo n how := by unfold stepV; simp
    rw [e]
    have hn0 : (protV L lo n how).n = 0 ∧ (protV L lo n how).gone = [] := by unfold protV; split <;> (try split) <;> (try split) <;> exact ⟨rfl, rfl⟩
    rw [hn0.1, hn0.2]
    have HC := Lib.hid (protect_ok (h.grow g1) hm hl lo n how hA.lo hA.n hA.how)
    generalize (protV L lo n how).err = er at *
    generalize (protV L lo n how).l = Lf at *
    have HG := Lib.hid g1
    clear e h hm hl hA g1 hn0
    go_enter Try.func12, Try.ntmps12
    go_wp2_with fail
    refine HC.out.mono ?_
    rintro e w2 ⟨rfl, v', k2, k3, k4⟩
    have H2 := Lib.hid k2
    have H3 := Lib.hid k3
    have H4 := Lib.hid k4
    clear k2 k3 k4
    go_wp2_with fail
    refine bodyPost_ret (results_tmp4 rfl _ _ _) rfl ?_
    exact ⟨_, _, _, rfl, OwnOf.nil _ _, H2.out, .inl rfl, fun _ => rfl, H3.out.after HG.out.size, (Turn.grown HG.out).trans' H4.out⟩
  by_cases h3 : k = 3
  · subst h3
    have e : stepV L ⟨3, lo, n, how, x, on⟩ = otherV L lo n 3 how 2 false := by unfold stepV; simp
    rw [e]
    have hn0 : (otherV L lo n 3 how 2 false).n = 0 ∧ (otherV L lo n 3 how 2 false).gone = [] := by unfold otherV; split <;> (try split) <;> exact ⟨rfl, rfl⟩
    rw [hn0.1, hn0.2]
    have HC := Lib.hid (inherit_ok (h.grow g1) hm hl lo n how hA.lo hA.n)
    generalize (otherV L lo n 3 how 2 false).err = er at *
    generalize (otherV L lo n 3 how 2 false).l = Lf at *
    have HG := Lib.hid g1
    clear e h hm hl hA g1 hn0
    go_enter Try.func12, Try.ntmps12
    go_wp2_with fail
    refine HC.out.mono ?_
    rintro e w2 ⟨rfl, v', k2, k3, k4⟩
    have H2 := Lib.hid k2
    have H3 := Lib.hid k3
    have H4 := Lib.hid k4
    clear k2 k3 k4
    go_wp2_with fail
    refine bodyPost_ret (results_tmp4 rfl _ _ _) rfl ?_
    exact ⟨_, _, _, rfl, OwnOf.nil _ _, H2.out, .inl rfl, fun _ => rfl, H3.out.after HG.out.size, (Turn.grown HG.out).trans' H4.out⟩
  by_cases h4 : k = 4
  · subst h4
    have e : stepV L ⟨4, lo, n, how, x, on⟩ = otherV L lo n 4 how 4 false := by unfold stepV; simp
    rw [e]
    have hn0 : (otherV L lo n 4 how 4 false).n = 0 ∧ (otherV L lo n 4 how 4 false).gone = [] := by unfold otherV; split <;> (try split) <;> exact ⟨rfl, rfl⟩
    rw [hn0.1, hn0.2]
    have HC := Lib.hid (advise_ok (h.grow g1) hm hl lo n how hA.lo hA.n)
    generalize (otherV L lo n 4 how 4 false).err = er at *
    generalize (otherV L lo n 4 how 4 false).l = Lf at *
    have HG := Lib.hid g1
    clear e h hm hl hA g1 hn0
    go_enter Try.func12, Try.ntmps12
    go_wp2_with fail
    refine HC.out.mono ?_
    rintro e w2 ⟨rfl, v', k2, k3, k4⟩
    have H2 := Lib.hid k2
    have H3 := Lib.hid k3
    have H4 := Lib.hid k4
    clear k2 k3 k4
    go_wp2_with fail
    refine bodyPost_ret (results_tmp4 rfl _ _ _) rfl ?_
    exact ⟨_, _, _, rfl, OwnOf.nil _ _, H2.out, .inl rfl, fun _ => rfl, H3.out.after HG.out.size, (Turn.grown HG.out).trans' H4.out⟩
  by_cases h5 : k = 5
  · subst h5
    have e : stepV L ⟨5, lo, n, how, x, on⟩ = otherV L lo n 5 0 1 on := by unfold stepV; simp
    rw [e]
    have hn0 : (otherV L lo n 5 0 1 on).n = 0 ∧ (otherV L lo n 5 0 1 on).gone = [] := by unfold otherV; split <;> (try split) <;> exact ⟨rfl, rfl⟩
    rw [hn0.1, hn0.2]
    have HC := Lib.hid (wire_ok (h.grow g1) hm hl lo n on hA.lo hA.n)
    generalize (otherV L lo n 5 0 1 on).err = er at *
    generalize (otherV L lo n 5 0 1 on).l = Lf at *
    have HG := Lib.hid g1
    clear e h hm hl hA g1 hn0
    go_enter Try.func12, Try.ntmps12
    go_wp2_with fail
    refine HC.out.mono ?_
    rintro e w2 ⟨rfl, v', k2, k3, k4⟩
    have H2 := Lib.hid k2
    have H3 := Lib.hid k3
    have H4 := Lib.hid k4
    clear k2 k3 k4
    go_wp2_with fail
    refine bodyPost_ret (results_tmp4 rfl _ _ _) rfl ?_
    exact ⟨_, _, _, rfl, OwnOf.nil _ _, H2.out, .inl rfl, fun _ => rfl, H3.out.after HG.out.size, (Turn.grown HG.out).trans' H4.out⟩
  by_cases h6 : k = 6
  · subst h6
    have e : stepV L ⟨6, lo, n, how, x, on⟩ = ⟨forkV L, 0, [], 0⟩ := by unfold stepV; simp
    rw [e]
    have HC := Lib.hid (fork_ok (h.grow g1) hm hl)
    have HG := Lib.hid g1
    clear e h hm hl hA g1
    go_enter Try.func12, Try.ntmps12
    go_wp2_with fail
    refine HC.out.mono ?_
    rintro e w2 ⟨rc, v', rfl, k1, k2, k3, k4⟩
    have H1 := Lib.hid k1
    have H2 := Lib.hid k2
    have H3 := Lib.hid k3
    have H4 := Lib.hid k4
    clear k1 k2 k3 k4
    go_wp2_with fail
    refine bodyPost_ret (results_tmp4 rfl _ _ _) rfl ?_
    exact ⟨_, _, _, rfl, OwnOf.nil _ _, H2.out, .inr (Nat.le_trans HG.out.size H1.out), fun h => (h rfl).elim, fun b hb => .inr (Nat.le_trans HG.out.size (H3.out b hb)), (Turn.grown HG.out).trans' (Turn.grown H4.out)⟩
  have e : stepV L ⟨k, lo, n, how, x, on⟩ = ⟨L, 0, [], 0⟩ := by unfold stepV; simp [h0, h1, h2, h3, h4, h5, h6]
  rw [e]
  have HV := Lib.hid (h.grow g1)
  have HG := Lib.hid g1
  have e0 : (k == 0) = false := by simpa using h0
  have e1 : (k == 1) = false := by simpa using h1
  have e2 : (k == 2) = false := by simpa using h2
  have e3 : (k == 3) = false := by simpa using h3
  have e4 : (k == 4) = false := by simpa using h4
  have e5 : (k == 5) = false := by simpa using h5
  have e6 : (k == 6) = false := by simpa using h6
  clear e h hm hl hA g1 h0 h1 h2 h3 h4 h5 h6
  go_enter Try.func12, Try.ntmps12
  go_wp2_with fail
  refine bodyPost_ret (results_tmp4 rfl _ _ _) rfl ?_
  exact ⟨_, _, _, rfl, OwnOf.nil _ _, HV.out, .inl rfl, fun _ => rfl, New.refl _ _, Turn.grown HG.out⟩
end Go.Proofs.Ytamkmmhjmpjibaa
