/- Layer 16 (landed): Unmap, Map. -/
import Derived.Test.YtamkmmhjmpjibaaVmpLe
namespace Go.Proofs.Ytamkmmhjmpjibaa
open Go.ChangeShapes Go.WideShapes Go.ChangeAt Go.RowKit Go.Deep
set_option linter.unusedVariables false
set_option linter.unusedSimpArgs false

theorem unmap_ok {w : World} {r : Nat} {v : Value} {L : List En} (h : VM w r v L) (hm : MapL L) (hl : L.length ≤ 900) (lo n : Int) (ho : okI lo) (hn : okI n) :
    Calls Try.prog 28 #[.pointer (some ⟨r, 0, none⟩), .int .i64 lo, .int .i64 n] w fun e w' => ∃ u v', e = .returned (.tuple #[u, .int .i64 (unmapV L lo n).err]) ∧ EOwn w' w.heap.size u (unmapV L lo n).gone ∧ VM w' r v' (unmapV L lo n).l ∧ New w v v' ∧ Turn (r :: blkL v) w w' := by
  have HA := Lib.hid (asked_ok h lo n ho hn true)
  cases k : rangeV lo n with
  | true =>
    obtain ⟨r1, r2, r3, r4⟩ := range_iff.1 k
    have e : unmapV L lo n = ⟨mergeE (leftE L lo (lo + n)), 0, goneE L lo (lo + n), 0⟩ := by unfold unmapV; rw [if_pos k]
    rw [e]
    have HP := Lib.hid (put_ok h hm hl lo n r1 r2 (by omega) r3 [] (by simp) trivial (fun x hx => by cases hx) none 0 (EC.nil w) (fun b hb => by cases hb))
    rw [place_unmap hm (by omega)] at HP
    rw [k] at HA
    clear e k h hm ho hn
    go_enter Try.func28, Try.ntmps28
    go_wp2_with fail
    refine HA.out.mono ?_
    rintro e w1 ⟨rfl, e1⟩
    subst e1
    go_wp2_with fail
    refine HP.out.mono ?_
    rintro e w2 ⟨u, v', rfl, q1, q2, q3, q4⟩
    have H1 := Lib.hid q1
    have H2 := Lib.hid q2
    have H3 := Lib.hid q3
    have H4 := Lib.hid q4
    clear q1 q2 q3 q4
    go_wp2_with fail
    go_ret2
    exact ⟨_, _, rfl, H1.out, H2.out, H3.out, H4.out⟩
  | false =>
    have e : unmapV L lo n = ⟨L, 0, [], 2⟩ := by unfold unmapV; rw [k]; rfl
    rw [e]
    rw [k] at HA
    have HH := Lib.hid h
    clear e k h hm ho hn
    go_enter Try.func28, Try.ntmps28
    go_wp2_with fail
    refine HA.out.mono ?_
    rintro e w1 ⟨rfl, e1⟩
    subst e1
    go_wp2_with fail
    go_ret2
    exact ⟨_, _, rfl, OwnOf.nil _ _, HH.out, New.refl _ _, Turn.refl _ _⟩
/-- A row of one entry, as it is handed in. -/
theorem ec_own {w : World} {B : Nat} {x : En} (hn : w.heap[B]? = some (.cells #[.int .i64 x.s, .int .i64 x.e, .int .i64 x.f, .int .i64 x.o, .bool x.sh, .int .i64 x.p, .int .i64 x.m, .int .i64 x.i, .int .i64 x.a, .bool x.wi] 31 (0, 0))) : EC w (.slice (some ⟨B, 0, none⟩) 1 1) [x] := ec_one hn
theorem may_size (addr : Int) (x : En) (fixed : Bool) : mayB addr x fixed = (sizeB x && (!fixed || rangeV addr (x.e - x.s))) := by
  unfold mayB sizeB
  cases sizedB x <;> cases goodB (moveE x 0) <;> simp
set_option maxHeartbeats 4000000 in
/-- The last steps of Map: the entry is moved and put. -/
theorem map_put {w : World} {r : Nat} {v : Value} {L : List En} (h : VM w r v L) (hm : MapL L) (hl : L.length ≤ 900) (x : En) (a : Int) (h0 : 0 ≤ a) (h1 : a + (x.e - x.s) ≤ 67108864) (h2 : x.s < x.e) (h3 : x.e - x.s ≤ 4096) (hg : GoodE (moveE x 0)) (W : World) (hW : w.grownBy W none) :
    Calls Try.prog 46 #[.pointer (some ⟨r, 0, none⟩), .int .i64 a, .int .i64 (x.e - x.s), .slice (some ⟨W.heap.size, 0, none⟩) 1 1] (W.alloc (.cells #[.int .i64 (moveE x a).s, .int .i64 (moveE x a).e, .int .i64 (moveE x a).f, .int .i64 (moveE x a).o, .bool (moveE x a).sh, .int .i64 (moveE x a).p, .int .i64 (moveE x a).m, .int .i64 (moveE x a).i, .int .i64 (moveE x a).a, .bool (moveE x a).wi] 31)) fun e w' => ∃ u v', e = .returned u ∧ EOwn w' w.heap.size u (goneE L a (a + (x.e - x.s))) ∧ VM w' r v' (mergeE (putE (leftE L a (a + (x.e - x.s))) (moveE x a))) ∧ New w v v' ∧ Turn (r :: blkL v) w w' := by
  have g2 := grown_trans hW (World.grownBy_alloc W (.cells #[.int .i64 (moveE x a).s, .int .i64 (moveE x a).e, .int .i64 (moveE x a).f, .int .i64 (moveE x a).o, .bool (moveE x a).sh, .int .i64 (moveE x a).p, .int .i64 (moveE x a).m, .int .i64 (moveE x a).i, .int .i64 (moveE x a).a, .bool (moveE x a).wi] 31) none)
  have hgm := good_move hg h0 h1
  refine (put_ok (h.grow g2) hm hl a (x.e - x.s) h0 (by omega) (by omega) h3 [moveE x a] (by simp) ⟨h0, hgm, trivial⟩ (fun y hy => by simp at hy; subst hy; exact ⟨Int.le_refl _, Int.le_refl _⟩) (some ⟨W.heap.size, 0, none⟩) 1 (ec_own (heap_alloc_new W _)) (fun b hb => by have e : W.heap.size = b := Option.some.inj hb; simp; omega)).mono ?_
  rintro e w' ⟨u, v', rfl, q1, q2, q3, q4⟩
  rw [place_put (lo := a) (hi := a + (x.e - x.s)) (x := moveE x a) hm (by omega) rfl rfl] at q2
  exact ⟨u, v', rfl, OwnOf.lower q1 g2.size, q2, q3.after g2.size, (Turn.grown g2).trans' q4⟩
set_option maxHeartbeats 8000000 in
theorem map_ok {w : World} {r : Nat} {v : Value} {L : List En} (h : VM w r v L) (hm : MapL L) (hl : L.length ≤ 900) (addr : Int) (x : En) (fixed : Bool) (ho : okI addr) (hx : OkN x) :
    Calls Try.prog 22 #[.pointer (some ⟨r, 0, none⟩), .int .i64 addr, .agg #[.int .i64 x.s, .int .i64 x.e, .int .i64 x.f, .int .i64 x.o, .bool x.sh, .int .i64 x.p, .int .i64 x.m, .int .i64 x.i, .int .i64 x.a, .bool x.wi], .bool fixed] w fun e w' => ∃ u v', e = .returned (.tuple #[.int .i64 (mapV L addr x fixed).n, u, .int .i64 (mapV L addr x fixed).err]) ∧ EOwn w' w.heap.size u (mapV L addr x fixed).gone ∧ VM w' r v' (mapV L addr x fixed).l ∧ New w v v' ∧ Turn (r :: blkL v) w w' := by
  have HG0 := Lib.hid (World.grownBy_alloc w (.cells #[.int .i64 x.s, .int .i64 x.e, .int .i64 x.f, .int .i64 x.o, .bool x.sh, .int .i64 x.p, .int .i64 x.m, .int .i64 x.i, .int .i64 x.a, .bool x.wi] 31) none)
  have HB0 := Lib.hid (EnB.new w x)
  have HS := Lib.hid (size_ok x hx (w.alloc (.cells #[.int .i64 x.s, .int .i64 x.e, .int .i64 x.f, .int .i64 x.o, .bool x.sh, .int .i64 x.p, .int .i64 x.m, .int .i64 x.i, .int .i64 x.a, .bool x.wi] 31)))
  have HMd := Lib.hid (fun W (g : w.grownBy W none) => made_ok (h.grow g))
  have HH := Lib.hid h
  cases hsz : sizeB x with
  | false =>
    have e : mapV L addr x fixed = ⟨L, 0, [], 2⟩ := by unfold mapV; rw [may_size, hsz]; rfl
    rw [e]
    rw [hsz] at HS
    clear e h hm hsz hx ho hl
    go_enter Try.func22, Try.ntmps22
    go_wp2_with fail
    refine HS.out.mono ?_
    rintro e w1 ⟨n, rfl, -, -, g1⟩
    have HG1 := Lib.hid (grown_trans HG0.out g1)
    have HMa := Lib.hid (HMd.out w1 HG1.out)
    clear g1
    go_wp2_with fail
    refine HMa.out.mono ?_
    rintro e w2 ⟨rfl, e1⟩
    subst e1
    go_wp2_with fail
    go_ret3
    exact ⟨_, _, rfl, OwnOf.nil _ _, HH.out.grow HG1.out, New.refl _ _, Turn.grown HG1.out⟩
  | true =>
    have hparts : 0 ≤ x.s ∧ x.s < x.e ∧ x.e - x.s ≤ 4096 := by
      unfold sizeB at hsz
      simp only [Bool.and_eq_true] at hsz
      exact sized_iff.1 hsz.1
    have hgood : GoodE (moveE x 0) := by
      unfold sizeB at hsz
      simp only [Bool.and_eq_true] at hsz
      exact (goodB_iff _).1 hsz.2
    obtain ⟨p1, p2, p3⟩ := hparts
    have hon : okI (x.e - x.s) := ⟨by omega, by omega⟩
    rw [hsz] at HS
    cases fixed with
    | true =>
      have HBe := Lib.hid (fun W => mayBe_ok W addr (x.e - x.s) ho hon)
      cases k : rangeV addr (x.e - x.s) with
      | false =>
        have e : mapV L addr x true = ⟨L, 0, [], 2⟩ := by unfold mapV; rw [may_size, hsz, k]; rfl
        rw [e]
        rw [k] at HBe
        clear e k h hm hsz hx ho hl hon hgood
        go_enter Try.func22, Try.ntmps22
        go_wp2_with fail
        refine HS.out.mono ?_
        rintro e w1 ⟨n, rfl, -, hn, g1⟩
        obtain rfl := hn (by first | trivial | rfl)
        have HG1 := Lib.hid (grown_trans HG0.out g1)
        have HMa := Lib.hid (HMd.out w1 HG1.out)
        have HBa := Lib.hid (HBe.out w1)
        clear g1
        go_wp2_with fail
        refine HMa.out.mono ?_
        rintro e w2 ⟨rfl, e1⟩
        subst e1
        go_wp2_with fail
        refine HBa.out.mono ?_
        rintro e w2 ⟨rfl, e1⟩
        subst e1
        go_wp2_with fail
        go_ret3
        exact ⟨_, _, rfl, OwnOf.nil _ _, HH.out.grow HG1.out, New.refl _ _, Turn.grown HG1.out⟩
      | true =>
        obtain ⟨r1, r2, r3, r4⟩ := range_iff.1 k
        have e : mapV L addr x true = ⟨mergeE (putE (leftE L addr (addr + (x.e - x.s))) (moveE x addr)), addr, goneE L addr (addr + (x.e - x.s)), 0⟩ := by unfold mapV; rw [may_size, hsz, k]; rfl
        rw [e]
        rw [k] at HBe
        have HPut := Lib.hid (map_put h hm hl x addr r1 (by omega) p2 p3 hgood)
        have HMv := Lib.hid (fun W => moved_ok x addr (x.e - x.s) r1 (by omega) (by omega) p3 W)
        rw [putAt_move] at HMv
        clear e k h hm hsz hx ho hl hon hgood
        go_enter Try.func22, Try.ntmps22
        go_wp2_with fail
        refine HS.out.mono ?_
        rintro e w1 ⟨n, rfl, -, hn, g1⟩
        obtain rfl := hn (by first | trivial | rfl)
        have HG1 := Lib.hid (grown_trans HG0.out g1)
        have HMa := Lib.hid (HMd.out w1 HG1.out)
        have HBa := Lib.hid (HBe.out w1)
        have HMw := Lib.hid (HMv.out w1)
        obtain ⟨q0, q1, q2, q3, q4, q5, q6, q7, q8, q9⟩ := (HB0.out.grow g1).all
        clear g1
        go_wp2_with fail
        refine HMa.out.mono ?_
        rintro e w2 ⟨rfl, e1⟩
        subst e1
        go_wp2_with fail
        refine HBa.out.mono ?_
        rintro e w2 ⟨rfl, e1⟩
        subst e1
        go_wp2_with fail
        refine HMw.out.mono ?_
        rintro e w3 ⟨rfl, g3⟩
        have HG3 := Lib.hid (grown_trans HG1.out g3)
        have HPa := Lib.hid (HPut.out w3 HG3.out)
        clear g3 q0 q1 q2 q3 q4 q5 q6 q7 q8 q9
        go_wp2_with fail
        refine HPa.out.mono ?_
        rintro e w4 ⟨u, v', rfl, k1, k2, k3, k4⟩
        have H1 := Lib.hid k1
        have H2 := Lib.hid k2
        have H3 := Lib.hid k3
        have H4 := Lib.hid k4
        clear k1 k2 k3 k4
        go_wp2_with fail
        go_ret3
        exact ⟨_, _, rfl, H1.out, H2.out, H3.out, H4.out⟩
    | false =>
      obtain ⟨a, c, hv⟩ := h.form
      subst hv
      have HSp := Lib.hid (fun W (g : w.grownBy W none) => space_ok (h.grow g).ec hm.rf (by omega) addr (x.e - x.s))
      cases k : spaceE L addr (x.e - x.s) with
      | none =>
        have e : mapV L addr x false = ⟨L, 0, [], 5⟩ := by unfold mapV; rw [may_size, hsz, k]; rfl
        rw [e]
        have hsv : spaceV L addr (x.e - x.s) = .tuple #[.int .i64 0, .bool false] := by unfold spaceV; rw [k]
        rw [hsv] at HSp
        clear e k h hm hsz hx ho hl hon hgood hsv
        go_enter Try.func22, Try.ntmps22
        go_wp2_with fail
        refine HS.out.mono ?_
        rintro e w1 ⟨n, rfl, -, hn, g1⟩
        obtain rfl := hn (by first | trivial | rfl)
        have HG1 := Lib.hid (grown_trans HG0.out g1)
        have HMa := Lib.hid (HMd.out w1 HG1.out)
        have HSa := Lib.hid (HSp.out w1 HG1.out)
        have c1 := (HH.out.grow HG1.out).at0
        clear g1
        go_wp2_with fail
        refine HMa.out.mono ?_
        rintro e w2 ⟨rfl, e1⟩
        subst e1
        go_wp2_with fail
        refine HSa.out.mono ?_
        rintro e w3 ⟨rfl, g3⟩
        have HG3 := Lib.hid (grown_trans HG1.out g3)
        clear g3 c1
        go_wp2_with fail
        go_ret3
        exact ⟨_, _, rfl, OwnOf.nil _ _, HH.out.grow HG3.out, New.refl _ _, Turn.grown HG3.out⟩
      | some at' =>
        have e : mapV L addr x false = ⟨mergeE (putE L (moveE x at')), at', [], 0⟩ := by unfold mapV; rw [may_size, hsz, k]; rfl
        rw [e]
        have hsv : spaceV L addr (x.e - x.s) = .tuple #[.int .i64 at', .bool true] := by unfold spaceV; rw [k]
        rw [hsv] at HSp
        obtain ⟨q1, q2, q3⟩ := free_space hm.rf p2 k
        have hfree := (free_iff hm.rf (good_move hgood q1 q2).lt).1 q3
        obtain ⟨f1, f2⟩ := free_same (lo := at') (hi := at' + (x.e - x.s)) hm.rf (by omega) hfree
        have HPut := Lib.hid (map_put h hm hl x at' q1 q2 p2 p3 hgood)
        rw [f1, f2] at HPut
        have HMv := Lib.hid (fun W => moved_ok x at' (x.e - x.s) q1 (by omega) (by omega) p3 W)
        rw [putAt_move] at HMv
        clear e k h hm hsz hx ho hl hon hgood hsv hfree f1 f2 q3
        go_enter Try.func22, Try.ntmps22
        go_wp2_with fail
        refine HS.out.mono ?_
        rintro e w1 ⟨n, rfl, -, hn, g1⟩
        obtain rfl := hn (by first | trivial | rfl)
        have HG1 := Lib.hid (grown_trans HG0.out g1)
        have HB1 := Lib.hid (HB0.out.grow g1)
        have HMa := Lib.hid (HMd.out w1 HG1.out)
        have HSa := Lib.hid (HSp.out w1 HG1.out)
        have c1 := (HH.out.grow HG1.out).at0
        clear g1
        go_wp2_with fail
        refine HMa.out.mono ?_
        rintro e w2 ⟨rfl, e1⟩
        subst e1
        go_wp2_with fail
        refine HSa.out.mono ?_
        rintro e w3 ⟨rfl, g3⟩
        have HG3 := Lib.hid (grown_trans HG1.out g3)
        have HMw := Lib.hid (HMv.out w3)
        obtain ⟨q0, q1, q2, q3, q4, q5, q6, q7, q8, q9⟩ := (HB1.out.grow g3).all
        clear g3 c1
        go_wp2_with fail
        refine HMw.out.mono ?_
        rintro e w4 ⟨rfl, g4⟩
        have HG4 := Lib.hid (grown_trans HG3.out g4)
        have HPa := Lib.hid (HPut.out w4 HG4.out)
        clear g4 q0 q1 q2 q3 q4 q5 q6 q7 q8 q9
        go_wp2_with fail
        refine HPa.out.mono ?_
        rintro e w5 ⟨u, v', rfl, k1, k2, k3, k4⟩
        have H1 := Lib.hid k1
        have H2 := Lib.hid k2
        have H3 := Lib.hid k3
        have H4 := Lib.hid k4
        clear k1 k2 k3 k4
        go_wp2_with fail
        go_ret3
        exact ⟨_, _, rfl, H1.out, H2.out, H3.out, H4.out⟩
end Go.Proofs.Ytamkmmhjmpjibaa
