/- Layer 16: the document's Map. -/
import Derived.Test.YtamkmmhjmpjibaaVmpRefE
import Derived.Test.YtamkmmhjmpjibaaEyInsR
namespace Go.Proofs.Ytamkmmhjmpjibaa
open Go.ChangeShapes Go.WideShapes Go.ChangeAt Go.RowKit Go.Deep
set_option linter.unusedVariables false
set_option linter.unusedSimpArgs false

/-- A box whose entry is moved: its two cells stored. -/
theorem box_move {w : World} {y : Nat} {x : En} (h : EnB w y x) (a b : Int) : EnB ((w.setCell ⟨y, 0, none⟩ (.int .i64 a)).setCell ⟨y, 1, none⟩ (.int .i64 b)) y { x with s := a, e := b } := by
  have h1 := heap_setCell_same w y 0 _ _ (.int .i64 a) h
  simp only [List.setIfInBounds_toArray, List.set_cons_zero, List.set_cons_succ] at h1
  have h2 := heap_setCell_same _ y 1 _ _ (.int .i64 b) h1
  simp only [List.setIfInBounds_toArray, List.set_cons_zero, List.set_cons_succ] at h2
  exact h2
theorem move_grown (w : World) (y : Nat) (a b : Int) : w.grownBy ((w.setCell ⟨y, 0, none⟩ (.int .i64 a)).setCell ⟨y, 1, none⟩ (.int .i64 b)) (some y) := grown_trans (grown_set _ _ _ _) (grown_set _ _ _ _)
theorem insE_yes {L : List En} {x : En} (hg : GoodE x) (hf : freeB L x = true) : insE L x = (putE L x, true) := ins_yes ((goodB_iff x).2 hg) hf
theorem move0 (x : En) : moveE x 0 = { x with s := 0, e := x.e - x.s } := by unfold moveE; simp
set_option maxRecDepth 100000 in
set_option maxHeartbeats 8000000 in
theorem refMap_ok {w : World} {r : Nat} {v : Value} {L : List En} (h : VR w r v L) (hm : MapL L) (hl : L.length ≤ 900) (addr : Int) (x : En) (fixed : Bool) (ho : okI addr) (hx : OkN x) :
    Calls Try.prog 29 #[.pointer (some ⟨r, 0, none⟩), .int .i64 addr, .agg #[.int .i64 x.s, .int .i64 x.e, .int .i64 x.f, .int .i64 x.o, .bool x.sh, .int .i64 x.p, .int .i64 x.m, .int .i64 x.i, .int .i64 x.a, .bool x.wi], .bool fixed] w fun e w' => ∃ u v', e = .returned (.tuple #[.int .i64 (mapV L addr x fixed).n, u, .int .i64 (mapV L addr x fixed).err]) ∧ EOwn w' w.heap.size u (mapV L addr x fixed).gone ∧ VR w' r v' (mapV L addr x fixed).l ∧ New w v v' ∧ w.grownBy w' (some r) := by
  have HG0 := Lib.hid (World.grownBy_alloc w (.cells #[.int .i64 x.s, .int .i64 x.e, .int .i64 x.f, .int .i64 x.o, .bool x.sh, .int .i64 x.p, .int .i64 x.m, .int .i64 x.i, .int .i64 x.a, .bool x.wi] 31) none)
  have HB0 := Lib.hid (EnB.new w x)
  have HH := Lib.hid h
  obtain ⟨⟨s0, s1⟩, ⟨e0, e1⟩, hok⟩ := hx
  by_cases k1 : x.s < 0
  · have b1 : decide (x.s < 0) = true := decide_eq_true k1
    have e : mapV L addr x fixed = ⟨L, 0, [], 2⟩ := by unfold mapV; rw [may_size]; unfold sizeB sizedB; rw [decide_eq_false (by omega)]; rfl
    rw [e]
    clear e h hm hl ho hok
    go_enter Try.func29, Try.ntmps29
    go_wp2_with fail
    go_ret3
    first | exact ⟨_, _, rfl, OwnOf.nil _ _, HH.out.grow HG0.out, New.refl _ _, grown_none HG0.out⟩ | exact ⟨_, _, OwnOf.nil _ _, HH.out.grow HG0.out, New.refl _ _, grown_none HG0.out⟩ | exact ⟨_, rfl, OwnOf.nil _ _, _, HH.out.grow HG0.out, New.refl _ _, grown_none HG0.out⟩ | exact ⟨_, OwnOf.nil _ _, _, HH.out.grow HG0.out, New.refl _ _, grown_none HG0.out⟩ | (trace_state; fail)
  · have b1 : decide (x.s < 0) = false := decide_eq_false k1
    by_cases k2 : x.e ≤ x.s
    · have b2 : decide (x.e ≤ x.s) = true := decide_eq_true k2
      have e : mapV L addr x fixed = ⟨L, 0, [], 2⟩ := by unfold mapV; rw [may_size]; unfold sizeB sizedB; rw [decide_eq_false (by omega)]; rfl
      rw [e]
      clear e h hm hl ho hok
      go_enter Try.func29, Try.ntmps29
      go_wp2_with fail
      go_ret3
      first | exact ⟨_, _, rfl, OwnOf.nil _ _, HH.out.grow HG0.out, New.refl _ _, grown_none HG0.out⟩ | exact ⟨_, _, OwnOf.nil _ _, HH.out.grow HG0.out, New.refl _ _, grown_none HG0.out⟩ | exact ⟨_, rfl, OwnOf.nil _ _, _, HH.out.grow HG0.out, New.refl _ _, grown_none HG0.out⟩ | exact ⟨_, OwnOf.nil _ _, _, HH.out.grow HG0.out, New.refl _ _, grown_none HG0.out⟩ | (trace_state; fail)
    · have b2 : decide (x.e ≤ x.s) = false := decide_eq_false k2
      have hw0 : IntKind.i64.wrap (x.e - x.s) = x.e - x.s := by rw [IntKind.wrap_i64]; omega
      obtain ⟨n, hn⟩ : ∃ n, x.e - x.s = n := ⟨_, rfl⟩
      rw [hn] at hw0
      by_cases k3 : n > 4096
      · have b3 : decide (n > 4096) = true := decide_eq_true k3
        have e : mapV L addr x fixed = ⟨L, 0, [], 2⟩ := by unfold mapV; rw [may_size]; unfold sizeB sizedB; rw [decide_eq_false (by omega)]; rfl
        rw [e]
        clear e h hm hl ho hok
        go_enter Try.func29, Try.ntmps29
        rw [← hn] at b3 hw0
        go_wp2_with fail
        go_ret3
        first | exact ⟨_, _, rfl, OwnOf.nil _ _, HH.out.grow HG0.out, New.refl _ _, grown_none HG0.out⟩ | exact ⟨_, _, OwnOf.nil _ _, HH.out.grow HG0.out, New.refl _ _, grown_none HG0.out⟩ | exact ⟨_, rfl, OwnOf.nil _ _, _, HH.out.grow HG0.out, New.refl _ _, grown_none HG0.out⟩ | exact ⟨_, OwnOf.nil _ _, _, HH.out.grow HG0.out, New.refl _ _, grown_none HG0.out⟩ | (trace_state; fail)
      · have b3 : decide (n > 4096) = false := decide_eq_false k3
        have hsd : sizedB x = true := sized_iff.2 ⟨by omega, by omega, by omega⟩
        have hsz : sizeB x = goodB (moveE x 0) := by unfold sizeB; rw [hsd]; rfl
        have hon : okI n := ⟨by omega, by omega⟩
        obtain ⟨y, hy⟩ : ∃ y : En, (⟨0, n, x.f, x.o, x.sh, x.p, x.m, x.i, x.a, x.wi⟩ : En) = y := ⟨_, rfl⟩
        have hym : moveE x 0 = y := by rw [← hy, move0, ← hn]
        have HBy := Lib.hid (show EnB (w.alloc (.cells #[.int .i64 0, .int .i64 n, .int .i64 x.f, .int .i64 x.o, .bool x.sh, .int .i64 x.p, .int .i64 x.m, .int .i64 x.i, .int .i64 x.a, .bool x.wi] 31)) w.heap.size y by rw [← hy]; exact heap_alloc_new w _)
        have HGy := Lib.hid (World.grownBy_alloc w (.cells #[.int .i64 0, .int .i64 n, .int .i64 x.f, .int .i64 x.o, .bool x.sh, .int .i64 x.p, .int .i64 x.m, .int .i64 x.i, .int .i64 x.a, .bool x.wi] 31) none)
        have hyk : OkE y := by rw [← hym]; exact ⟨hok.p, hok.m⟩
        have HGd0 := Lib.hid (fun W => refGood_ok y hyk W)
        have hyv : (.agg #[.int .i64 y.s, .int .i64 y.e, .int .i64 y.f, .int .i64 y.o, .bool y.sh, .int .i64 y.p, .int .i64 y.m, .int .i64 y.i, .int .i64 y.a, .bool y.wi] : Value) = .agg #[.int .i64 0, .int .i64 n, .int .i64 x.f, .int .i64 x.o, .bool x.sh, .int .i64 x.p, .int .i64 x.m, .int .i64 x.i, .int .i64 x.a, .bool x.wi] := by rw [← hy]
        have HGd := HGd0
        rw [hyv] at HGd
        clear HGd0 hyv
        have hnn := hon
        have HRg := Lib.hid (fun W => refRange_ok W addr n ho hnn)
        cases fixed with
        | true =>
          cases kr : rangeV addr n with
          | false =>
            have e : mapV L addr x true = ⟨L, 0, [], 2⟩ := by unfold mapV; rw [may_size, hn, kr]; simp
            rw [e]
            rw [kr] at HRg
            clear e h hm hl ho hok
            go_enter Try.func29, Try.ntmps29
            go_wp2_with fail
            refine (HRg.out _).mono ?_
            rintro e w1 ⟨rfl, e1⟩
            subst e1
            go_wp2_with fail
            go_ret3
            first | exact ⟨_, _, rfl, OwnOf.nil _ _, HH.out.grow HGy.out, New.refl _ _, grown_none HGy.out⟩ | exact ⟨_, _, OwnOf.nil _ _, HH.out.grow HGy.out, New.refl _ _, grown_none HGy.out⟩ | fail
          | true =>
            rw [kr] at HRg
            obtain ⟨r1, r2, r3, r4⟩ := range_iff.1 kr
            cases hg : goodB y with
            | false =>
              have e : mapV L addr x true = ⟨L, 0, [], 2⟩ := by unfold mapV; rw [may_size, hsz, hym, hg]; rfl
              rw [e]
              rw [hg] at HGd
              clear e h hm hl ho hok
              go_enter Try.func29, Try.ntmps29
              go_wp2_with fail
              refine (HRg.out _).mono ?_
              rintro e w1 ⟨rfl, e1⟩
              subst e1
              go_wp2_with fail
              refine (HGd.out _).mono ?_
              rintro e w2 ⟨rfl, g2⟩
              have HG2 := Lib.hid (grown_trans HGy.out g2)
              clear g2
              go_wp2_with fail
              go_ret3
              first | exact ⟨_, _, rfl, OwnOf.nil _ _, HH.out.grow HG2.out, New.refl _ _, grown_none HG2.out⟩ | exact ⟨_, _, OwnOf.nil _ _, HH.out.grow HG2.out, New.refl _ _, grown_none HG2.out⟩ | fail
            | true =>
              have e : mapV L addr x true = ⟨mergeE (putE (leftE L addr (addr + n)) (moveE x addr)), addr, goneE L addr (addr + n), 0⟩ := by unfold mapV; rw [may_size, hsz, hym, hg, hn, kr]; rfl
              rw [e]
              rw [hg] at HGd
              have hgood : GoodE (moveE x 0) := by rw [hym]; exact (goodB_iff y).1 hg
              have hgm := good_move hgood r1 (a := addr) (by omega)
              have hfr := free_left hm.rf hgm
              rw [hn] at hfr
              have hrl := rf_left addr (addr + n) hm.rf
              have hll := left_len' addr (addr + n) hm.rf
              have hins := insE_yes hgm hfr
              obtain ⟨a, c, hv⟩ := h.form
              subst hv
              have HC := Lib.hid (fun W (g : w.grownBy W none) => refCut_ok c (h.grow g).row hm.rf (by omega) addr (addr + n))
              obtain ⟨z, hz⟩ : ∃ z, moveE x addr = z := ⟨_, rfl⟩
              have hzb : (⟨addr, addr + n, y.f, y.o, y.sh, y.p, y.m, y.i, y.a, y.wi⟩ : En) = z := by rw [← hz, ← hy, ← hn]; rfl
              have hzk : OkE z := by rw [← hz]; exact ⟨hok.p, hok.m⟩
              obtain ⟨Lq, hLq⟩ : ∃ Lq, leftE L addr (addr + n) = Lq := ⟨_, rfl⟩
              obtain ⟨Gq, hGq⟩ : ∃ Gq, goneE L addr (addr + n) = Gq := ⟨_, rfl⟩
              rw [hLq, hz] at hins hfr
              rw [hLq, hGq] at HC
              rw [hLq] at hrl hll
              rw [hLq, hGq, hz]
              have hpl := put_len Lq z
              have hrp : RF 0 (putE Lq z) := rf_put hrl (by rw [← hz]; exact hgm) hfr
              obtain ⟨Pq, hPq⟩ : ∃ Pq, putE Lq z = Pq := ⟨_, rfl⟩
              rw [hPq] at hins hpl hrp ⊢
              have HI := Lib.hid (fun W s c' (hh : ERow W (.slice s Lq.length c') Lq) => refInsert_ok c' hh hrl (by omega) z hzk)
              rw [hins] at HI
              simp only at HI
              have HM := Lib.hid (fun W s c' (hh : ERow W (.slice s Pq.length c') Pq) => refMerge_ok c' hh hrp (by omega))
              have hrw := h.lt
              have c0 := h.at
              have HZ := Lib.hid hzb
              clear e h hm hl ho hok hgood hgm hfr hrl hll hins hLq hGq hPq hpl hrp hz hzb hzk hym hyk
              go_enter Try.func29, Try.ntmps29
              go_wp2_with fail
              refine (HRg.out _).mono ?_
              rintro e w1 ⟨rfl, e1⟩
              subst e1
              go_wp2_with fail
              refine (HGd.out _).mono ?_
              rintro e w2 ⟨rfl, g2⟩
              have HB2 := Lib.hid (HBy.out.grow g2)
              have HG2 := Lib.hid (grown_trans HGy.out g2)
              have c2 := (HH.out.grow HG2.out).at
              have HCa := Lib.hid (HC.out w2 HG2.out)
              obtain ⟨z0, z1, -⟩ := HB2.out.all
              clear g2 c0
              go_wp2_with fail
              refine HCa.out.mono ?_
              rintro e w3 ⟨u1, u2, rfl, hown1, hown2, g3⟩
              obtain ⟨a1, c1, hvf⟩ := OwnOf.form hown1
              subst hvf
              obtain ⟨a2, c5, hvf⟩ := OwnOf.form hown2
              subst hvf
              have hs3 := HG2.out.size
              have hlt2 := HB2.out.lt
              have HB3 := Lib.hid (HB2.out.grow g3)
              have HG3 := Lib.hid (grown_trans HG2.out g3)
              have HL3 := Lib.hid (eown_kept0 hown1 (move_grown w3 w.heap.size addr (addr + n)) (fun b hb e => by have := (OwnOf.lt hown1 hb).1; cases e; omega))
              have HO3 := Lib.hid (eown_kept0 hown2 (move_grown w3 w.heap.size addr (addr + n)) (fun b hb e => by have := (OwnOf.lt hown2 hb).1; cases e; omega))
              have HB4 := Lib.hid (box_move HB3.out addr (addr + n))
              have HG4 := Lib.hid (grown_at HG3.out (move_grown w3 w.heap.size addr (addr + n)) (Nat.le_refl _))
              obtain ⟨y0, y1, -⟩ := HB3.out.all
              have hf3 := HB3.out.frozen
              obtain ⟨t0, t1, t2, t3, t4, t5, t6, t7, t8, t9⟩ := HB4.out.all
              obtain ⟨w4, hw4⟩ : ∃ w4, (w3.setCell ⟨w.heap.size, 0, none⟩ (.int .i64 addr)).setCell ⟨w.heap.size, 1, none⟩ (.int .i64 (addr + n)) = w4 := ⟨_, rfl⟩
              rw [hw4] at HL3 HO3 HG4 t0 t1 t2 t3 t4 t5 t6 t7 t8 t9
              have HIa := Lib.hid (HI.out w4 a1 c1 (eown_row HL3.out))
              rw [← HZ.out] at HIa
              have hs2 := HG2.out.size
              clear hown1 hown2 g3 HB4 c2 z0 z1
              go_wp2_with fail
              refine HIa.out.mono ?_
              rintro e w5 ⟨u5, rfl, hown5, g5⟩
              obtain ⟨a5, c6, hvf⟩ := OwnOf.form hown5
              subst hvf
              have HG5 := Lib.hid (grown_trans HG4.out g5)
              have HMa := Lib.hid (HM.out w5 a5 c6 (eown_row hown5))
              have HO5 := Lib.hid (eown_grow0 HO3.out g5)
              clear hown5 g5
              go_wp2_with fail
              refine HMa.out.mono ?_
              rintro e w6 ⟨u6, rfl, hown6, g6⟩
              obtain ⟨a6, c7, hvf⟩ := OwnOf.form hown6
              subst hvf
              have HG6 := Lib.hid (grown_trans HG5.out g6)
              have hV6 := HH.out.grow HG6.out
              have c8 := hV6.at
              have f8 := hV6.frozen
              have HP := Lib.hid (VR.put1 hV6.head (OwnOf.lower hown6 (by have := HG5.out.size; omega)))
              have HGf := Lib.hid (grown_trans (grown_none HG6.out) (grown_set w6 r 0 (.slice a6 (mergeE Pq).length c7)))
              have HN := Lib.hid (New.of (v := .slice a L.length c) hown6 HG5.out.size)
              have HO6 := Lib.hid (OwnOf.lower (base2 := w.heap.size) (eown_kept0 (eown_grow0 HO5.out g6) (grown_set w6 r 0 (.slice a6 (mergeE Pq).length c7)) (fun b hb e => by have := (OwnOf.lt HO3.out hb).1; cases e; omega)) (by omega))
              clear hown6 g6 hV6
              go_wp2_with fail
              go_ret3
              first | exact ⟨_, _, rfl, HO6.out, HP.out, HN.out, HGf.out⟩ | exact ⟨_, _, HO6.out, HP.out, HN.out, HGf.out⟩ | fail
        | false =>
          cases hg : goodB y with
          | false =>
            have e : mapV L addr x false = ⟨L, 0, [], 2⟩ := by unfold mapV; rw [may_size, hsz, hym, hg]; rfl
            rw [e]
            rw [hg] at HGd
            clear e h hm hl ho hok
            go_enter Try.func29, Try.ntmps29
            go_wp2_with fail
            refine (HGd.out _).mono ?_
            rintro e w2 ⟨rfl, g2⟩
            have HG2 := Lib.hid (grown_trans HGy.out g2)
            clear g2
            go_wp2_with fail
            go_ret3
            first | exact ⟨_, _, rfl, OwnOf.nil _ _, HH.out.grow HG2.out, New.refl _ _, grown_none HG2.out⟩ | exact ⟨_, _, OwnOf.nil _ _, HH.out.grow HG2.out, New.refl _ _, grown_none HG2.out⟩ | fail
          | true =>
            rw [hg] at HGd
            obtain ⟨a, c, hv⟩ := h.form
            subst hv
            have HSp := Lib.hid (fun W (g : w.grownBy W none) => refSpace_ok c (h.grow g).row hm.rf (by omega) addr n)
            cases ks : spaceE L addr n with
            | none =>
              have e : mapV L addr x false = ⟨L, 0, [], 5⟩ := by unfold mapV; rw [may_size, hsz, hym, hg, hn, ks]; rfl
              rw [e]
              have hsv : spaceV L addr n = .tuple #[.int .i64 0, .bool false] := by unfold spaceV; rw [ks]
              rw [hsv] at HSp
              clear e h hm hl ho hok hsv
              go_enter Try.func29, Try.ntmps29
              go_wp2_with fail
              refine (HGd.out _).mono ?_
              rintro e w2 ⟨rfl, g2⟩
              have HG2 := Lib.hid (grown_trans HGy.out g2)
              have c2 := (HH.out.grow HG2.out).at
              have HSa := Lib.hid (HSp.out w2 HG2.out)
              clear g2
              go_wp2_with fail
              refine HSa.out.mono ?_
              rintro e w3 ⟨rfl, g3⟩
              have HG3 := Lib.hid (grown_trans HG2.out g3)
              clear g3 c2
              go_wp2_with fail
              go_ret3
              first | exact ⟨_, _, rfl, OwnOf.nil _ _, HH.out.grow HG3.out, New.refl _ _, grown_none HG3.out⟩ | exact ⟨_, _, OwnOf.nil _ _, HH.out.grow HG3.out, New.refl _ _, grown_none HG3.out⟩ | fail
            | some ad =>
              have e : mapV L addr x false = ⟨mergeE (putE L (moveE x ad)), ad, [], 0⟩ := by unfold mapV; rw [may_size, hsz, hym, hg, hn, ks]; rfl
              rw [e]
              have hsv : spaceV L addr n = .tuple #[.int .i64 ad, .bool true] := by unfold spaceV; rw [ks]
              rw [hsv] at HSp
              have hgood : GoodE (moveE x 0) := by rw [hym]; exact (goodB_iff y).1 hg
              obtain ⟨q1, q2, q3⟩ := free_space (x := x) hm.rf (by omega) (by rw [hn]; exact ks)
              have hgm := good_move hgood q1 q2
              have hins := insE_yes hgm q3
              obtain ⟨z, hz⟩ : ∃ z, moveE x ad = z := ⟨_, rfl⟩
              have hzb : (⟨ad, ad + n, y.f, y.o, y.sh, y.p, y.m, y.i, y.a, y.wi⟩ : En) = z := by rw [← hz, ← hy, ← hn]; rfl
              have hzk : OkE z := by rw [← hz]; exact ⟨hok.p, hok.m⟩
              rw [hz] at hins q3 ⊢
              have hpl := put_len L z
              have hrp : RF 0 (putE L z) := rf_put hm.rf (by rw [← hz]; exact hgm) q3
              obtain ⟨Pq, hPq⟩ : ∃ Pq, putE L z = Pq := ⟨_, rfl⟩
              rw [hPq] at hins hpl hrp ⊢
              have HI := Lib.hid (fun W s c' (hh : ERow W (.slice s L.length c') L) => refInsert_ok c' hh hm.rf (by omega) z hzk)
              rw [hins] at HI
              simp only at HI
              have HM := Lib.hid (fun W s c' (hh : ERow W (.slice s Pq.length c') Pq) => refMerge_ok c' hh hrp (by omega))
              have hrw := h.lt
              have HZ := Lib.hid hzb
              have had : 0 ≤ ad ∧ ad ≤ 67108864 - n := by omega
              obtain ⟨had0, had1⟩ := had
              clear e h hm hl ho hok hsv hgood hgm hins hPq hpl hrp hz hzb hzk hym hyk q1 q2 q3
              go_enter Try.func29, Try.ntmps29
              go_wp2_with fail
              refine (HGd.out _).mono ?_
              rintro e w2 ⟨rfl, g2⟩
              have HB2 := Lib.hid (HBy.out.grow g2)
              have HG2 := Lib.hid (grown_trans HGy.out g2)
              have c2 := (HH.out.grow HG2.out).at
              have HSa := Lib.hid (HSp.out w2 HG2.out)
              clear g2
              go_wp2_with fail
              refine HSa.out.mono ?_
              rintro e w3 ⟨rfl, g3⟩
              have HB3 := Lib.hid (HB2.out.grow g3)
              have HG3 := Lib.hid (grown_trans HG2.out g3)
              have HB4 := Lib.hid (box_move HB3.out ad (ad + n))
              have HG4 := Lib.hid (grown_at HG3.out (move_grown w3 w.heap.size ad (ad + n)) (Nat.le_refl _))
              obtain ⟨y0, y1, -⟩ := HB3.out.all
              have hf3 := HB3.out.frozen
              obtain ⟨t0, t1, t2, t3, t4, t5, t6, t7, t8, t9⟩ := HB4.out.all
              obtain ⟨w4, hw4⟩ : ∃ w4, (w3.setCell ⟨w.heap.size, 0, none⟩ (.int .i64 ad)).setCell ⟨w.heap.size, 1, none⟩ (.int .i64 (ad + n)) = w4 := ⟨_, rfl⟩
              rw [hw4] at HG4 t0 t1 t2 t3 t4 t5 t6 t7 t8 t9
              have HIa := Lib.hid (HI.out w4 a c (HH.out.grow HG4.out).row)
              rw [← HZ.out] at HIa
              clear g3 HB4 c2
              go_wp2_with fail
              refine HIa.out.mono ?_
              rintro e w5 ⟨u5, rfl, hown5, g5⟩
              obtain ⟨a5, c6, hvf⟩ := OwnOf.form hown5
              subst hvf
              have HG5 := Lib.hid (grown_trans HG4.out g5)
              have HMa := Lib.hid (HM.out w5 a5 c6 (eown_row hown5))
              clear hown5 g5
              go_wp2_with fail
              refine HMa.out.mono ?_
              rintro e w6 ⟨u6, rfl, hown6, g6⟩
              obtain ⟨a6, c7, hvf⟩ := OwnOf.form hown6
              subst hvf
              have HG6 := Lib.hid (grown_trans HG5.out g6)
              have hV6 := HH.out.grow HG6.out
              have c8 := hV6.at
              have f8 := hV6.frozen
              have HP := Lib.hid (VR.put1 hV6.head (OwnOf.lower hown6 (by have := HG5.out.size; omega)))
              have HGf := Lib.hid (grown_trans (grown_none HG6.out) (grown_set w6 r 0 (.slice a6 (mergeE Pq).length c7)))
              have HN := Lib.hid (New.of (v := .slice a L.length c) hown6 HG5.out.size)
              clear hown6 g6 hV6
              go_wp2_with fail
              go_ret3
              first | exact ⟨_, _, rfl, OwnOf.nil _ _, HP.out, HN.out, HGf.out⟩ | exact ⟨_, _, OwnOf.nil _ _, HP.out, HN.out, HGf.out⟩ | fail
end Go.Proofs.Ytamkmmhjmpjibaa
