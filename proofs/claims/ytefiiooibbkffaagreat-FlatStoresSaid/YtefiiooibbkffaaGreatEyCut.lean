/- Layer 15: Clip, the document's. Package entry (landed): Insert. Package entry (landed): Clip. Package entry (landed): Cut. -/
import Derived.Test.YtefiiooibbkffaaGreatEyMerge
import Derived.Deep.Cut
import Derived.Deep.CutRange
namespace Go.Proofs.YtefiiooibbkffaaGreat
open Go.ChangeShapes Go.WideShapes Go.ChangeAt Go.RowKit Go.Deep Go.Sort
set_option linter.unusedVariables false

theorem clip_take {L : List En} {q : Nat} {x : En} (pg : Int) (hx : L[q]? = some x) : clipE (L.take (q + 1)) pg = clipE (L.take q) pg ++ clip1 pg x := by
  rw [takel_at hx]; unfold clipE; rw [List.flatMap_append]; simp
theorem clip_len2 (l : List En) (pg : Int) : (clipE l pg).length ≤ 2 * l.length := by
  induction l with
  | nil => simp [clipE]
  | cons x r ih =>
    rw [clip_cons, List.length_append, List.length_cons]
    have : (clip1 pg x).length ≤ 2 := by unfold clip1; split <;> simp
    omega
/-- 'append(l, x, y)', behind the block in which both are laid. -/
theorem wpList_epush2 {ops : Array Oper} {rest : List Oper} {o : Oper} {a : Act} {Q : Exit → Act → World → Prop} (w : World) (hgd : o.guard = none) (s x : Operand)
    (ho : o.op = .call { callee := .builtin .append, args := #[s, x], argTypes := #[47, 47] }) (base : Nat) (v : Value) (xs : List En) (y z : En) (hs : a.eval s = v) (h : EOwn w base v xs) (H c : Nat)
    (hx : a.eval x = .slice (some ⟨H, 0, none⟩) 2 c) (hH : w.heap.size = H) (hl : xs.length ≤ 1000000) (hbase : base ≤ H)
    (hK : ∀ g cap w', EOwn w' base (.slice (some ⟨g, 0, none⟩) (xs.length + 2) cap) (xs ++ [y, z]) → (w.alloc (.cells #[.int .i64 y.s, .int .i64 y.e, .int .i64 y.f, .int .i64 y.o, .bool y.sh, .int .i64 y.p, .int .i64 y.m, .int .i64 y.i, .int .i64 y.a, .bool y.wi, .int .i64 z.s, .int .i64 z.e, .int .i64 z.f, .int .i64 z.o, .bool z.sh, .int .i64 z.p, .int .i64 z.m, .int .i64 z.i, .int .i64 z.a, .bool z.wi] 50)).grownBy w' v.ownBlock → wpList Tryz.prog ops Q rest (a.put o.dst (.slice (some ⟨g, 0, none⟩) (xs.length + 2) cap)) w') :
    wpList Tryz.prog ops Q (o :: rest) a (w.alloc (.cells #[.int .i64 y.s, .int .i64 y.e, .int .i64 y.f, .int .i64 y.o, .bool y.sh, .int .i64 y.p, .int .i64 y.m, .int .i64 y.i, .int .i64 y.a, .bool y.wi, .int .i64 z.s, .int .i64 z.e, .int .i64 z.f, .int .i64 z.o, .bool z.sh, .int .i64 z.p, .int .i64 z.m, .int .i64 z.i, .int .i64 z.a, .bool z.wi] 50)) := by
  obtain ⟨i0, hi, hz0, hz1, hz2⟩ := info_parts info_en
  subst hH
  refine wpList_append_lies _ hgd s x 47 ho base 50 i0 (.agg #[.int .i64 0, .int .i64 0, .int .i64 0, .int .i64 0, .bool false, .int .i64 0, .int .i64 0, .int .i64 0, .int .i64 0, .bool false]) 10 80 Tryz.underlying47 hi hz0 hz1 hz2 rfl (by decide) v xs.length (xs.flatMap enCells) hs (World.ownsRow.alloc h _) ⟨w.heap.size, 0, none⟩ 2 c ([y, z].flatMap enCells) hx rfl ?_ (en_ones [y, z]) (by omega) (by unfold maxLen; omega) (by omega) (by simp; omega) (w.heap.size + 1) (by simp) ?_
  · exact World.news_of_block (heap_alloc_new w _)
  · intro g cap w' hown hgrow hat hlt
    refine hK g cap w' ?_ hgrow
    unfold EOwn OwnOf
    simp only [List.length_append, List.length_cons, List.length_nil, List.flatMap_append]
    exact hown
theorem MkOf.turn {α : Type} {cells : α → List Value} {size : Nat} {t : TypeId} {w wr w2 : World} {v : Value} {xs : List α} {P : List Nat} (h : MkOf cells size t w wr v xs) (ht : Turn P wr w2) (hP : ∀ b, b ∈ P → w.heap.size ≤ b) (hv : ∀ b, v.ownBlock = some b → b ∉ P) : MkOf cells size t w w2 v xs :=
  ⟨((Turn.grown (O := P) h.grown).trans' ht).noGrown hP, h.own.kept fun b hb => ht.block b (h.own.lt hb).2 (hv b hb)⟩
set_option maxRecDepth 100000 in
set_option maxHeartbeats 4000000 in
theorem refClip_ok {w : World} {s : Option Addr} {L : List En} (c : Nat) (h : ERow w (.slice s L.length c) L) (hr : RF 0 L) (hl : L.length ≤ 100000) (pg : Int) :
    Calls Tryz.prog 165 #[.slice s L.length c, .int .i64 pg] w fun e w' => ∃ u, e = .returned u ∧ EOwn w' w.heap.size u (clipE L pg) ∧ w.grownBy w' none := by
  have HX := Lib.hid h
  have HR := Lib.hid hr
  have HI := Lib.hid (show EMk w w (.slice none 0 0) (clipE (L.take 0) pg) from MkOf.nil w)
  clear h hr
  go_enter Tryz.func165, Tryz.ntmps165
  go_wp2_with fail
  go_loopw [5, 12] (fun vv iv wr => ∃ q : Nat, q ≤ L.length ∧ iv = .int .i64 q ∧ Hid (EMk w wr vv (clipE (L.take q) pg))) (fun _ iv _ => L.length - (intOf iv).toNat)
  case atStart => exact ⟨0, by omega, rfl, HI⟩
  case round =>
    clear HI
    obtain ⟨q, hq, rfl, HJ⟩ := hrel
    by_cases hlt : q < L.length
    · obtain ⟨x, hx⟩ : ∃ x, L[q]? = some x := ⟨_, List.getElem?_eq_getElem hlt⟩
      obtain ⟨g, o, c1, hv1, ka0, ka1, ka2, ka3, ka4, ka5, ka6, ka7, ka8, ka9⟩ := en_cells (erow_grow HX.out HJ.out.grown) hx
      injection hv1 with e1 e2 e3
      subst e1 e3
      have hgx := rf_at HR.out hx
      have q1 := hgx.s0
      have q2 := hgx.e1
      have q3 := hgx.o0
      have q5 := hgx.oe
      have q6 := hgx.f0
      have hN := clip_take pg hx
      have hln := clip_len2 (L.take q) pg
      rw [List.length_take] at hln
      have hkx := (EnB.new wr x).all
      have hbx := EnB.new wr x
      obtain ⟨O, hO⟩ : ∃ O, clipE (L.take q) pg = O := ⟨_, rfl⟩
      rw [hO] at hN hln HJ
      have HJ2 : EMk w (wr.alloc (.cells #[.int .i64 x.s, .int .i64 x.e, .int .i64 x.f, .int .i64 x.o, .bool x.sh, .int .i64 x.p, .int .i64 x.m, .int .i64 x.i, .int .i64 x.a, .bool x.wi] 50)) _ O := MkOf.grow HJ.out (grown_box wr x)
      have hlo : O.length ≤ 200000 := by omega
      obtain ⟨va, vc, hvf⟩ := OwnOf.form HJ.out.own
      subst hvf
      by_cases hc : x.s < pg ∧ pg < x.e
      · have hc1 : clip1 pg x = [lowE x pg, fromE x pg] := by unfold clip1; rw [if_pos hc]
        rw [hc1] at hN
        have HNx := Lib.hid hN
        have b0 : decide (x.s < pg) = true := decide_eq_true hc.1
        have b1 : decide (pg < x.e) = true := decide_eq_true hc.2
        have HJ3 := Lib.hid HJ2
        have HBx := Lib.hid hbx
        obtain ⟨q7, q8⟩ := hc
        clear hx hN hgx hln hO HJ hc1 hbx HJ2
        go_upto_region 6 with fail
        generalize hwb : wr.alloc (.cells #[.int .i64 x.s, .int .i64 x.e, .int .i64 x.f, .int .i64 x.o, .bool x.sh, .int .i64 x.p, .int .i64 x.m, .int .i64 x.i, .int .i64 x.a, .bool x.wi] 50) = wb at *
        obtain ⟨k0, k1, k2, k3, k4, k5, k6, k7, k8, k9⟩ := hkx
        clear hwb
        have hne : wr.heap.size < wb.heap.size := HBx.out.lt
        have HT0 := Lib.hid (show ∀ W, Turn [wb.heap.size, wb.heap.size + 1] ((wb.alloc (.cells #[.int .i64 x.s, .int .i64 x.e, .int .i64 x.f, .int .i64 x.o, .bool x.sh, .int .i64 x.p, .int .i64 x.m, .int .i64 x.i, .int .i64 x.a, .bool x.wi] 50)).alloc (.cells #[.int .i64 x.s, .int .i64 x.e, .int .i64 x.f, .int .i64 x.o, .bool x.sh, .int .i64 x.p, .int .i64 x.m, .int .i64 x.i, .int .i64 x.a, .bool x.wi] 50)).drew W → EMk w W (.slice va O.length vc) O from fun W t =>
          MkOf.turn (MkOf.grow HJ3.out (grown_trans (grown_trans (World.grownBy_alloc _ _ none) (World.grownBy_alloc _ _ none)) (grown_drew1 _))) t (fun b hb => by
            have := HJ3.out.grown.size
            simp only [List.mem_cons, List.not_mem_nil, or_false] at hb
            rcases hb with rfl | rfl <;> omega) (fun b hb hm => by
            have := (OwnOf.lt HJ3.out.own hb).2
            simp only [List.mem_cons, List.not_mem_nil, or_false] at hm
            rcases hm with rfl | rfl <;> omega))
        have hz1 : EnB ((wb.alloc (.cells #[.int .i64 x.s, .int .i64 x.e, .int .i64 x.f, .int .i64 x.o, .bool x.sh, .int .i64 x.p, .int .i64 x.m, .int .i64 x.i, .int .i64 x.a, .bool x.wi] 50)).alloc (.cells #[.int .i64 x.s, .int .i64 x.e, .int .i64 x.f, .int .i64 x.o, .bool x.sh, .int .i64 x.p, .int .i64 x.m, .int .i64 x.i, .int .i64 x.a, .bool x.wi] 50)).drew wb.heap.size x := ((EnB.new wb x).grow (World.grownBy_alloc _ _ _)).grow (grown_drew1 _)
        have hz2 : EnB ((wb.alloc (.cells #[.int .i64 x.s, .int .i64 x.e, .int .i64 x.f, .int .i64 x.o, .bool x.sh, .int .i64 x.p, .int .i64 x.m, .int .i64 x.i, .int .i64 x.a, .bool x.wi] 50)).alloc (.cells #[.int .i64 x.s, .int .i64 x.e, .int .i64 x.f, .int .i64 x.o, .bool x.sh, .int .i64 x.p, .int .i64 x.m, .int .i64 x.i, .int .i64 x.a, .bool x.wi] 50)).drew (wb.heap.size + 1) x := by
          have := (EnB.new (wb.alloc (.cells #[.int .i64 x.s, .int .i64 x.e, .int .i64 x.f, .int .i64 x.o, .bool x.sh, .int .i64 x.p, .int .i64 x.m, .int .i64 x.i, .int .i64 x.a, .bool x.wi] 50)) x).grow (grown_drew1 _)
          rw [World.size_alloc] at this
          exact this
        have hz0 : EnB ((wb.alloc (.cells #[.int .i64 x.s, .int .i64 x.e, .int .i64 x.f, .int .i64 x.o, .bool x.sh, .int .i64 x.p, .int .i64 x.m, .int .i64 x.i, .int .i64 x.a, .bool x.wi] 50)).alloc (.cells #[.int .i64 x.s, .int .i64 x.e, .int .i64 x.f, .int .i64 x.o, .bool x.sh, .int .i64 x.p, .int .i64 x.m, .int .i64 x.i, .int .i64 x.a, .bool x.wi] 50)).drew wr.heap.size x := HBx.out.grow (grown_trans (grown_trans (World.grownBy_alloc _ _ none) (World.grownBy_alloc _ _ none)) (grown_drew1 _))
        by_cases hf : x.f > 0
        · have bf : decide (x.f > 0) = true := decide_eq_true hf
          have ez : fromE x pg = ⟨pg, x.e, x.f, x.o + (pg - x.s), x.sh, x.p, x.m, x.i, x.a, x.wi⟩ := by unfold fromE; rw [if_pos (show 0 < x.f from hf)]
          rw [ez] at HNx
          have q9 : x.o ≤ 4096 := by have := q5 hf; omega
          clear q5 ez hf
          go_region
          all_goals
            generalize ((wb.alloc (.cells #[.int .i64 x.s, .int .i64 x.e, .int .i64 x.f, .int .i64 x.o, .bool x.sh, .int .i64 x.p, .int .i64 x.m, .int .i64 x.i, .int .i64 x.a, .bool x.wi] 50)).alloc (.cells #[.int .i64 x.s, .int .i64 x.e, .int .i64 x.f, .int .i64 x.o, .bool x.sh, .int .i64 x.p, .int .i64 x.m, .int .i64 x.i, .int .i64 x.a, .bool x.wi] 50)).drew = wz at *
            have HT := HT0
            have HZs := Lib.hid (HT0.out _ (Turn.refl _ _)).grown.size
            obtain ⟨z0, z1, z2, z3, z4, z5, z6, z7, z8, z9⟩ := hz0.all
            obtain ⟨m0, m1, m2, m3, m4, m5, m6, m7, m8, m9⟩ := hz1.all
            obtain ⟨n0, n1, n2, n3, n4, n5, n6, n7, n8, n9⟩ := hz2.all
            have f0 := hz1.frozen 1
            have f1 := hz1.frozen 0
            have f2 := hz1.frozen 3
            have f3 := hz2.frozen 1
            have f4 := hz2.frozen 0
            have f5 := hz2.frozen 3
            clear hz0 hz1 hz2 k0 k1 k2 k3 k4 k5 k6 k7 k8 k9
            go_wp2_with (at_builtin; refine wpList_epush2 _ rfl _ _ rfl w.heap.size _ O ⟨x.s, pg, x.f, x.o, x.sh, x.p, x.m, x.i, x.a, x.wi⟩ ⟨pg, x.e, x.f, x.o + (pg - x.s), x.sh, x.p, x.m, x.i, x.a, x.wi⟩ (by rfl) (HT.out _ (Turn.trans' (Turn.trans' (Turn.setCell [wb.heap.size, wb.heap.size + 1] _ _ _ _ (by simp)) (Turn.setCell [wb.heap.size, wb.heap.size + 1] _ _ _ _ (by simp))) (Turn.setCell [wb.heap.size, wb.heap.size + 1] _ _ _ _ (by simp)))).own wz.heap.size _ (by rfl) (by simp [World.setCell]) (by omega) HZs.out ?_; intro g8 cap8 w8 hown8 hg8; have HJ8 := Lib.hid (MkOf.app (HT.out _ (Turn.trans' (Turn.trans' (Turn.setCell [wb.heap.size, wb.heap.size + 1] _ _ _ _ (by simp)) (Turn.setCell [wb.heap.size, wb.heap.size + 1] _ _ _ _ (by simp))) (Turn.setCell [wb.heap.size, wb.heap.size + 1] _ _ _ _ (by simp)))) hg8 hown8); clear hown8 hg8)
            go_roundw
            case rel => exact ⟨q + 1, by omega, by go_num, by rw [HNx.out]; exact HJ8⟩
            case measure => simp [intOf]; omega
        · have bf : decide (x.f > 0) = false := decide_eq_false hf
          have ez : fromE x pg = ⟨pg, x.e, x.f, x.o, x.sh, x.p, x.m, x.i, x.a, x.wi⟩ := by unfold fromE; rw [if_neg (show ¬ 0 < x.f from hf)]
          rw [ez] at HNx
          clear q5 ez hf
          go_region
          all_goals
            generalize ((wb.alloc (.cells #[.int .i64 x.s, .int .i64 x.e, .int .i64 x.f, .int .i64 x.o, .bool x.sh, .int .i64 x.p, .int .i64 x.m, .int .i64 x.i, .int .i64 x.a, .bool x.wi] 50)).alloc (.cells #[.int .i64 x.s, .int .i64 x.e, .int .i64 x.f, .int .i64 x.o, .bool x.sh, .int .i64 x.p, .int .i64 x.m, .int .i64 x.i, .int .i64 x.a, .bool x.wi] 50)).drew = wz at *
            have HT := HT0
            have HZs := Lib.hid (HT0.out _ (Turn.refl _ _)).grown.size
            obtain ⟨z0, z1, z2, z3, z4, z5, z6, z7, z8, z9⟩ := hz0.all
            obtain ⟨m0, m1, m2, m3, m4, m5, m6, m7, m8, m9⟩ := hz1.all
            obtain ⟨n0, n1, n2, n3, n4, n5, n6, n7, n8, n9⟩ := hz2.all
            have f0 := hz1.frozen 1
            have f1 := hz1.frozen 0
            have f2 := hz1.frozen 3
            have f3 := hz2.frozen 1
            have f4 := hz2.frozen 0
            have f5 := hz2.frozen 3
            clear hz0 hz1 hz2 k0 k1 k2 k3 k4 k5 k6 k7 k8 k9
            go_wp2_with (at_builtin; refine wpList_epush2 _ rfl _ _ rfl w.heap.size _ O ⟨x.s, pg, x.f, x.o, x.sh, x.p, x.m, x.i, x.a, x.wi⟩ ⟨pg, x.e, x.f, x.o, x.sh, x.p, x.m, x.i, x.a, x.wi⟩ (by rfl) (HT.out _ (Turn.trans' (Turn.setCell [wb.heap.size, wb.heap.size + 1] _ _ _ _ (by simp)) (Turn.setCell [wb.heap.size, wb.heap.size + 1] _ _ _ _ (by simp)))).own wz.heap.size _ (by rfl) (by simp [World.setCell]) (by omega) HZs.out ?_; intro g8 cap8 w8 hown8 hg8; have HJ8 := Lib.hid (MkOf.app (HT.out _ (Turn.trans' (Turn.setCell [wb.heap.size, wb.heap.size + 1] _ _ _ _ (by simp)) (Turn.setCell [wb.heap.size, wb.heap.size + 1] _ _ _ _ (by simp)))) hg8 hown8); clear hown8 hg8)
            go_roundw
            case rel => exact ⟨q + 1, by omega, by go_num, by rw [HNx.out]; exact HJ8⟩
            case measure => simp [intOf]; omega
      · have hc1 : clip1 pg x = [x] := by unfold clip1; rw [if_neg hc]
        rw [hc1] at hN
        have HNx := Lib.hid hN
        have HJ3 := Lib.hid HJ2
        obtain ⟨k0, k1, k2, k3, k4, k5, k6, k7, k8, k9⟩ := hkx
        by_cases h1 : x.s < pg
        · have b0 : decide (x.s < pg) = true := decide_eq_true h1
          have b1 : decide (pg < x.e) = false := decide_eq_false fun h => hc ⟨h1, h⟩
          clear hx hN hgx hln hO HJ hc1 hbx HJ2 hc h1 q5
          go_upto_region 5 with fail
          generalize hwb : wr.alloc (.cells #[.int .i64 x.s, .int .i64 x.e, .int .i64 x.f, .int .i64 x.o, .bool x.sh, .int .i64 x.p, .int .i64 x.m, .int .i64 x.i, .int .i64 x.a, .bool x.wi] 50) = wb at *
          clear hwb
          go_wp2_with (at_builtin; refine wpList_epush wb rfl _ _ rfl w.heap.size _ O x (by rfl) HJ3.out.own wb.heap.size _ (by rfl) rfl (by omega) HJ3.out.grown.size ?_; intro g8 cap8 w8 hown8 hg8; have HJ8 := Lib.hid (MkOf.app HJ3.out hg8 hown8); clear hown8 hg8)
          go_roundw
          case rel => exact ⟨q + 1, by omega, by go_num, by rw [HNx.out]; exact HJ8⟩
          case measure => simp [intOf]; omega
        · have b0 : decide (x.s < pg) = false := decide_eq_false h1
          clear hx hN hgx hln hO HJ hc1 hbx HJ2 hc h1 q5
          go_upto_region 5 with fail
          generalize hwb : wr.alloc (.cells #[.int .i64 x.s, .int .i64 x.e, .int .i64 x.f, .int .i64 x.o, .bool x.sh, .int .i64 x.p, .int .i64 x.m, .int .i64 x.i, .int .i64 x.a, .bool x.wi] 50) = wb at *
          clear hwb
          go_wp2_with (at_builtin; refine wpList_epush wb rfl _ _ rfl w.heap.size _ O x (by rfl) HJ3.out.own wb.heap.size _ (by rfl) rfl (by omega) HJ3.out.grown.size ?_; intro g8 cap8 w8 hown8 hg8; have HJ8 := Lib.hid (MkOf.app HJ3.out hg8 hown8); clear hown8 hg8)
          go_roundw
          case rel => exact ⟨q + 1, by omega, by go_num, by rw [HNx.out]; exact HJ8⟩
          case measure => simp [intOf]; omega
    · obtain rfl : q = L.length := by omega
      rw [List.take_length] at HJ
      obtain ⟨va, vc, hvf⟩ := OwnOf.form HJ.out.own
      subst hvf
      go_wp2_with fail
      go_ret
      exact ⟨_, rfl, HJ.out.own, HJ.out.grown⟩
end Go.Proofs.YtefiiooibbkffaaGreat

namespace Go.Proofs.YtefiiooibbkffaaGreat
open Go.ChangeShapes Go.WideShapes Go.ChangeAt Go.RowKit Go.Deep Go.Sort
set_option linter.unusedVariables false

theorem eown_form {w : World} {base : Nat} {v : Value} {xs : List En} (h : EOwn w base v xs) : ∃ a c, v = .slice a xs.length c := OwnOf.form h
theorem eown_lower {w : World} {base base2 : Nat} {v : Value} {xs : List En} (h : EOwn w base v xs) (hb : base2 ≤ base) : EOwn w base2 v xs := OwnOf.lower h hb
theorem parts_three {w : World} {B c1 c2 c3 : Nat} {a1 a2 a3 : Option Addr} {P Q R : List En} (hn : w.heap[B]? = some (.cells #[.slice a1 P.length c1, .slice a2 Q.length c2, .slice a3 R.length c3] 47 (0, 0))) (hP : EC w (.slice a1 P.length c1) P) (hQ : EC w (.slice a2 Q.length c2) Q) (hR : EC w (.slice a3 R.length c3) R) :
    EParts w (.slice (some ⟨B, 0, none⟩) 3 3) [P, Q, R] := by
  refine ⟨B, rfl, fun i X hX => ?_⟩
  rw [cell_of_row _ _ _ _ _ _ hn]
  match i, hX with
  | 0, hX => cases hX; exact ⟨_, rfl, hP⟩
  | 1, hX => cases hX; exact ⟨_, rfl, hQ⟩
  | 2, hX => cases hX; exact ⟨_, rfl, hR⟩
  | i + 3, hX => cases hX
theorem parts_two {w : World} {B c1 c2 : Nat} {a1 a2 : Option Addr} {P Q : List En} (hn : w.heap[B]? = some (.cells #[.slice a1 P.length c1, .slice a2 Q.length c2] 47 (0, 0))) (hP : EC w (.slice a1 P.length c1) P) (hQ : EC w (.slice a2 Q.length c2) Q) :
    EParts w (.slice (some ⟨B, 0, none⟩) 2 2) [P, Q] := by
  refine ⟨B, rfl, fun i X hX => ?_⟩
  rw [cell_of_row _ _ _ _ _ _ hn]
  match i, hX with
  | 0, hX => cases hX; exact ⟨_, rfl, hP⟩
  | 1, hX => cases hX; exact ⟨_, rfl, hQ⟩
  | i + 2, hX => cases hX
/-- A block of entries, as a list. -/
theorem ec_one {w : World} {B : Nat} {x : En} (hn : w.heap[B]? = some (.cells #[.int .i64 x.s, .int .i64 x.e, .int .i64 x.f, .int .i64 x.o, .bool x.sh, .int .i64 x.p, .int .i64 x.m, .int .i64 x.i, .int .i64 x.a, .bool x.wi] 50 (0, 0))) : EC w (.slice (some ⟨B, 0, none⟩) 1 1) [x] := by
  refine ⟨.inl ⟨rfl, .inr ⟨B, 0, 1, rfl, (Array.getElem?_eq_some_iff.1 hn).1, fun j u hu => ?_⟩⟩, fun a l c e => by cases e; exact Nat.le_refl _⟩
  rw [Nat.zero_add, cell_of_row _ _ _ _ _ _ hn]
  simpa [enCells] using hu
theorem ec_two {w : World} {B : Nat} {x y : En} (hn : w.heap[B]? = some (.cells #[.int .i64 x.s, .int .i64 x.e, .int .i64 x.f, .int .i64 x.o, .bool x.sh, .int .i64 x.p, .int .i64 x.m, .int .i64 x.i, .int .i64 x.a, .bool x.wi, .int .i64 y.s, .int .i64 y.e, .int .i64 y.f, .int .i64 y.o, .bool y.sh, .int .i64 y.p, .int .i64 y.m, .int .i64 y.i, .int .i64 y.a, .bool y.wi] 50 (0, 0))) : EC w (.slice (some ⟨B, 0, none⟩) 2 2) [x, y] := by
  refine ⟨.inl ⟨rfl, .inr ⟨B, 0, 2, rfl, (Array.getElem?_eq_some_iff.1 hn).1, fun j u hu => ?_⟩⟩, fun a l c e => by cases e; exact Nat.le_refl _⟩
  rw [Nat.zero_add, cell_of_row _ _ _ _ _ _ hn]
  simpa [enCells] using hu
theorem ins_yes {L : List En} {x : En} (h1 : goodB x = true) (h2 : freeB L x = true) : insE L x = (putE L x, true) := by unfold insE; rw [h1, h2]; rfl
theorem ins_bad {L : List En} {x : En} (h1 : goodB x = false) : insE L x = (L, false) := by unfold insE; rw [h1]; rfl
theorem ins_no {L : List En} {x : En} (h2 : freeB L x = false) : insE L x = (L, false) := by unfold insE; rw [h2]; simp
end Go.Proofs.YtefiiooibbkffaaGreat

namespace Go.Proofs.YtefiiooibbkffaaGreat
open Go.ChangeShapes Go.WideShapes Go.ChangeAt Go.RowKit Go.Deep Go.Sort
set_option linter.unusedVariables false

theorem EnB.setE {w : World} {y : Nat} {x : En} (h : EnB w y x) (e : Int) : EnB (w.setCell ⟨y, 1, none⟩ (.int .i64 e)) y (longE x e) := heap_setCell_same w y 1 _ _ (.int .i64 e) h
theorem EnB.far {w : World} {y b o : Nat} {x : En} {u : Value} (h : EnB w y x) (hb : b ≠ y) : EnB (w.setCell ⟨b, o, none⟩ u) y x := (heap_setCell_other w ⟨b, o, none⟩ y u (by first | exact hb | exact hb.symm)).trans h
theorem four_at (w : World) (o0 o1 o2 o3 : Obj) : (((((w.alloc o0).alloc o1).alloc o2).alloc o3).drew).heap[w.heap.size]? = some o0 ∧ (((((w.alloc o0).alloc o1).alloc o2).alloc o3).drew).heap[w.heap.size + 1]? = some o1 ∧ (((((w.alloc o0).alloc o1).alloc o2).alloc o3).drew).heap[w.heap.size + 1 + 1]? = some o2 ∧ (((((w.alloc o0).alloc o1).alloc o2).alloc o3).drew).heap[w.heap.size + 1 + 1 + 1]? = some o3 := by
  have h0 := heap_alloc_new w o0
  have h1 := heap_alloc_new (w.alloc o0) o1
  have h2 := heap_alloc_new ((w.alloc o0).alloc o1) o2
  have h3 := heap_alloc_new (((w.alloc o0).alloc o1).alloc o2) o3
  simp only [World.size_alloc] at h1 h2 h3
  have g : ∀ (w : World) (o : Obj) (k : Nat), k < w.heap.size → (w.alloc o).heap[k]? = w.heap[k]? := fun w o k hk => (World.grownBy_alloc w o none).block k hk (by simp)
  refine ⟨?_, ?_, ?_, h3⟩
  · exact (g _ o3 _ (by simp; omega)).trans ((g _ o2 _ (by simp; omega)).trans ((g _ o1 _ (by simp)).trans h0))
  · exact (g _ o3 _ (by simp)).trans ((g _ o2 _ (by simp)).trans h1)
  · exact (g _ o3 _ (by simp)).trans h2
theorem four_grown (w : World) (o0 o1 o2 o3 : Obj) : w.grownBy ((((w.alloc o0).alloc o1).alloc o2).alloc o3).drew none :=
  grown_trans (grown_trans (grown_trans (grown_trans (World.grownBy_alloc _ _ _) (World.grownBy_alloc _ _ _)) (World.grownBy_alloc _ _ _)) (World.grownBy_alloc _ _ _)) (grown_drew1 _)
set_option maxRecDepth 100000 in
set_option maxHeartbeats 4000000 in
theorem clip_ok {w : World} {s : Option Addr} {c : Nat} {L : List En} (h : EC w (.slice s L.length c) L) (hr : RF 0 L) (hl : L.length ≤ 100000) (pg : Int) :
    Calls Tryz.prog 191 #[.slice s L.length c, .int .i64 pg] w fun e w' => ∃ u, e = .returned u ∧ EOwn w' w.heap.size u (clipE L pg) ∧ w.grownBy w' none := by
  obtain ⟨k, hk⟩ : ∃ k, findK L pg = k := ⟨_, rfl⟩
  have hkl : k ≤ L.length := by rw [← hk]; exact findK_le L pg
  have HCl := Lib.hid (fun W (g : w.grownBy W none) => clone_ok (h.grow g) (show L.length ≤ 1000000 by omega))
  cases hh : hasB L pg with
  | false =>
    have HF := Lib.hid (find_ok c h.1 hr (by omega) pg k hk false hh)
    have e : clipE L pg = L := clip_no hr fun x hx => by
      rw [hasB_at hx] at hh
      have := of_decide_eq_false hh
      omega
    rw [e]
    clear h hr hk hkl hh e
    go_enter Tryz.func191, Tryz.ntmps191
    go_wp2_with fail
    refine HF.out.mono ?_
    rintro e w2 ⟨rfl, g2⟩
    have HG2 := Lib.hid g2
    have HC := Lib.hid (HCl.out w2 g2)
    clear g2
    go_wp2_with fail
    refine HC.out.mono ?_
    rintro e w4 ⟨u, rfl, hown, g4⟩
    obtain ⟨va, vc, hvf⟩ := OwnOf.form hown
    subst hvf
    have HO := Lib.hid hown
    have HG4 := Lib.hid (grown_trans HG2.out g4)
    clear hown g4
    go_wp2_with fail
    go_ret
    exact ⟨_, rfl, OwnOf.lower HO.out HG2.out.size, HG4.out⟩
  | true =>
    have HF := Lib.hid (find_ok c h.1 hr (by omega) pg k hk true hh)
    obtain ⟨x, hm, hx, hs1, hs2⟩ := hasB_mem hh
    have HX := Lib.hid h
    by_cases hpe : x.s = pg
    · have e : clipE L pg = L := clip_no hr fun y hy => by rw [hx] at hy; cases hy; omega
      rw [e]
      have hb1 : (x.s == pg) = true := by simp [hpe]
      rw [hk] at hx
      have hk1 := (List.getElem?_eq_some_iff.1 hx).1
      have h0 : (0 : Int) ≤ (k : Int) := by omega
      have h1 : (k : Int) < (L.length : Int) := by omega
      have HXk := Lib.hid hx
      clear h hr hk hkl hh e hx hm hs1 hs2 hpe
      go_enter Tryz.func191, Tryz.ntmps191
      go_wp2_with fail
      refine HF.out.mono ?_
      rintro e w2 ⟨rfl, g2⟩
      have HG2 := Lib.hid g2
      have HC := Lib.hid (HCl.out w2 g2)
      obtain ⟨g, o, c3, hv, hat⟩ := en_cells (erow_grow HX.out.1 g2) HXk.out
      injection hv with e1 e2 e3
      subst e1 e3
      have k0 := hat.c0
      clear g2 hat
      go_wp2_with fail
      refine HC.out.mono ?_
      rintro e w4 ⟨u, rfl, hown, g4⟩
      obtain ⟨va, vc, hvf⟩ := OwnOf.form hown
      subst hvf
      have HO := Lib.hid hown
      have HG4 := Lib.hid (grown_trans HG2.out g4)
      clear hown g4
      go_wp2_with fail
      go_ret
      exact ⟨_, rfl, OwnOf.lower HO.out HG2.out.size, HG4.out⟩
    · have hlt : x.s < pg := by omega
      have hb1 : (x.s == pg) = false := by simp [hpe]
      have hcl := clip_at hr hx hlt
      rw [hk] at hx hcl
      have hgx := rf_at hr hx
      have hk1 := (List.getElem?_eq_some_iff.1 hx).1
      have h0 : (0 : Int) ≤ (k : Int) := by omega
      have h1 : (k : Int) < (L.length : Int) := by omega
      obtain ⟨a1, cc1, hq1, he1⟩ := ec_to h hkl
      obtain ⟨a2, cc2, hq2, he2⟩ := ec_from h (show k + 1 ≤ L.length by omega)
      have e9 : ((k + 1 : Nat) : Int) = (k : Int) + 1 := by omega
      simp only [e9] at hq2
      have hwr : IntKind.i64.wrap ((k : Int) + 1) = (k : Int) + 1 := by rw [IntKind.wrap_i64]; omega
      have h2 : (k : Int) + 1 ≤ (L.length : Int) := by omega
      obtain ⟨z, hz⟩ : ∃ z, fromE x pg = z := ⟨_, rfl⟩
      have hfr := fun W => from_w x hgx pg (by omega) (by omega) W
      rw [hz] at hcl hfr
      have hcl2 : clipE L pg = [L.take k, [lowE x pg, z], L.drop (k + 1)].flatten := by rw [hcl]; simp
      have hlen : lenAll [L.take k, [lowE x pg, z], L.drop (k + 1)] ≤ 1000000 := by
        unfold lenAll
        simp
        omega
      rw [hcl2]
      generalize L.take k = T at *
      generalize L.drop (k + 1) = D at *
      have HE1 := Lib.hid he1
      have HE2 := Lib.hid he2
      have HLn := Lib.hid hlen
      have HFr := Lib.hid hfr
      have HXk := Lib.hid hx
      clear h hr hk hkl hh hx hm hs1 hs2 hpe hcl hcl2 hlen he1 he2 hgx hlt e9 hz hfr HCl
      go_enter Tryz.func191, Tryz.ntmps191
      go_wp2_with fail
      refine HF.out.mono ?_
      rintro e w2 ⟨rfl, g2⟩
      have HG2 := Lib.hid g2
      obtain ⟨g, o, c3, hv, hat⟩ := en_cells (erow_grow HX.out.1 g2) HXk.out
      injection hv with e1 e2 e3
      subst e1 e3
      have HAt := Lib.hid hat
      have k0 := hat.c0
      clear g2 hat
      go_upto_region 4 with fail
      go_cut [7, 8] (fun b7 b8 wx => ∃ B C : Nat, b7 = .pointer (some ⟨B, 0, none⟩) ∧ b8 = .pointer (some ⟨C, 0, none⟩) ∧ Hid (B ≠ C) ∧ Hid (EnB wx B x) ∧ Hid (EnB wx C z) ∧ Hid (w2.grownBy wx none) ∧ Hid (w2.heap.size ≤ B))
      case first =>
        have hkeep : ∀ W, w2.grownBy W none → W.cell? ⟨g, o + k * 10, none⟩ = some (.int .i64 x.s) ∧ W.cell? ⟨g, o + k * 10 + 1, none⟩ = some (.int .i64 x.e) ∧ W.cell? ⟨g, o + k * 10 + 2, none⟩ = some (.int .i64 x.f) ∧ W.cell? ⟨g, o + k * 10 + 3, none⟩ = some (.int .i64 x.o) ∧ W.cell? ⟨g, o + k * 10 + 4, none⟩ = some (.bool x.sh) ∧ W.cell? ⟨g, o + k * 10 + 5, none⟩ = some (.int .i64 x.p) ∧ W.cell? ⟨g, o + k * 10 + 6, none⟩ = some (.int .i64 x.m) ∧ W.cell? ⟨g, o + k * 10 + 7, none⟩ = some (.int .i64 x.i) ∧ W.cell? ⟨g, o + k * 10 + 8, none⟩ = some (.int .i64 x.a) ∧ W.cell? ⟨g, o + k * 10 + 9, none⟩ = some (.bool x.wi) := fun W gW => by
          have := HAt.out.grow gW
          exact ⟨this.c0, this.c1, this.c2, this.c3, this.c4, this.c5, this.c6, this.c7, this.c8, this.c9⟩
        have hk0 := hkeep _ (grown_drew1 w2)
        clear k0
        go_region_held3 (fun w7 => w7.cell? ⟨g, o + k * 10, none⟩ = some (.int .i64 x.s) ∧ w7.cell? ⟨g, o + k * 10 + 1, none⟩ = some (.int .i64 x.e) ∧ w7.cell? ⟨g, o + k * 10 + 2, none⟩ = some (.int .i64 x.f) ∧ w7.cell? ⟨g, o + k * 10 + 3, none⟩ = some (.int .i64 x.o) ∧ w7.cell? ⟨g, o + k * 10 + 4, none⟩ = some (.bool x.sh) ∧ w7.cell? ⟨g, o + k * 10 + 5, none⟩ = some (.int .i64 x.p) ∧ w7.cell? ⟨g, o + k * 10 + 6, none⟩ = some (.int .i64 x.m) ∧ w7.cell? ⟨g, o + k * 10 + 7, none⟩ = some (.int .i64 x.i) ∧ w7.cell? ⟨g, o + k * 10 + 8, none⟩ = some (.int .i64 x.a) ∧ w7.cell? ⟨g, o + k * 10 + 9, none⟩ = some (.bool x.wi)) (first | exact hk0 | (refine hkeep _ ?_; repeat (first | exact grown_refl _ _ | exact grown_drew1 _ | refine grown_trans ?_ (grown_drew1 _) | refine grown_trans ?_ (World.grownBy_alloc _ _ _))) | fail)
          (first
            | (go_at_call 206; with_reducible refine ((HFr.out _).mono ?_); rintro e w5 ⟨rfl, rfl⟩)
            | fail)
        all_goals
          go_wp2_with fail
          go_meet
          case rel =>
            refine ⟨_, _, rfl, rfl, Lib.hid (by omega), Lib.hid ?_, Lib.hid ?_, Lib.hid (four_grown _ _ _ _ _), Lib.hid (by omega)⟩
            · first | exact (four_at _ _ _ _ _).1 | exact (four_at _ _ _ _ _).2.1 | exact (four_at _ _ _ _ _).2.2.1 | exact (four_at _ _ _ _ _).2.2.2
            · first | exact (four_at _ _ _ _ _).1 | exact (four_at _ _ _ _ _).2.1 | exact (four_at _ _ _ _ _).2.2.1 | exact (four_at _ _ _ _ _).2.2.2
      case rest =>
        obtain ⟨B, C, rfl, rfl, HBC, HEB, HEC, HGc, HBs⟩ := hcut
        have hcb := HEB.out.at
        have c1 := hcb.c1
        have fz := HEB.out.frozen 1
        have hEB := EnB.setE HEB.out pg
        have hEC := EnB.far (b := B) (o := 1) (u := .int .i64 pg) HEC.out HBC.out
        have HEB5 := Lib.hid hEB
        have HEC5 := Lib.hid hEC
        have HG5 := Lib.hid (show w.grownBy (wc.setCell ⟨B, 1, none⟩ (.int .i64 pg)) none from grown_at (grown_trans HG2.out HGc.out) (grown_set _ _ _ _) (Nat.le_trans HG2.out.size HBs.out))
        clear hEB hEC hcb k0
        go_upto_region 6 with fail
        generalize wc.setCell ⟨B, 1, none⟩ (.int .i64 pg) = wd at *
        clear c1 fz HEB HEC HGc HBs
        have HE3 := Lib.hid (HE1.out.grow HG5.out)
        have HE4 := Lib.hid (HE2.out.grow HG5.out)
        have gW : wd.grownBy (((wd.alloc (.cells #[.int .i64 x.s, .int .i64 pg, .int .i64 x.f, .int .i64 x.o, .bool x.sh, .int .i64 x.p, .int .i64 x.m, .int .i64 x.i, .int .i64 x.a, .bool x.wi, .int .i64 z.s, .int .i64 z.e, .int .i64 z.f, .int .i64 z.o, .bool z.sh, .int .i64 z.p, .int .i64 z.m, .int .i64 z.i, .int .i64 z.a, .bool z.wi] 50)).alloc (.cells #[.slice a1 T.length cc1, .slice (some ⟨wd.heap.size, 0, none⟩) 2 2, .slice a2 D.length cc2] 47)).drew) none := grown_trans (grown_trans (World.grownBy_alloc _ _ none) (World.grownBy_alloc _ _ none)) (grown_drew1 _)
        have hPT : EParts (((wd.alloc (.cells #[.int .i64 x.s, .int .i64 pg, .int .i64 x.f, .int .i64 x.o, .bool x.sh, .int .i64 x.p, .int .i64 x.m, .int .i64 x.i, .int .i64 x.a, .bool x.wi, .int .i64 z.s, .int .i64 z.e, .int .i64 z.f, .int .i64 z.o, .bool z.sh, .int .i64 z.p, .int .i64 z.m, .int .i64 z.i, .int .i64 z.a, .bool z.wi] 50)).alloc (.cells #[.slice a1 T.length cc1, .slice (some ⟨wd.heap.size, 0, none⟩) 2 2, .slice a2 D.length cc2] 47)).drew) (.slice (some ⟨wd.heap.size + 1, 0, none⟩) 3 3) [T, [longE x pg, z], D] :=
          parts_three (Q := [longE x pg, z]) (by have := heap_alloc_new (wd.alloc (.cells #[.int .i64 x.s, .int .i64 pg, .int .i64 x.f, .int .i64 x.o, .bool x.sh, .int .i64 x.p, .int .i64 x.m, .int .i64 x.i, .int .i64 x.a, .bool x.wi, .int .i64 z.s, .int .i64 z.e, .int .i64 z.f, .int .i64 z.o, .bool z.sh, .int .i64 z.p, .int .i64 z.m, .int .i64 z.i, .int .i64 z.a, .bool z.wi] 50)) (.cells #[.slice a1 T.length cc1, .slice (some ⟨wd.heap.size, 0, none⟩) 2 2, .slice a2 D.length cc2] 47); rw [World.size_alloc] at this; exact this)
            (HE3.out.grow gW) ((ec_two (x := longE x pg) (y := z) (heap_alloc_new wd _)).grow (grown_trans (World.grownBy_alloc _ _ none) (grown_drew1 _))) (HE4.out.grow gW)
        obtain ⟨nn, hnn⟩ : ∃ nn, [T, [longE x pg, z], D].flatten.length = nn := ⟨_, rfl⟩
        have HNN := Lib.hid hnn
        have HCC := Lib.hid (concat_ok hPT (by simp) HLn.out)
        have HW := Lib.hid (grown_trans HG5.out gW)
        have hkeep : ∀ W, wd.grownBy W none → (W.cell? ⟨B, 0, none⟩ = some (.int .i64 (longE x pg).s) ∧ W.cell? ⟨B, 1, none⟩ = some (.int .i64 (longE x pg).e) ∧ W.cell? ⟨B, 2, none⟩ = some (.int .i64 (longE x pg).f) ∧ W.cell? ⟨B, 3, none⟩ = some (.int .i64 (longE x pg).o) ∧ W.cell? ⟨B, 4, none⟩ = some (.bool (longE x pg).sh) ∧ W.cell? ⟨B, 5, none⟩ = some (.int .i64 (longE x pg).p) ∧ W.cell? ⟨B, 6, none⟩ = some (.int .i64 (longE x pg).m) ∧ W.cell? ⟨B, 7, none⟩ = some (.int .i64 (longE x pg).i) ∧ W.cell? ⟨B, 8, none⟩ = some (.int .i64 (longE x pg).a) ∧ W.cell? ⟨B, 9, none⟩ = some (.bool (longE x pg).wi)) ∧ (W.cell? ⟨C, 0, none⟩ = some (.int .i64 z.s) ∧ W.cell? ⟨C, 1, none⟩ = some (.int .i64 z.e) ∧ W.cell? ⟨C, 2, none⟩ = some (.int .i64 z.f) ∧ W.cell? ⟨C, 3, none⟩ = some (.int .i64 z.o) ∧ W.cell? ⟨C, 4, none⟩ = some (.bool z.sh) ∧ W.cell? ⟨C, 5, none⟩ = some (.int .i64 z.p) ∧ W.cell? ⟨C, 6, none⟩ = some (.int .i64 z.m) ∧ W.cell? ⟨C, 7, none⟩ = some (.int .i64 z.i) ∧ W.cell? ⟨C, 8, none⟩ = some (.int .i64 z.a) ∧ W.cell? ⟨C, 9, none⟩ = some (.bool z.wi)) := fun W gW => ⟨(HEB5.out.grow gW).all, (HEC5.out.grow gW).all⟩
        have hk0 := hkeep _ (grown_drew1 wd)
        have HKp := Lib.hid hkeep
        have HgW := Lib.hid gW
        clear hPT gW hnn
        unfold longE at hk0 hkeep
        simp only at hk0 hkeep
        go_region_held3 (fun w7 => (w7.cell? ⟨B, 0, none⟩ = some (.int .i64 x.s) ∧ w7.cell? ⟨B, 1, none⟩ = some (.int .i64 pg) ∧ w7.cell? ⟨B, 2, none⟩ = some (.int .i64 x.f) ∧ w7.cell? ⟨B, 3, none⟩ = some (.int .i64 x.o) ∧ w7.cell? ⟨B, 4, none⟩ = some (.bool x.sh) ∧ w7.cell? ⟨B, 5, none⟩ = some (.int .i64 x.p) ∧ w7.cell? ⟨B, 6, none⟩ = some (.int .i64 x.m) ∧ w7.cell? ⟨B, 7, none⟩ = some (.int .i64 x.i) ∧ w7.cell? ⟨B, 8, none⟩ = some (.int .i64 x.a) ∧ w7.cell? ⟨B, 9, none⟩ = some (.bool x.wi)) ∧ (w7.cell? ⟨C, 0, none⟩ = some (.int .i64 z.s) ∧ w7.cell? ⟨C, 1, none⟩ = some (.int .i64 z.e) ∧ w7.cell? ⟨C, 2, none⟩ = some (.int .i64 z.f) ∧ w7.cell? ⟨C, 3, none⟩ = some (.int .i64 z.o) ∧ w7.cell? ⟨C, 4, none⟩ = some (.bool z.sh) ∧ w7.cell? ⟨C, 5, none⟩ = some (.int .i64 z.p) ∧ w7.cell? ⟨C, 6, none⟩ = some (.int .i64 z.m) ∧ w7.cell? ⟨C, 7, none⟩ = some (.int .i64 z.i) ∧ w7.cell? ⟨C, 8, none⟩ = some (.int .i64 z.a) ∧ w7.cell? ⟨C, 9, none⟩ = some (.bool z.wi))) (first | exact hk0 | exact hk5 | (refine hkeep _ ?_; repeat (first | exact grown_refl _ _ | exact grown_drew1 _ | refine grown_trans ?_ (grown_drew1 _) | refine grown_trans ?_ (World.grownBy_alloc _ _ _))) | fail)
          (first
            | (go_at_call 185; with_reducible refine HCC.out.mono ?_; rintro e w5 ⟨u5, rfl, hown5, g5⟩; obtain ⟨va, vc, hvf⟩ := eown_form hown5; rw [HNN.out] at hvf; subst hvf; have HO5 := Lib.hid (eown_lower hown5 HW.out.size); have HG6 := Lib.hid (grown_trans HW.out g5); have hk5 := hkeep _ (grown_trans HgW.out g5); clear hown5 g5)
            | fail)
        go_wp2_with fail
        go_ret
        exact ⟨_, rfl, HO5.out, HG6.out⟩
end Go.Proofs.YtefiiooibbkffaaGreat

namespace Go.Proofs.YtefiiooibbkffaaGreat
open Go.ChangeShapes Go.WideShapes Go.ChangeAt Go.RowKit Go.Deep Go.Sort
set_option linter.unusedVariables false

/-- What is made later shares no block with what was made before. -/
theorem eown_apart {w6 w7 : World} {base b7 : Nat} {u v : Value} {L M : List En} (h7 : EOwn w7 b7 v L) (h6 : EOwn w6 base u M) (hs : w6.heap.size ≤ b7) : ∀ b, v.ownBlock = some b → u.ownBlock ≠ some b := fun b h1 h2 => by have := (OwnOf.lt h7 h1).1; have := (OwnOf.lt h6 h2).2; omega
theorem eown_grow {w w' : World} {base : Nat} {v : Value} {xs : List En} (h : EOwn w base v xs) (g : w.grownBy w' none) : EOwn w' base v xs := OwnOf.grow h g
set_option maxRecDepth 100000 in
set_option maxHeartbeats 4000000 in
theorem cut_ok {w : World} {s : Option Addr} {c : Nat} {L : List En} (h : EC w (.slice s L.length c) L) (hr : RF 0 L) (hl : L.length ≤ 1000) (lo hi : Int) :
    Calls Tryz.prog 162 #[.slice s L.length c, .int .i64 lo, .int .i64 hi] w fun e w' => ∃ u v, e = .returned (.tuple #[u, v]) ∧ EOwn w' w.heap.size u (leftE L lo hi) ∧ EOwn w' w.heap.size v (goneE L lo hi) ∧ (∀ b, v.ownBlock = some b → u.ownBlock ≠ some b) ∧ w.grownBy w' none := by
  have HC1 := Lib.hid (clip_ok h hr (by omega) lo)
  have hr1 := rf_clip lo hr
  have hl1 := (clip_len_le lo hr).2
  have hr2 := rf_both lo hi hr
  have hl2 := (clip_len_le hi hr1).2
  have hbn := both_none (l := L) (lo := lo) (hi := hi)
  obtain ⟨M, hM⟩ : ∃ M, bothE L lo hi = M := ⟨_, rfl⟩
  have hML : M.length ≤ 2000 := by rw [← hM]; unfold bothE; omega
  rw [hM] at hr2 hbn
  obtain ⟨k1, hk1⟩ : ∃ k1, findK M lo = k1 := ⟨_, rfl⟩
  obtain ⟨k2, hk2⟩ : ∃ k2, findK M hi = k2 := ⟨_, rfl⟩
  obtain ⟨k3, hk3⟩ : ∃ k3, max k1 k2 = k3 := ⟨_, rfl⟩
  have hkl1 : k1 ≤ M.length := by rw [← hk1]; exact findK_le _ _
  have hkl2 : k2 ≤ M.length := by rw [← hk2]; exact findK_le _ _
  have hkl3 : k3 ≤ M.length := by omega
  have hk13 : k1 ≤ k3 := by omega
  have hmx : (if k1 < k2 then (k2 : Int) else (k1 : Int)) = (k3 : Int) := by split <;> omega
  obtain ⟨q1, q2, -⟩ := cut_at hr2 hbn k1 k3 hk1 (by rw [hk2]; exact hk3)
  have eL : leftE L lo hi = M.take k1 ++ M.drop k3 := by unfold leftE; rw [hM]; exact q1
  have eG : goneE L lo hi = (M.drop k1).take (k3 - k1) := by unfold goneE; rw [hM]; exact q2
  have hM2 : clipE (clipE L lo) hi = M := hM
  have HC2 := Lib.hid (fun (W : World) (a : Option Addr) (c' : Nat) (hh : EC W (.slice a (clipE L lo).length c') (clipE L lo)) => clip_ok hh hr1 (by omega) hi)
  rw [hM2] at HC2
  have HF1 := Lib.hid (fun (W : World) (a : Option Addr) (c' : Nat) (hh : EC W (.slice a M.length c') M) => find_ok c' hh.1 hr2 (by omega) lo k1 hk1 (hasB M lo) rfl)
  have HF2 := Lib.hid (fun (W : World) (a : Option Addr) (c' : Nat) (hh : EC W (.slice a M.length c') M) => find_ok c' hh.1 hr2 (by omega) hi k2 hk2 (hasB M hi) rfl)
  obtain ⟨d1, hd1⟩ : ∃ d1, hasB M lo = d1 := ⟨_, rfl⟩
  obtain ⟨d2, hd2⟩ : ∃ d2, hasB M hi = d2 := ⟨_, rfl⟩
  rw [hd1] at HF1
  rw [hd2] at HF2
  rw [eL, eG]
  obtain ⟨L1, hL1⟩ : ∃ L1, clipE L lo = L1 := ⟨_, rfl⟩
  rw [hL1] at HC1 HC2 hl1
  have HLn := Lib.hid (show lenAll [M.take k1, M.drop k3] ≤ 1000000 by unfold lenAll; simp; omega)
  have HGl := Lib.hid (show ((M.drop k1).take (k3 - k1)).length ≤ 1000000 by simp; omega)
  obtain ⟨T, hT⟩ : ∃ T, M.take k1 = T := ⟨_, rfl⟩
  obtain ⟨D, hD⟩ : ∃ D, M.drop k3 = D := ⟨_, rfl⟩
  obtain ⟨G, hG⟩ : ∃ G, (M.drop k1).take (k3 - k1) = G := ⟨_, rfl⟩
  rw [hT, hD] at HLn
  rw [hG] at HGl
  rw [hT, hD, hG]
  have HTe := Lib.hid hT
  have HDe := Lib.hid hD
  have HGe := Lib.hid hG
  clear hT hD hG
  clear h hr hr1 hr2 hbn hk1 hk2 hd1 hd2 hL1 eL eG q1 q2 hM hM2 hl2 hl1
  go_enter Tryz.func162, Tryz.ntmps162
  go_wp2_with fail
  refine HC1.out.mono ?_
  rintro e w2 ⟨u, rfl, hown, g2⟩
  obtain ⟨a1, c1, hvf⟩ := eown_form hown
  subst hvf
  have HG2 := Lib.hid g2
  have HCc := Lib.hid (HC2.out w2 a1 c1 (EOwn.ec hown))
  clear hown g2
  go_wp2_with fail
  refine HCc.out.mono ?_
  rintro e w3 ⟨u, rfl, hown, g3⟩
  obtain ⟨a2, c2, hvf⟩ := eown_form hown
  subst hvf
  have hec := EOwn.ec hown
  have HE3 := Lib.hid hec
  have HG3 := Lib.hid (grown_trans HG2.out g3)
  have HFa := Lib.hid (HF1.out w3 a2 c2 hec)
  clear hown g3 hec
  go_wp2_with fail
  refine HFa.out.mono ?_
  rintro e w4 ⟨rfl, g4⟩
  have HE4 := Lib.hid (HE3.out.grow g4)
  have HG4 := Lib.hid (grown_trans HG3.out g4)
  have HFb := Lib.hid (HF2.out w4 a2 c2 (HE3.out.grow g4))
  clear g4
  go_wp2_with fail
  refine HFb.out.mono ?_
  rintro e w5 ⟨rfl, g5⟩
  have hec := HE4.out.grow g5
  have HG5 := Lib.hid (grown_trans HG4.out g5)
  obtain ⟨b1, e1, hq1, he1⟩ := ec_to hec hkl1
  obtain ⟨b2, e2, hq2, he2⟩ := ec_from hec hkl3
  obtain ⟨b3, e3, hq3, he3⟩ := ec_mid hec hk13 hkl3
  clear g5 hec
  simp only [HTe.out] at hq1 he1
  simp only [HDe.out] at hq2 he2
  simp only [HGe.out] at hq3 he3
  have HE1 := Lib.hid he1
  have HE2 := Lib.hid he2
  have HEg := Lib.hid he3
  clear he1 he2 he3
  have h01 : (0 : Int) ≤ (k1 : Int) := by omega
  have h02 : (k1 : Int) ≤ (k3 : Int) := by omega
  have h03 : (k3 : Int) ≤ (M.length : Int) := by omega
  have gW : w5.grownBy ((w5.alloc (.cells #[.slice b1 T.length e1, .slice b2 D.length e2] 47)).drew) none := grown_trans (World.grownBy_alloc _ _ none) (grown_drew1 _)
  have hPT : EParts ((w5.alloc (.cells #[.slice b1 T.length e1, .slice b2 D.length e2] 47)).drew) (.slice (some ⟨w5.heap.size, 0, none⟩) 2 2) [T, D] := parts_two (heap_alloc_new w5 _) (HE1.out.grow gW) (HE2.out.grow gW)
  obtain ⟨nn, hnn⟩ : ∃ nn, [T, D].flatten.length = nn := ⟨_, rfl⟩
  have HNN := Lib.hid hnn
  have HCC := Lib.hid (concat_ok hPT (by simp) HLn.out)
  have HW := Lib.hid (grown_trans HG5.out gW)
  have HgW := Lib.hid gW
  have HCl := Lib.hid (fun (W6 : World) (g : w5.grownBy W6 none) => clone_ok (HEg.out.grow g) HGl.out)
  have HT2 := Lib.hid (show [T, D].flatten = T ++ D by simp)
  clear hPT gW hnn
  go_upto_region 5 with fail
  go_region_held3 (fun _ => True) (trivial)
    (first
      | (go_at_call 185; with_reducible refine HCC.out.mono ?_; rintro e w6 ⟨u6, rfl, hown6, g6⟩; obtain ⟨va, vc, hvf⟩ := eown_form hown6; rw [HNN.out] at hvf; subst hvf; have HO6 := Lib.hid (eown_lower hown6 HW.out.size); have HG6 := Lib.hid (grown_trans HW.out g6); have HCd := Lib.hid (HCl.out _ (grown_trans HgW.out g6)); clear hown6 g6)
      | (go_at_call 112; with_reducible refine HCd.out.mono ?_; rintro e w7 ⟨u7, rfl, hown7, g7⟩; obtain ⟨vb, vd, hvf⟩ := eown_form hown7; subst hvf; have HO7 := Lib.hid (eown_lower hown7 HG6.out.size); have HNe := Lib.hid (eown_apart hown7 HO6.out (Nat.le_refl _)); have HO8 := Lib.hid (eown_grow HO6.out g7); have HG7 := Lib.hid (grown_trans HG6.out g7); clear hown7 g7)
      | fail)
  go_wp2_with fail
  go_ret2
  exact ⟨_, _, rfl, by rw [HT2.out] at HO8; exact HO8.out, HO7.out, HNe.out, HG7.out⟩
end Go.Proofs.YtefiiooibbkffaaGreat
