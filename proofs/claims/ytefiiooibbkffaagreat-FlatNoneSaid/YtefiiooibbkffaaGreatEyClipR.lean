/- Layer 15: Clip, the document's. -/
import Derived.Test.YtefiiooibbkffaaGreatEyMerge
namespace Go.Proofs.YtefiiooibbkffaaGreat
open Go.ChangeShapes Go.WideShapes Go.ChangeAt Go.RowKit Go.Deep Go.Sort
set_option linter.unusedVariables false

theorem clip_take {L : List En} {q : Nat} {x : En} (pg : Int) (hx : L[q]? = some x) : clipE (L.take (q + 1)) pg = clipE (L.take q) pg ++ clip1 pg x := by
  rw [takel_at hx]; unfold clipE; rw [List.flatMap_append]; simp
theorem clip_len2 (l : List En) (pg : Int) : (clipE l pg).length ≤ 2 * l.length := by
  induction l with
  | nil => simp [clipE]
  | cons x r ih =>
    rw [clip_cons, List.length_append, List.length_cons]
    have : (clip1 pg x).length ≤ 2 := by unfold clip1; split <;> simp
    omega
/-- 'append(l, x, y)', behind the block in which both are laid. -/
theorem wpList_epush2 {ops : Array Oper} {rest : List Oper} {o : Oper} {a : Act} {Q : Exit → Act → World → Prop} (w : World) (hgd : o.guard = none) (s x : Operand)
    (ho : o.op = .call { callee := .builtin .append, args := #[s, x], argTypes := #[47, 47] }) (base : Nat) (v : Value) (xs : List En) (y z : En) (hs : a.eval s = v) (h : EOwn w base v xs) (H c : Nat)
    (hx : a.eval x = .slice (some ⟨H, 0, none⟩) 2 c) (hH : w.heap.size = H) (hl : xs.length ≤ 1000000) (hbase : base ≤ H)
    (hK : ∀ g cap w', EOwn w' base (.slice (some ⟨g, 0, none⟩) (xs.length + 2) cap) (xs ++ [y, z]) → (w.alloc (.cells #[.int .i64 y.s, .int .i64 y.e, .int .i64 y.f, .int .i64 y.o, .bool y.sh, .int .i64 y.p, .int .i64 y.m, .int .i64 y.i, .int .i64 y.a, .bool y.wi, .int .i64 z.s, .int .i64 z.e, .int .i64 z.f, .int .i64 z.o, .bool z.sh, .int .i64 z.p, .int .i64 z.m, .int .i64 z.i, .int .i64 z.a, .bool z.wi] 50)).grownBy w' v.ownBlock → wpList Tryz.prog ops Q rest (a.put o.dst (.slice (some ⟨g, 0, none⟩) (xs.length + 2) cap)) w') :
    wpList Tryz.prog ops Q (o :: rest) a (w.alloc (.cells #[.int .i64 y.s, .int .i64 y.e, .int .i64 y.f, .int .i64 y.o, .bool y.sh, .int .i64 y.p, .int .i64 y.m, .int .i64 y.i, .int .i64 y.a, .bool y.wi, .int .i64 z.s, .int .i64 z.e, .int .i64 z.f, .int .i64 z.o, .bool z.sh, .int .i64 z.p, .int .i64 z.m, .int .i64 z.i, .int .i64 z.a, .bool z.wi] 50)) := by
  obtain ⟨i0, hi, hz0, hz1, hz2⟩ := info_parts info_en
  subst hH
  refine wpList_append_lies _ hgd s x 47 ho base 50 i0 (.agg #[.int .i64 0, .int .i64 0, .int .i64 0, .int .i64 0, .bool false, .int .i64 0, .int .i64 0, .int .i64 0, .int .i64 0, .bool false]) 10 80 Tryz.underlying47 hi hz0 hz1 hz2 rfl (by decide) v xs.length (xs.flatMap enCells) hs (World.ownsRow.alloc h _) ⟨w.heap.size, 0, none⟩ 2 c ([y, z].flatMap enCells) hx rfl ?_ (en_ones [y, z]) (by omega) (by unfold maxLen; omega) (by omega) (by simp; omega) (w.heap.size + 1) (by simp) ?_
  · exact World.news_of_block (heap_alloc_new w _)
  · intro g cap w' hown hgrow hat hlt
    refine hK g cap w' ?_ hgrow
    unfold EOwn OwnOf
    simp only [List.length_append, List.length_cons, List.length_nil, List.flatMap_append]
    exact hown
theorem MkOf.turn {α : Type} {cells : α → List Value} {size : Nat} {t : TypeId} {w wr w2 : World} {v : Value} {xs : List α} {P : List Nat} (h : MkOf cells size t w wr v xs) (ht : Turn P wr w2) (hP : ∀ b, b ∈ P → w.heap.size ≤ b) (hv : ∀ b, v.ownBlock = some b → b ∉ P) : MkOf cells size t w w2 v xs :=
  ⟨((Turn.grown (O := P) h.grown).trans' ht).noGrown hP, h.own.kept fun b hb => ht.block b (h.own.lt hb).2 (hv b hb)⟩
set_option maxRecDepth 100000 in
set_option maxHeartbeats 4000000 in
theorem refClip_ok {w : World} {s : Option Addr} {L : List En} (c : Nat) (h : ERow w (.slice s L.length c) L) (hr : RF 0 L) (hl : L.length ≤ 100000) (pg : Int) :
    Calls Tryz.prog 165 #[.slice s L.length c, .int .i64 pg] w fun e w' => ∃ u, e = .returned u ∧ EOwn w' w.heap.size u (clipE L pg) ∧ w.grownBy w' none := by
  have HX := Lib.hid h
  have HR := Lib.hid hr
  have HI := Lib.hid (show EMk w w (.slice none 0 0) (clipE (L.take 0) pg) from MkOf.nil w)
  clear h hr
  go_enter Tryz.func165, Tryz.ntmps165
  go_wp2_with fail
  go_loopw [5, 12] (fun vv iv wr => ∃ q : Nat, q ≤ L.length ∧ iv = .int .i64 q ∧ Hid (EMk w wr vv (clipE (L.take q) pg))) (fun _ iv _ => L.length - (intOf iv).toNat)
  case atStart => exact ⟨0, by omega, rfl, HI⟩
  case round =>
    clear HI
    obtain ⟨q, hq, rfl, HJ⟩ := hrel
    by_cases hlt : q < L.length
    · obtain ⟨x, hx⟩ : ∃ x, L[q]? = some x := ⟨_, List.getElem?_eq_getElem hlt⟩
      obtain ⟨g, o, c1, hv1, ka0, ka1, ka2, ka3, ka4, ka5, ka6, ka7, ka8, ka9⟩ := en_cells (erow_grow HX.out HJ.out.grown) hx
      injection hv1 with e1 e2 e3
      subst e1 e3
      have hgx := rf_at HR.out hx
      have q1 := hgx.s0
      have q2 := hgx.e1
      have q3 := hgx.o0
      have q5 := hgx.oe
      have q6 := hgx.f0
      have hN := clip_take pg hx
      have hln := clip_len2 (L.take q) pg
      rw [List.length_take] at hln
      have hkx := (EnB.new wr x).all
      have hbx := EnB.new wr x
      obtain ⟨O, hO⟩ : ∃ O, clipE (L.take q) pg = O := ⟨_, rfl⟩
      rw [hO] at hN hln HJ
      have HJ2 : EMk w (wr.alloc (.cells #[.int .i64 x.s, .int .i64 x.e, .int .i64 x.f, .int .i64 x.o, .bool x.sh, .int .i64 x.p, .int .i64 x.m, .int .i64 x.i, .int .i64 x.a, .bool x.wi] 50)) _ O := MkOf.grow HJ.out (grown_box wr x)
      have hlo : O.length ≤ 200000 := by omega
      obtain ⟨va, vc, hvf⟩ := OwnOf.form HJ.out.own
      subst hvf
      by_cases hc : x.s < pg ∧ pg < x.e
      · have hc1 : clip1 pg x = [lowE x pg, fromE x pg] := by unfold clip1; rw [if_pos hc]
        rw [hc1] at hN
        have HNx := Lib.hid hN
        have b0 : decide (x.s < pg) = true := decide_eq_true hc.1
        have b1 : decide (pg < x.e) = true := decide_eq_true hc.2
        have HJ3 := Lib.hid HJ2
        have HBx := Lib.hid hbx
        obtain ⟨q7, q8⟩ := hc
        clear hx hN hgx hln hO HJ hc1 hbx HJ2
        go_upto_region 6 with fail
        generalize hwb : wr.alloc (.cells #[.int .i64 x.s, .int .i64 x.e, .int .i64 x.f, .int .i64 x.o, .bool x.sh, .int .i64 x.p, .int .i64 x.m, .int .i64 x.i, .int .i64 x.a, .bool x.wi] 50) = wb at *
        obtain ⟨k0, k1, k2, k3, k4, k5, k6, k7, k8, k9⟩ := hkx
        clear hwb
        have hne : wr.heap.size < wb.heap.size := HBx.out.lt
        have HT0 := Lib.hid (show ∀ W, Turn [wb.heap.size, wb.heap.size + 1] ((wb.alloc (.cells #[.int .i64 x.s, .int .i64 x.e, .int .i64 x.f, .int .i64 x.o, .bool x.sh, .int .i64 x.p, .int .i64 x.m, .int .i64 x.i, .int .i64 x.a, .bool x.wi] 50)).alloc (.cells #[.int .i64 x.s, .int .i64 x.e, .int .i64 x.f, .int .i64 x.o, .bool x.sh, .int .i64 x.p, .int .i64 x.m, .int .i64 x.i, .int .i64 x.a, .bool x.wi] 50)).drew W → EMk w W (.slice va O.length vc) O from fun W t =>
          MkOf.turn (MkOf.grow HJ3.out (grown_trans (grown_trans (World.grownBy_alloc _ _ none) (World.grownBy_alloc _ _ none)) (grown_drew1 _))) t (fun b hb => by
            have := HJ3.out.grown.size
            simp only [List.mem_cons, List.not_mem_nil, or_false] at hb
            rcases hb with rfl | rfl <;> omega) (fun b hb hm => by
            have := (OwnOf.lt HJ3.out.own hb).2
            simp only [List.mem_cons, List.not_mem_nil, or_false] at hm
            rcases hm with rfl | rfl <;> omega))
        have hz1 : EnB ((wb.alloc (.cells #[.int .i64 x.s, .int .i64 x.e, .int .i64 x.f, .int .i64 x.o, .bool x.sh, .int .i64 x.p, .int .i64 x.m, .int .i64 x.i, .int .i64 x.a, .bool x.wi] 50)).alloc (.cells #[.int .i64 x.s, .int .i64 x.e, .int .i64 x.f, .int .i64 x.o, .bool x.sh, .int .i64 x.p, .int .i64 x.m, .int .i64 x.i, .int .i64 x.a, .bool x.wi] 50)).drew wb.heap.size x := ((EnB.new wb x).grow (World.grownBy_alloc _ _ _)).grow (grown_drew1 _)
        have hz2 : EnB ((wb.alloc (.cells #[.int .i64 x.s, .int .i64 x.e, .int .i64 x.f, .int .i64 x.o, .bool x.sh, .int .i64 x.p, .int .i64 x.m, .int .i64 x.i, .int .i64 x.a, .bool x.wi] 50)).alloc (.cells #[.int .i64 x.s, .int .i64 x.e, .int .i64 x.f, .int .i64 x.o, .bool x.sh, .int .i64 x.p, .int .i64 x.m, .int .i64 x.i, .int .i64 x.a, .bool x.wi] 50)).drew (wb.heap.size + 1) x := by
          have := (EnB.new (wb.alloc (.cells #[.int .i64 x.s, .int .i64 x.e, .int .i64 x.f, .int .i64 x.o, .bool x.sh, .int .i64 x.p, .int .i64 x.m, .int .i64 x.i, .int .i64 x.a, .bool x.wi] 50)) x).grow (grown_drew1 _)
          rw [World.size_alloc] at this
          exact this
        have hz0 : EnB ((wb.alloc (.cells #[.int .i64 x.s, .int .i64 x.e, .int .i64 x.f, .int .i64 x.o, .bool x.sh, .int .i64 x.p, .int .i64 x.m, .int .i64 x.i, .int .i64 x.a, .bool x.wi] 50)).alloc (.cells #[.int .i64 x.s, .int .i64 x.e, .int .i64 x.f, .int .i64 x.o, .bool x.sh, .int .i64 x.p, .int .i64 x.m, .int .i64 x.i, .int .i64 x.a, .bool x.wi] 50)).drew wr.heap.size x := HBx.out.grow (grown_trans (grown_trans (World.grownBy_alloc _ _ none) (World.grownBy_alloc _ _ none)) (grown_drew1 _))
        by_cases hf : x.f > 0
        · have bf : decide (x.f > 0) = true := decide_eq_true hf
          have ez : fromE x pg = ⟨pg, x.e, x.f, x.o + (pg - x.s), x.sh, x.p, x.m, x.i, x.a, x.wi⟩ := by unfold fromE; rw [if_pos (show 0 < x.f from hf)]
          rw [ez] at HNx
          have q9 : x.o ≤ 4096 := by have := q5 hf; omega
          clear q5 ez hf
          go_region
          all_goals
            generalize ((wb.alloc (.cells #[.int .i64 x.s, .int .i64 x.e, .int .i64 x.f, .int .i64 x.o, .bool x.sh, .int .i64 x.p, .int .i64 x.m, .int .i64 x.i, .int .i64 x.a, .bool x.wi] 50)).alloc (.cells #[.int .i64 x.s, .int .i64 x.e, .int .i64 x.f, .int .i64 x.o, .bool x.sh, .int .i64 x.p, .int .i64 x.m, .int .i64 x.i, .int .i64 x.a, .bool x.wi] 50)).drew = wz at *
            have HT := HT0
            have HZs := Lib.hid (HT0.out _ (Turn.refl _ _)).grown.size
            obtain ⟨z0, z1, z2, z3, z4, z5, z6, z7, z8, z9⟩ := hz0.all
            obtain ⟨m0, m1, m2, m3, m4, m5, m6, m7, m8, m9⟩ := hz1.all
            obtain ⟨n0, n1, n2, n3, n4, n5, n6, n7, n8, n9⟩ := hz2.all
            have f0 := hz1.frozen 1
            have f1 := hz1.frozen 0
            have f2 := hz1.frozen 3
            have f3 := hz2.frozen 1
            have f4 := hz2.frozen 0
            have f5 := hz2.frozen 3
            clear hz0 hz1 hz2 k0 k1 k2 k3 k4 k5 k6 k7 k8 k9
            go_wp2_with (at_builtin; refine wpList_epush2 _ rfl _ _ rfl w.heap.size _ O ⟨x.s, pg, x.f, x.o, x.sh, x.p, x.m, x.i, x.a, x.wi⟩ ⟨pg, x.e, x.f, x.o + (pg - x.s), x.sh, x.p, x.m, x.i, x.a, x.wi⟩ (by rfl) (HT.out _ (Turn.trans' (Turn.trans' (Turn.setCell [wb.heap.size, wb.heap.size + 1] _ _ _ _ (by simp)) (Turn.setCell [wb.heap.size, wb.heap.size + 1] _ _ _ _ (by simp))) (Turn.setCell [wb.heap.size, wb.heap.size + 1] _ _ _ _ (by simp)))).own wz.heap.size _ (by rfl) (by simp [World.setCell]) (by omega) HZs.out ?_; intro g8 cap8 w8 hown8 hg8; have HJ8 := Lib.hid (MkOf.app (HT.out _ (Turn.trans' (Turn.trans' (Turn.setCell [wb.heap.size, wb.heap.size + 1] _ _ _ _ (by simp)) (Turn.setCell [wb.heap.size, wb.heap.size + 1] _ _ _ _ (by simp))) (Turn.setCell [wb.heap.size, wb.heap.size + 1] _ _ _ _ (by simp)))) hg8 hown8); clear hown8 hg8)
            go_roundw
            case rel => exact ⟨q + 1, by omega, by go_num, by rw [HNx.out]; exact HJ8⟩
            case measure => simp [intOf]; omega
        · have bf : decide (x.f > 0) = false := decide_eq_false hf
          have ez : fromE x pg = ⟨pg, x.e, x.f, x.o, x.sh, x.p, x.m, x.i, x.a, x.wi⟩ := by unfold fromE; rw [if_neg (show ¬ 0 < x.f from hf)]
          rw [ez] at HNx
          clear q5 ez hf
          go_region
          all_goals
            generalize ((wb.alloc (.cells #[.int .i64 x.s, .int .i64 x.e, .int .i64 x.f, .int .i64 x.o, .bool x.sh, .int .i64 x.p, .int .i64 x.m, .int .i64 x.i, .int .i64 x.a, .bool x.wi] 50)).alloc (.cells #[.int .i64 x.s, .int .i64 x.e, .int .i64 x.f, .int .i64 x.o, .bool x.sh, .int .i64 x.p, .int .i64 x.m, .int .i64 x.i, .int .i64 x.a, .bool x.wi] 50)).drew = wz at *
            have HT := HT0
            have HZs := Lib.hid (HT0.out _ (Turn.refl _ _)).grown.size
            obtain ⟨z0, z1, z2, z3, z4, z5, z6, z7, z8, z9⟩ := hz0.all
            obtain ⟨m0, m1, m2, m3, m4, m5, m6, m7, m8, m9⟩ := hz1.all
            obtain ⟨n0, n1, n2, n3, n4, n5, n6, n7, n8, n9⟩ := hz2.all
            have f0 := hz1.frozen 1
            have f1 := hz1.frozen 0
            have f2 := hz1.frozen 3
            have f3 := hz2.frozen 1
            have f4 := hz2.frozen 0
            have f5 := hz2.frozen 3
            clear hz0 hz1 hz2 k0 k1 k2 k3 k4 k5 k6 k7 k8 k9
            go_wp2_with (at_builtin; refine wpList_epush2 _ rfl _ _ rfl w.heap.size _ O ⟨x.s, pg, x.f, x.o, x.sh, x.p, x.m, x.i, x.a, x.wi⟩ ⟨pg, x.e, x.f, x.o, x.sh, x.p, x.m, x.i, x.a, x.wi⟩ (by rfl) (HT.out _ (Turn.trans' (Turn.setCell [wb.heap.size, wb.heap.size + 1] _ _ _ _ (by simp)) (Turn.setCell [wb.heap.size, wb.heap.size + 1] _ _ _ _ (by simp)))).own wz.heap.size _ (by rfl) (by simp [World.setCell]) (by omega) HZs.out ?_; intro g8 cap8 w8 hown8 hg8; have HJ8 := Lib.hid (MkOf.app (HT.out _ (Turn.trans' (Turn.setCell [wb.heap.size, wb.heap.size + 1] _ _ _ _ (by simp)) (Turn.setCell [wb.heap.size, wb.heap.size + 1] _ _ _ _ (by simp)))) hg8 hown8); clear hown8 hg8)
            go_roundw
            case rel => exact ⟨q + 1, by omega, by go_num, by rw [HNx.out]; exact HJ8⟩
            case measure => simp [intOf]; omega
      · have hc1 : clip1 pg x = [x] := by unfold clip1; rw [if_neg hc]
        rw [hc1] at hN
        have HNx := Lib.hid hN
        have HJ3 := Lib.hid HJ2
        obtain ⟨k0, k1, k2, k3, k4, k5, k6, k7, k8, k9⟩ := hkx
        by_cases h1 : x.s < pg
        · have b0 : decide (x.s < pg) = true := decide_eq_true h1
          have b1 : decide (pg < x.e) = false := decide_eq_false fun h => hc ⟨h1, h⟩
          clear hx hN hgx hln hO HJ hc1 hbx HJ2 hc h1 q5
          go_upto_region 5 with fail
          generalize hwb : wr.alloc (.cells #[.int .i64 x.s, .int .i64 x.e, .int .i64 x.f, .int .i64 x.o, .bool x.sh, .int .i64 x.p, .int .i64 x.m, .int .i64 x.i, .int .i64 x.a, .bool x.wi] 50) = wb at *
          clear hwb
          go_wp2_with (at_builtin; refine wpList_epush wb rfl _ _ rfl w.heap.size _ O x (by rfl) HJ3.out.own wb.heap.size _ (by rfl) rfl (by omega) HJ3.out.grown.size ?_; intro g8 cap8 w8 hown8 hg8; have HJ8 := Lib.hid (MkOf.app HJ3.out hg8 hown8); clear hown8 hg8)
          go_roundw
          case rel => exact ⟨q + 1, by omega, by go_num, by rw [HNx.out]; exact HJ8⟩
          case measure => simp [intOf]; omega
        · have b0 : decide (x.s < pg) = false := decide_eq_false h1
          clear hx hN hgx hln hO HJ hc1 hbx HJ2 hc h1 q5
          go_upto_region 5 with fail
          generalize hwb : wr.alloc (.cells #[.int .i64 x.s, .int .i64 x.e, .int .i64 x.f, .int .i64 x.o, .bool x.sh, .int .i64 x.p, .int .i64 x.m, .int .i64 x.i, .int .i64 x.a, .bool x.wi] 50) = wb at *
          clear hwb
          go_wp2_with (at_builtin; refine wpList_epush wb rfl _ _ rfl w.heap.size _ O x (by rfl) HJ3.out.own wb.heap.size _ (by rfl) rfl (by omega) HJ3.out.grown.size ?_; intro g8 cap8 w8 hown8 hg8; have HJ8 := Lib.hid (MkOf.app HJ3.out hg8 hown8); clear hown8 hg8)
          go_roundw
          case rel => exact ⟨q + 1, by omega, by go_num, by rw [HNx.out]; exact HJ8⟩
          case measure => simp [intOf]; omega
    · obtain rfl : q = L.length := by omega
      rw [List.take_length] at HJ
      obtain ⟨va, vc, hvf⟩ := OwnOf.form HJ.out.own
      subst hvf
      go_wp2_with fail
      go_ret
      exact ⟨_, rfl, HJ.out.own, HJ.out.grown⟩
end Go.Proofs.YtefiiooibbkffaaGreat
