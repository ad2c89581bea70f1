/- Package entry (landed): Clip. -/
import Derived.Test.YtefiiooibbkffaaGreatEyIns
import Derived.Deep.Cut
import Derived.Deep.CutRange
namespace Go.Proofs.YtefiiooibbkffaaGreat
open Go.ChangeShapes Go.WideShapes Go.ChangeAt Go.RowKit Go.Deep Go.Sort
set_option linter.unusedVariables false

theorem EnB.setE {w : World} {y : Nat} {x : En} (h : EnB w y x) (e : Int) : EnB (w.setCell ⟨y, 1, none⟩ (.int .i64 e)) y (longE x e) := heap_setCell_same w y 1 _ _ (.int .i64 e) h
theorem EnB.far {w : World} {y b o : Nat} {x : En} {u : Value} (h : EnB w y x) (hb : b ≠ y) : EnB (w.setCell ⟨b, o, none⟩ u) y x := (heap_setCell_other w ⟨b, o, none⟩ y u (by first | exact hb | exact hb.symm)).trans h
theorem four_at (w : World) (o0 o1 o2 o3 : Obj) : (((((w.alloc o0).alloc o1).alloc o2).alloc o3).drew).heap[w.heap.size]? = some o0 ∧ (((((w.alloc o0).alloc o1).alloc o2).alloc o3).drew).heap[w.heap.size + 1]? = some o1 ∧ (((((w.alloc o0).alloc o1).alloc o2).alloc o3).drew).heap[w.heap.size + 1 + 1]? = some o2 ∧ (((((w.alloc o0).alloc o1).alloc o2).alloc o3).drew).heap[w.heap.size + 1 + 1 + 1]? = some o3 := by
  have h0 := heap_alloc_new w o0
  have h1 := heap_alloc_new (w.alloc o0) o1
  have h2 := heap_alloc_new ((w.alloc o0).alloc o1) o2
  have h3 := heap_alloc_new (((w.alloc o0).alloc o1).alloc o2) o3
  simp only [World.size_alloc] at h1 h2 h3
  have g : ∀ (w : World) (o : Obj) (k : Nat), k < w.heap.size → (w.alloc o).heap[k]? = w.heap[k]? := fun w o k hk => (World.grownBy_alloc w o none).block k hk (by simp)
  refine ⟨?_, ?_, ?_, h3⟩
  · exact (g _ o3 _ (by simp; omega)).trans ((g _ o2 _ (by simp; omega)).trans ((g _ o1 _ (by simp)).trans h0))
  · exact (g _ o3 _ (by simp)).trans ((g _ o2 _ (by simp)).trans h1)
  · exact (g _ o3 _ (by simp)).trans h2
theorem four_grown (w : World) (o0 o1 o2 o3 : Obj) : w.grownBy ((((w.alloc o0).alloc o1).alloc o2).alloc o3).drew none :=
  grown_trans (grown_trans (grown_trans (grown_trans (World.grownBy_alloc _ _ _) (World.grownBy_alloc _ _ _)) (World.grownBy_alloc _ _ _)) (World.grownBy_alloc _ _ _)) (grown_drew1 _)
set_option maxRecDepth 100000 in
set_option maxHeartbeats 4000000 in
theorem clip_ok {w : World} {s : Option Addr} {c : Nat} {L : List En} (h : EC w (.slice s L.length c) L) (hr : RF 0 L) (hl : L.length ≤ 100000) (pg : Int) :
    Calls Tryz.prog 191 #[.slice s L.length c, .int .i64 pg] w fun e w' => ∃ u, e = .returned u ∧ EOwn w' w.heap.size u (clipE L pg) ∧ w.grownBy w' none := by
  obtain ⟨k, hk⟩ : ∃ k, findK L pg = k := ⟨_, rfl⟩
  have hkl : k ≤ L.length := by rw [← hk]; exact findK_le L pg
  have HCl := Lib.hid (fun W (g : w.grownBy W none) => clone_ok (h.grow g) (show L.length ≤ 1000000 by omega))
  cases hh : hasB L pg with
  | false =>
    have HF := Lib.hid (find_ok c h.1 hr (by omega) pg k hk false hh)
    have e : clipE L pg = L := clip_no hr fun x hx => by
      rw [hasB_at hx] at hh
      have := of_decide_eq_false hh
      omega
    rw [e]
    clear h hr hk hkl hh e
    go_enter Tryz.func191, Tryz.ntmps191
    go_wp2_with fail
    refine HF.out.mono ?_
    rintro e w2 ⟨rfl, g2⟩
    have HG2 := Lib.hid g2
    have HC := Lib.hid (HCl.out w2 g2)
    clear g2
    go_wp2_with fail
    refine HC.out.mono ?_
    rintro e w4 ⟨u, rfl, hown, g4⟩
    obtain ⟨va, vc, hvf⟩ := OwnOf.form hown
    subst hvf
    have HO := Lib.hid hown
    have HG4 := Lib.hid (grown_trans HG2.out g4)
    clear hown g4
    go_wp2_with fail
    go_ret
    exact ⟨_, rfl, OwnOf.lower HO.out HG2.out.size, HG4.out⟩
  | true =>
    have HF := Lib.hid (find_ok c h.1 hr (by omega) pg k hk true hh)
    obtain ⟨x, hm, hx, hs1, hs2⟩ := hasB_mem hh
    have HX := Lib.hid h
    by_cases hpe : x.s = pg
    · have e : clipE L pg = L := clip_no hr fun y hy => by rw [hx] at hy; cases hy; omega
      rw [e]
      have hb1 : (x.s == pg) = true := by simp [hpe]
      rw [hk] at hx
      have hk1 := (List.getElem?_eq_some_iff.1 hx).1
      have h0 : (0 : Int) ≤ (k : Int) := by omega
      have h1 : (k : Int) < (L.length : Int) := by omega
      have HXk := Lib.hid hx
      clear h hr hk hkl hh e hx hm hs1 hs2 hpe
      go_enter Tryz.func191, Tryz.ntmps191
      go_wp2_with fail
      refine HF.out.mono ?_
      rintro e w2 ⟨rfl, g2⟩
      have HG2 := Lib.hid g2
      have HC := Lib.hid (HCl.out w2 g2)
      obtain ⟨g, o, c3, hv, hat⟩ := en_cells (erow_grow HX.out.1 g2) HXk.out
      injection hv with e1 e2 e3
      subst e1 e3
      have k0 := hat.c0
      clear g2 hat
      go_wp2_with fail
      refine HC.out.mono ?_
      rintro e w4 ⟨u, rfl, hown, g4⟩
      obtain ⟨va, vc, hvf⟩ := OwnOf.form hown
      subst hvf
      have HO := Lib.hid hown
      have HG4 := Lib.hid (grown_trans HG2.out g4)
      clear hown g4
      go_wp2_with fail
      go_ret
      exact ⟨_, rfl, OwnOf.lower HO.out HG2.out.size, HG4.out⟩
    · have hlt : x.s < pg := by omega
      have hb1 : (x.s == pg) = false := by simp [hpe]
      have hcl := clip_at hr hx hlt
      rw [hk] at hx hcl
      have hgx := rf_at hr hx
      have hk1 := (List.getElem?_eq_some_iff.1 hx).1
      have h0 : (0 : Int) ≤ (k : Int) := by omega
      have h1 : (k : Int) < (L.length : Int) := by omega
      obtain ⟨a1, cc1, hq1, he1⟩ := ec_to h hkl
      obtain ⟨a2, cc2, hq2, he2⟩ := ec_from h (show k + 1 ≤ L.length by omega)
      have e9 : ((k + 1 : Nat) : Int) = (k : Int) + 1 := by omega
      simp only [e9] at hq2
      have hwr : IntKind.i64.wrap ((k : Int) + 1) = (k : Int) + 1 := by rw [IntKind.wrap_i64]; omega
      have h2 : (k : Int) + 1 ≤ (L.length : Int) := by omega
      obtain ⟨z, hz⟩ : ∃ z, fromE x pg = z := ⟨_, rfl⟩
      have hfr := fun W => from_w x hgx pg (by omega) (by omega) W
      rw [hz] at hcl hfr
      have hcl2 : clipE L pg = [L.take k, [lowE x pg, z], L.drop (k + 1)].flatten := by rw [hcl]; simp
      have hlen : lenAll [L.take k, [lowE x pg, z], L.drop (k + 1)] ≤ 1000000 := by
        unfold lenAll
        simp
        omega
      rw [hcl2]
      generalize L.take k = T at *
      generalize L.drop (k + 1) = D at *
      have HE1 := Lib.hid he1
      have HE2 := Lib.hid he2
      have HLn := Lib.hid hlen
      have HFr := Lib.hid hfr
      have HXk := Lib.hid hx
      clear h hr hk hkl hh hx hm hs1 hs2 hpe hcl hcl2 hlen he1 he2 hgx hlt e9 hz hfr HCl
      go_enter Tryz.func191, Tryz.ntmps191
      go_wp2_with fail
      refine HF.out.mono ?_
      rintro e w2 ⟨rfl, g2⟩
      have HG2 := Lib.hid g2
      obtain ⟨g, o, c3, hv, hat⟩ := en_cells (erow_grow HX.out.1 g2) HXk.out
      injection hv with e1 e2 e3
      subst e1 e3
      have HAt := Lib.hid hat
      have k0 := hat.c0
      clear g2 hat
      go_upto_region 4 with fail
      go_cut [7, 8] (fun b7 b8 wx => ∃ B C : Nat, b7 = .pointer (some ⟨B, 0, none⟩) ∧ b8 = .pointer (some ⟨C, 0, none⟩) ∧ Hid (B ≠ C) ∧ Hid (EnB wx B x) ∧ Hid (EnB wx C z) ∧ Hid (w2.grownBy wx none) ∧ Hid (w2.heap.size ≤ B))
      case first =>
        have hkeep : ∀ W, w2.grownBy W none → W.cell? ⟨g, o + k * 10, none⟩ = some (.int .i64 x.s) ∧ W.cell? ⟨g, o + k * 10 + 1, none⟩ = some (.int .i64 x.e) ∧ W.cell? ⟨g, o + k * 10 + 2, none⟩ = some (.int .i64 x.f) ∧ W.cell? ⟨g, o + k * 10 + 3, none⟩ = some (.int .i64 x.o) ∧ W.cell? ⟨g, o + k * 10 + 4, none⟩ = some (.bool x.sh) ∧ W.cell? ⟨g, o + k * 10 + 5, none⟩ = some (.int .i64 x.p) ∧ W.cell? ⟨g, o + k * 10 + 6, none⟩ = some (.int .i64 x.m) ∧ W.cell? ⟨g, o + k * 10 + 7, none⟩ = some (.int .i64 x.i) ∧ W.cell? ⟨g, o + k * 10 + 8, none⟩ = some (.int .i64 x.a) ∧ W.cell? ⟨g, o + k * 10 + 9, none⟩ = some (.bool x.wi) := fun W gW => by
          have := HAt.out.grow gW
          exact ⟨this.c0, this.c1, this.c2, this.c3, this.c4, this.c5, this.c6, this.c7, this.c8, this.c9⟩
        have hk0 := hkeep _ (grown_drew1 w2)
        clear k0
        go_region_held3 (fun w7 => w7.cell? ⟨g, o + k * 10, none⟩ = some (.int .i64 x.s) ∧ w7.cell? ⟨g, o + k * 10 + 1, none⟩ = some (.int .i64 x.e) ∧ w7.cell? ⟨g, o + k * 10 + 2, none⟩ = some (.int .i64 x.f) ∧ w7.cell? ⟨g, o + k * 10 + 3, none⟩ = some (.int .i64 x.o) ∧ w7.cell? ⟨g, o + k * 10 + 4, none⟩ = some (.bool x.sh) ∧ w7.cell? ⟨g, o + k * 10 + 5, none⟩ = some (.int .i64 x.p) ∧ w7.cell? ⟨g, o + k * 10 + 6, none⟩ = some (.int .i64 x.m) ∧ w7.cell? ⟨g, o + k * 10 + 7, none⟩ = some (.int .i64 x.i) ∧ w7.cell? ⟨g, o + k * 10 + 8, none⟩ = some (.int .i64 x.a) ∧ w7.cell? ⟨g, o + k * 10 + 9, none⟩ = some (.bool x.wi)) (first | exact hk0 | (refine hkeep _ ?_; repeat (first | exact grown_refl _ _ | exact grown_drew1 _ | refine grown_trans ?_ (grown_drew1 _) | refine grown_trans ?_ (World.grownBy_alloc _ _ _))) | fail)
          (first
            | (go_at_call 206; with_reducible refine ((HFr.out _).mono ?_); rintro e w5 ⟨rfl, rfl⟩)
            | fail)
        all_goals
          go_wp2_with fail
          go_meet
          case rel =>
            refine ⟨_, _, rfl, rfl, Lib.hid (by omega), Lib.hid ?_, Lib.hid ?_, Lib.hid (four_grown _ _ _ _ _), Lib.hid (by omega)⟩
            · first | exact (four_at _ _ _ _ _).1 | exact (four_at _ _ _ _ _).2.1 | exact (four_at _ _ _ _ _).2.2.1 | exact (four_at _ _ _ _ _).2.2.2
            · first | exact (four_at _ _ _ _ _).1 | exact (four_at _ _ _ _ _).2.1 | exact (four_at _ _ _ _ _).2.2.1 | exact (four_at _ _ _ _ _).2.2.2
      case rest =>
        obtain ⟨B, C, rfl, rfl, HBC, HEB, HEC, HGc, HBs⟩ := hcut
        have hcb := HEB.out.at
        have c1 := hcb.c1
        have fz := HEB.out.frozen 1
        have hEB := EnB.setE HEB.out pg
        have hEC := EnB.far (b := B) (o := 1) (u := .int .i64 pg) HEC.out HBC.out
        have HEB5 := Lib.hid hEB
        have HEC5 := Lib.hid hEC
        have HG5 := Lib.hid (show w.grownBy (wc.setCell ⟨B, 1, none⟩ (.int .i64 pg)) none from grown_at (grown_trans HG2.out HGc.out) (grown_set _ _ _ _) (Nat.le_trans HG2.out.size HBs.out))
        clear hEB hEC hcb k0
        go_upto_region 6 with fail
        generalize wc.setCell ⟨B, 1, none⟩ (.int .i64 pg) = wd at *
        clear c1 fz HEB HEC HGc HBs
        have HE3 := Lib.hid (HE1.out.grow HG5.out)
        have HE4 := Lib.hid (HE2.out.grow HG5.out)
        have gW : wd.grownBy (((wd.alloc (.cells #[.int .i64 x.s, .int .i64 pg, .int .i64 x.f, .int .i64 x.o, .bool x.sh, .int .i64 x.p, .int .i64 x.m, .int .i64 x.i, .int .i64 x.a, .bool x.wi, .int .i64 z.s, .int .i64 z.e, .int .i64 z.f, .int .i64 z.o, .bool z.sh, .int .i64 z.p, .int .i64 z.m, .int .i64 z.i, .int .i64 z.a, .bool z.wi] 50)).alloc (.cells #[.slice a1 T.length cc1, .slice (some ⟨wd.heap.size, 0, none⟩) 2 2, .slice a2 D.length cc2] 47)).drew) none := grown_trans (grown_trans (World.grownBy_alloc _ _ none) (World.grownBy_alloc _ _ none)) (grown_drew1 _)
        have hPT : EParts (((wd.alloc (.cells #[.int .i64 x.s, .int .i64 pg, .int .i64 x.f, .int .i64 x.o, .bool x.sh, .int .i64 x.p, .int .i64 x.m, .int .i64 x.i, .int .i64 x.a, .bool x.wi, .int .i64 z.s, .int .i64 z.e, .int .i64 z.f, .int .i64 z.o, .bool z.sh, .int .i64 z.p, .int .i64 z.m, .int .i64 z.i, .int .i64 z.a, .bool z.wi] 50)).alloc (.cells #[.slice a1 T.length cc1, .slice (some ⟨wd.heap.size, 0, none⟩) 2 2, .slice a2 D.length cc2] 47)).drew) (.slice (some ⟨wd.heap.size + 1, 0, none⟩) 3 3) [T, [longE x pg, z], D] :=
          parts_three (Q := [longE x pg, z]) (by have := heap_alloc_new (wd.alloc (.cells #[.int .i64 x.s, .int .i64 pg, .int .i64 x.f, .int .i64 x.o, .bool x.sh, .int .i64 x.p, .int .i64 x.m, .int .i64 x.i, .int .i64 x.a, .bool x.wi, .int .i64 z.s, .int .i64 z.e, .int .i64 z.f, .int .i64 z.o, .bool z.sh, .int .i64 z.p, .int .i64 z.m, .int .i64 z.i, .int .i64 z.a, .bool z.wi] 50)) (.cells #[.slice a1 T.length cc1, .slice (some ⟨wd.heap.size, 0, none⟩) 2 2, .slice a2 D.length cc2] 47); rw [World.size_alloc] at this; exact this)
            (HE3.out.grow gW) ((ec_two (x := longE x pg) (y := z) (heap_alloc_new wd _)).grow (grown_trans (World.grownBy_alloc _ _ none) (grown_drew1 _))) (HE4.out.grow gW)
        obtain ⟨nn, hnn⟩ : ∃ nn, [T, [longE x pg, z], D].flatten.length = nn := ⟨_, rfl⟩
        have HNN := Lib.hid hnn
        have HCC := Lib.hid (concat_ok hPT (by simp) HLn.out)
        have HW := Lib.hid (grown_trans HG5.out gW)
        have hkeep : ∀ W, wd.grownBy W none → (W.cell? ⟨B, 0, none⟩ = some (.int .i64 (longE x pg).s) ∧ W.cell? ⟨B, 1, none⟩ = some (.int .i64 (longE x pg).e) ∧ W.cell? ⟨B, 2, none⟩ = some (.int .i64 (longE x pg).f) ∧ W.cell? ⟨B, 3, none⟩ = some (.int .i64 (longE x pg).o) ∧ W.cell? ⟨B, 4, none⟩ = some (.bool (longE x pg).sh) ∧ W.cell? ⟨B, 5, none⟩ = some (.int .i64 (longE x pg).p) ∧ W.cell? ⟨B, 6, none⟩ = some (.int .i64 (longE x pg).m) ∧ W.cell? ⟨B, 7, none⟩ = some (.int .i64 (longE x pg).i) ∧ W.cell? ⟨B, 8, none⟩ = some (.int .i64 (longE x pg).a) ∧ W.cell? ⟨B, 9, none⟩ = some (.bool (longE x pg).wi)) ∧ (W.cell? ⟨C, 0, none⟩ = some (.int .i64 z.s) ∧ W.cell? ⟨C, 1, none⟩ = some (.int .i64 z.e) ∧ W.cell? ⟨C, 2, none⟩ = some (.int .i64 z.f) ∧ W.cell? ⟨C, 3, none⟩ = some (.int .i64 z.o) ∧ W.cell? ⟨C, 4, none⟩ = some (.bool z.sh) ∧ W.cell? ⟨C, 5, none⟩ = some (.int .i64 z.p) ∧ W.cell? ⟨C, 6, none⟩ = some (.int .i64 z.m) ∧ W.cell? ⟨C, 7, none⟩ = some (.int .i64 z.i) ∧ W.cell? ⟨C, 8, none⟩ = some (.int .i64 z.a) ∧ W.cell? ⟨C, 9, none⟩ = some (.bool z.wi)) := fun W gW => ⟨(HEB5.out.grow gW).all, (HEC5.out.grow gW).all⟩
        have hk0 := hkeep _ (grown_drew1 wd)
        have HKp := Lib.hid hkeep
        have HgW := Lib.hid gW
        clear hPT gW hnn
        unfold longE at hk0 hkeep
        simp only at hk0 hkeep
        go_region_held3 (fun w7 => (w7.cell? ⟨B, 0, none⟩ = some (.int .i64 x.s) ∧ w7.cell? ⟨B, 1, none⟩ = some (.int .i64 pg) ∧ w7.cell? ⟨B, 2, none⟩ = some (.int .i64 x.f) ∧ w7.cell? ⟨B, 3, none⟩ = some (.int .i64 x.o) ∧ w7.cell? ⟨B, 4, none⟩ = some (.bool x.sh) ∧ w7.cell? ⟨B, 5, none⟩ = some (.int .i64 x.p) ∧ w7.cell? ⟨B, 6, none⟩ = some (.int .i64 x.m) ∧ w7.cell? ⟨B, 7, none⟩ = some (.int .i64 x.i) ∧ w7.cell? ⟨B, 8, none⟩ = some (.int .i64 x.a) ∧ w7.cell? ⟨B, 9, none⟩ = some (.bool x.wi)) ∧ (w7.cell? ⟨C, 0, none⟩ = some (.int .i64 z.s) ∧ w7.cell? ⟨C, 1, none⟩ = some (.int .i64 z.e) ∧ w7.cell? ⟨C, 2, none⟩ = some (.int .i64 z.f) ∧ w7.cell? ⟨C, 3, none⟩ = some (.int .i64 z.o) ∧ w7.cell? ⟨C, 4, none⟩ = some (.bool z.sh) ∧ w7.cell? ⟨C, 5, none⟩ = some (.int .i64 z.p) ∧ w7.cell? ⟨C, 6, none⟩ = some (.int .i64 z.m) ∧ w7.cell? ⟨C, 7, none⟩ = some (.int .i64 z.i) ∧ w7.cell? ⟨C, 8, none⟩ = some (.int .i64 z.a) ∧ w7.cell? ⟨C, 9, none⟩ = some (.bool z.wi))) (first | exact hk0 | exact hk5 | (refine hkeep _ ?_; repeat (first | exact grown_refl _ _ | exact grown_drew1 _ | refine grown_trans ?_ (grown_drew1 _) | refine grown_trans ?_ (World.grownBy_alloc _ _ _))) | fail)
          (first
            | (go_at_call 185; with_reducible refine HCC.out.mono ?_; rintro e w5 ⟨u5, rfl, hown5, g5⟩; obtain ⟨va, vc, hvf⟩ := eown_form hown5; rw [HNN.out] at hvf; subst hvf; have HO5 := Lib.hid (eown_lower hown5 HW.out.size); have HG6 := Lib.hid (grown_trans HW.out g5); have hk5 := hkeep _ (grown_trans HgW.out g5); clear hown5 g5)
            | fail)
        go_wp2_with fail
        go_ret
        exact ⟨_, rfl, HO5.out, HG6.out⟩
end Go.Proofs.YtefiiooibbkffaaGreat
