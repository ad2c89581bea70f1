/- Layer 15: like: has a page the same entry in both lists, but for its ends? -/
import Derived.Test.YtklmlimfhgonjaaEyLawA
namespace Go.Proofs.Ytklmlimfhgonjaa
open Go.ChangeShapes Go.WideShapes Go.ChangeAt Go.RowKit Go.Deep Go.Sort
set_option linter.unusedVariables false

theorem norm_eq {a b : En} {pg : Int} (h : normE a pg = normE b pg) : b.f = a.f ∧ b.sh = a.sh ∧ b.p = a.p ∧ b.m = a.m ∧ b.i = a.i ∧ b.a = a.a ∧ b.wi = a.wi ∧ (0 < a.f → a.o + (pg - a.s) = b.o + (pg - b.s)) := by
  unfold normE at h
  simp only [En.mk.injEq, true_and] at h
  obtain ⟨h1, h2, h3, h4, h5, h6, h7, h8⟩ := h
  refine ⟨h1.symm, h3.symm, h4.symm, h5.symm, h6.symm, h7.symm, h8.symm, fun hf => ?_⟩
  rw [if_pos hf, if_pos (by omega)] at h2
  exact h2
theorem like_page {L M : List En} {pg : Int} (h : pageOf L pg = pageOf M pg) : hasB L pg = hasB M pg := by rw [hasB_page, hasB_page, h]
theorem like_norm {L M : List En} {pg : Int} {a b : En} (h : pageOf L pg = pageOf M pg) (ha : L[findK L pg]? = some a) (hb : M[findK M pg]? = some b) (h1 : a.s ≤ pg) (h2 : b.s ≤ pg) : normE a pg = normE b pg := by
  rw [pageOf_find, pageOf_find, ha, hb] at h
  simp only [if_pos h1, if_pos h2] at h
  exact Option.some.inj h
set_option maxRecDepth 100000 in
set_option maxHeartbeats 8000000 in
theorem like_ok {W : World} {s t : Option Addr} {c d : Nat} {L M : List En} (h : ERow W (.slice s L.length c) L) (h' : ERow W (.slice t M.length d) M) (hr : RF 0 L) (hr' : RF 0 M) (hl : L.length ≤ 1000) (hl' : M.length ≤ 1000) (pg : Int) (hp : pageOf L pg = pageOf M pg) :
    Calls Try.prog 32 #[.slice s L.length c, .slice t M.length d, .int .i64 pg] W fun e w' => e = .returned (.bool true) ∧ W.grownBy w' none := by
  obtain ⟨i, hi⟩ : ∃ i, findK L pg = i := ⟨_, rfl⟩
  obtain ⟨k, hk⟩ : ∃ k, findK M pg = k := ⟨_, rfl⟩
  have hbb := like_page hp
  cases hh : hasB L pg with
  | false =>
    rw [hh] at hbb
    have H1 := Lib.hid (find_ok c h hr (by omega) pg i hi false hh)
    have H2 := Lib.hid (fun w' (g : W.grownBy w' none) => find_ok d (erow_grow h' g) hr' (by omega) pg k hk false hbb.symm)
    clear h h' hr hr' hp hi hk hh hbb
    go_enter Try.func32, Try.ntmps32
    go_wp2_with fail
    refine H1.out.mono ?_
    rintro e w2 ⟨rfl, g2⟩
    have HG2 := Lib.hid g2
    have HB := Lib.hid (H2.out w2 g2)
    clear g2
    go_wp2_with fail
    refine HB.out.mono ?_
    rintro e w3 ⟨rfl, g3⟩
    have HG3 := Lib.hid (grown_trans HG2.out g3)
    clear g3
    go_wp2_with fail
    go_ret
    exact ⟨rfl, HG3.out⟩
  | true =>
    rw [hh] at hbb
    have H1 := Lib.hid (find_ok c h hr (by omega) pg i hi true hh)
    have H2 := Lib.hid (fun w' (g : W.grownBy w' none) => find_ok d (erow_grow h' g) hr' (by omega) pg k hk true hbb.symm)
    obtain ⟨a, -, ha, ha1, ha2⟩ := hasB_mem hh
    obtain ⟨b, -, hb, hb1, hb2⟩ := hasB_mem hbb.symm
    have hno := like_norm hp ha hb ha1 hb1
    obtain ⟨n1, n2, n3, n4, n5, n6, n7, n8⟩ := norm_eq hno
    rw [hi] at ha
    rw [hk] at hb
    have hga := rf_at hr ha
    have hgb := rf_at hr' hb
    have hil := (List.getElem?_eq_some_iff.1 ha).1
    have hkl := (List.getElem?_eq_some_iff.1 hb).1
    have HX := Lib.hid h
    have HY := Lib.hid h'
    have HA := Lib.hid ha
    have HB := Lib.hid hb
    have q0 : (0 : Int) ≤ (i : Int) := by omega
    have q1 : (i : Int) < (L.length : Int) := by omega
    have q2 : (0 : Int) ≤ (k : Int) := by omega
    have q3 : (k : Int) < (M.length : Int) := by omega
    have d0 : decide ((i : Int) < 0) = false := decide_eq_false (by omega)
    have d1 : decide ((i : Int) ≥ (L.length : Int)) = false := decide_eq_false (by omega)
    have d2 : decide ((k : Int) < 0) = false := decide_eq_false (by omega)
    have d3 : decide ((k : Int) ≥ (M.length : Int)) = false := decide_eq_false (by omega)
    have p1 := hga.s0
    have p2 := hga.e1
    have p3 := hga.o0
    have p4 := hga.oe
    have p5 := hgb.s0
    have p6 := hgb.e1
    have p7 := hgb.o0
    have p8 := hgb.oe
    have p9 := hga.lt
    have p10 := hgb.lt
    clear h h' hr hr' hp hi hk hh hbb ha hb hno hga hgb hil hkl
    go_enter Try.func32, Try.ntmps32
    go_wp2_with fail
    refine H1.out.mono ?_
    rintro e w2 ⟨rfl, g2⟩
    have HG2 := Lib.hid g2
    have HC := Lib.hid (H2.out w2 g2)
    clear g2
    go_wp2_with fail
    refine HC.out.mono ?_
    rintro e w3 ⟨rfl, g3⟩
    have HG3 := Lib.hid (grown_trans HG2.out g3)
    clear g3
    obtain ⟨g, o, c3, hv, hat⟩ := en_cells (erow_grow HX.out HG3.out) HA.out
    injection hv with e1 e2 e3
    subst e1 e3
    obtain ⟨g', o', c4, hv', hat'⟩ := en_cells (erow_grow HY.out HG3.out) HB.out
    injection hv' with e1 e2 e3
    subst e1 e3
    have hkeep : ∀ w', w3.grownBy w' none → (w'.cell? ⟨g, o + i * 10, none⟩ = some (.int .i64 a.s) ∧ w'.cell? ⟨g, o + i * 10 + 1, none⟩ = some (.int .i64 a.e) ∧ w'.cell? ⟨g, o + i * 10 + 2, none⟩ = some (.int .i64 a.f) ∧ w'.cell? ⟨g, o + i * 10 + 3, none⟩ = some (.int .i64 a.o) ∧ w'.cell? ⟨g, o + i * 10 + 4, none⟩ = some (.bool a.sh) ∧ w'.cell? ⟨g, o + i * 10 + 5, none⟩ = some (.int .i64 a.p) ∧ w'.cell? ⟨g, o + i * 10 + 6, none⟩ = some (.int .i64 a.m) ∧ w'.cell? ⟨g, o + i * 10 + 7, none⟩ = some (.int .i64 a.i) ∧ w'.cell? ⟨g, o + i * 10 + 8, none⟩ = some (.int .i64 a.a) ∧ w'.cell? ⟨g, o + i * 10 + 9, none⟩ = some (.bool a.wi)) ∧ (w'.cell? ⟨g', o' + k * 10, none⟩ = some (.int .i64 b.s) ∧ w'.cell? ⟨g', o' + k * 10 + 1, none⟩ = some (.int .i64 b.e) ∧ w'.cell? ⟨g', o' + k * 10 + 2, none⟩ = some (.int .i64 b.f) ∧ w'.cell? ⟨g', o' + k * 10 + 3, none⟩ = some (.int .i64 b.o) ∧ w'.cell? ⟨g', o' + k * 10 + 4, none⟩ = some (.bool b.sh) ∧ w'.cell? ⟨g', o' + k * 10 + 5, none⟩ = some (.int .i64 b.p) ∧ w'.cell? ⟨g', o' + k * 10 + 6, none⟩ = some (.int .i64 b.m) ∧ w'.cell? ⟨g', o' + k * 10 + 7, none⟩ = some (.int .i64 b.i) ∧ w'.cell? ⟨g', o' + k * 10 + 8, none⟩ = some (.int .i64 b.a) ∧ w'.cell? ⟨g', o' + k * 10 + 9, none⟩ = some (.bool b.wi)) := fun w' gW => by
      have t1 := hat.grow gW
      have t2 := hat'.grow gW
      exact ⟨⟨t1.c0, t1.c1, t1.c2, t1.c3, t1.c4, t1.c5, t1.c6, t1.c7, t1.c8, t1.c9⟩, ⟨t2.c0, t2.c1, t2.c2, t2.c3, t2.c4, t2.c5, t2.c6, t2.c7, t2.c8, t2.c9⟩⟩
    have hk0 := hkeep _ (grown_drew1 w3)
    clear hat hat' HX HY HA HB H1 H2 HC
    obtain ⟨a0, ae, af, ao, ash, ap, am, ai, aa, aw⟩ := a
    obtain ⟨b0, be, bf, bo, bsh, bp, bm, bi, ba, bw⟩ := b
    simp only at *
    subst n1 n2 n3 n4 n5 n6 n7
    have hq := fun wx => eql_en wx ⟨a0, ae, bf, ao, bsh, bp, bm, bi, ba, bw⟩ ⟨a0, ae, bf, ao, bsh, bp, bm, bi, ba, bw⟩ true (by simp)
    simp only at hq
    go_upto_region 9 with fail
    go_region_held3 (fun w7 => (w7.cell? ⟨g, o + i * 10, none⟩ = some (.int .i64 a0) ∧ w7.cell? ⟨g, o + i * 10 + 1, none⟩ = some (.int .i64 ae) ∧ w7.cell? ⟨g, o + i * 10 + 2, none⟩ = some (.int .i64 bf) ∧ w7.cell? ⟨g, o + i * 10 + 3, none⟩ = some (.int .i64 ao) ∧ w7.cell? ⟨g, o + i * 10 + 4, none⟩ = some (.bool bsh) ∧ w7.cell? ⟨g, o + i * 10 + 5, none⟩ = some (.int .i64 bp) ∧ w7.cell? ⟨g, o + i * 10 + 6, none⟩ = some (.int .i64 bm) ∧ w7.cell? ⟨g, o + i * 10 + 7, none⟩ = some (.int .i64 bi) ∧ w7.cell? ⟨g, o + i * 10 + 8, none⟩ = some (.int .i64 ba) ∧ w7.cell? ⟨g, o + i * 10 + 9, none⟩ = some (.bool bw)) ∧
        (w7.cell? ⟨g', o' + k * 10, none⟩ = some (.int .i64 b0) ∧ w7.cell? ⟨g', o' + k * 10 + 1, none⟩ = some (.int .i64 be) ∧ w7.cell? ⟨g', o' + k * 10 + 2, none⟩ = some (.int .i64 bf) ∧ w7.cell? ⟨g', o' + k * 10 + 3, none⟩ = some (.int .i64 bo) ∧ w7.cell? ⟨g', o' + k * 10 + 4, none⟩ = some (.bool bsh) ∧ w7.cell? ⟨g', o' + k * 10 + 5, none⟩ = some (.int .i64 bp) ∧ w7.cell? ⟨g', o' + k * 10 + 6, none⟩ = some (.int .i64 bm) ∧ w7.cell? ⟨g', o' + k * 10 + 7, none⟩ = some (.int .i64 bi) ∧ w7.cell? ⟨g', o' + k * 10 + 8, none⟩ = some (.int .i64 ba) ∧ w7.cell? ⟨g', o' + k * 10 + 9, none⟩ = some (.bool bw)))
      (first | exact hk0 | (refine hkeep _ ?_; repeat (first | exact grown_refl _ _ | exact grown_drew1 _ | refine grown_trans ?_ (grown_drew1 _) | refine grown_trans ?_ (World.grownBy_alloc _ _ _))) | fail)
      (fail)
    all_goals
      clear hkeep hk0
      by_cases hf : bf > 0
      · have bb : decide (bf > 0) = true := decide_eq_true hf
        have s1 : ao ≤ 4096 := by have := p4 hf; omega
        have s2 : bo ≤ 4096 := by have := p8 hf; omega
        have s3 : (ao + pg - a0 != bo + pg - b0) = false := by have := n8 hf; simp; omega
        clear n8 p4 p8 hf
        go_wp2_with fail
        go_region
        go_wp2_with fail
        go_ret
        exact ⟨rfl, by refine grown_trans HG3.out ?_; repeat (first | exact grown_refl _ _ | exact grown_drew1 _ | refine grown_trans ?_ (grown_drew1 _) | refine grown_trans ?_ (World.grownBy_alloc _ _ _))⟩
      · have bb : decide (bf > 0) = false := decide_eq_false hf
        clear n8 p4 p8 hf
        go_wp2_with fail
        go_region
        go_wp2_with fail
        go_ret
        exact ⟨rfl, by refine grown_trans HG3.out ?_; repeat (first | exact grown_refl _ _ | exact grown_drew1 _ | refine grown_trans ?_ (grown_drew1 _) | refine grown_trans ?_ (World.grownBy_alloc _ _ _))⟩
end Go.Proofs.Ytklmlimfhgonjaa
