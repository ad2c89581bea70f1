/- Package entry (landed): Insert. -/
import Derived.Test.YtklmlimfhgonjaaEyClipR
namespace Go.Proofs.Ytklmlimfhgonjaa
open Go.ChangeShapes Go.WideShapes Go.ChangeAt Go.RowKit Go.Deep Go.Sort
set_option linter.unusedVariables false

theorem eown_form {w : World} {base : Nat} {v : Value} {xs : List En} (h : EOwn w base v xs) : ∃ a c, v = .slice a xs.length c := OwnOf.form h
theorem eown_lower {w : World} {base base2 : Nat} {v : Value} {xs : List En} (h : EOwn w base v xs) (hb : base2 ≤ base) : EOwn w base2 v xs := OwnOf.lower h hb
theorem parts_three {w : World} {B c1 c2 c3 : Nat} {a1 a2 a3 : Option Addr} {P Q R : List En} (hn : w.heap[B]? = some (.cells #[.slice a1 P.length c1, .slice a2 Q.length c2, .slice a3 R.length c3] 22 (0, 0))) (hP : EC w (.slice a1 P.length c1) P) (hQ : EC w (.slice a2 Q.length c2) Q) (hR : EC w (.slice a3 R.length c3) R) :
    EParts w (.slice (some ⟨B, 0, none⟩) 3 3) [P, Q, R] := by
  refine ⟨B, rfl, fun i X hX => ?_⟩
  rw [cell_of_row _ _ _ _ _ _ hn]
  match i, hX with
  | 0, hX => cases hX; exact ⟨_, rfl, hP⟩
  | 1, hX => cases hX; exact ⟨_, rfl, hQ⟩
  | 2, hX => cases hX; exact ⟨_, rfl, hR⟩
  | i + 3, hX => cases hX
theorem parts_two {w : World} {B c1 c2 : Nat} {a1 a2 : Option Addr} {P Q : List En} (hn : w.heap[B]? = some (.cells #[.slice a1 P.length c1, .slice a2 Q.length c2] 22 (0, 0))) (hP : EC w (.slice a1 P.length c1) P) (hQ : EC w (.slice a2 Q.length c2) Q) :
    EParts w (.slice (some ⟨B, 0, none⟩) 2 2) [P, Q] := by
  refine ⟨B, rfl, fun i X hX => ?_⟩
  rw [cell_of_row _ _ _ _ _ _ hn]
  match i, hX with
  | 0, hX => cases hX; exact ⟨_, rfl, hP⟩
  | 1, hX => cases hX; exact ⟨_, rfl, hQ⟩
  | i + 2, hX => cases hX
/-- A block of entries, as a list. -/
theorem ec_one {w : World} {B : Nat} {x : En} (hn : w.heap[B]? = some (.cells #[.int .i64 x.s, .int .i64 x.e, .int .i64 x.f, .int .i64 x.o, .bool x.sh, .int .i64 x.p, .int .i64 x.m, .int .i64 x.i, .int .i64 x.a, .bool x.wi] 25 (0, 0))) : EC w (.slice (some ⟨B, 0, none⟩) 1 1) [x] := by
  refine ⟨.inl ⟨rfl, .inr ⟨B, 0, 1, rfl, (Array.getElem?_eq_some_iff.1 hn).1, fun j u hu => ?_⟩⟩, fun a l c e => by cases e; exact Nat.le_refl _⟩
  rw [Nat.zero_add, cell_of_row _ _ _ _ _ _ hn]
  simpa [enCells] using hu
theorem ec_two {w : World} {B : Nat} {x y : En} (hn : w.heap[B]? = some (.cells #[.int .i64 x.s, .int .i64 x.e, .int .i64 x.f, .int .i64 x.o, .bool x.sh, .int .i64 x.p, .int .i64 x.m, .int .i64 x.i, .int .i64 x.a, .bool x.wi, .int .i64 y.s, .int .i64 y.e, .int .i64 y.f, .int .i64 y.o, .bool y.sh, .int .i64 y.p, .int .i64 y.m, .int .i64 y.i, .int .i64 y.a, .bool y.wi] 25 (0, 0))) : EC w (.slice (some ⟨B, 0, none⟩) 2 2) [x, y] := by
  refine ⟨.inl ⟨rfl, .inr ⟨B, 0, 2, rfl, (Array.getElem?_eq_some_iff.1 hn).1, fun j u hu => ?_⟩⟩, fun a l c e => by cases e; exact Nat.le_refl _⟩
  rw [Nat.zero_add, cell_of_row _ _ _ _ _ _ hn]
  simpa [enCells] using hu
theorem ins_yes {L : List En} {x : En} (h1 : goodB x = true) (h2 : freeB L x = true) : insE L x = (putE L x, true) := by unfold insE; rw [h1, h2]; rfl
theorem ins_bad {L : List En} {x : En} (h1 : goodB x = false) : insE L x = (L, false) := by unfold insE; rw [h1]; rfl
theorem ins_no {L : List En} {x : En} (h2 : freeB L x = false) : insE L x = (L, false) := by unfold insE; rw [h2]; simp
set_option maxRecDepth 100000 in
set_option maxHeartbeats 4000000 in
theorem insert_ok {w : World} {s : Option Addr} {c : Nat} {L : List En} (h : EC w (.slice s L.length c) L) (hr : RF 0 L) (hl : L.length ≤ 100000) (x : En) (hx : OkE x) :
    Calls Try.prog 25 #[.slice s L.length c, .agg #[.int .i64 x.s, .int .i64 x.e, .int .i64 x.f, .int .i64 x.o, .bool x.sh, .int .i64 x.p, .int .i64 x.m, .int .i64 x.i, .int .i64 x.a, .bool x.wi]] w fun e w' => ∃ u, e = .returned (.tuple #[u, .bool (insE L x).2]) ∧ EOwn w' w.heap.size u (insE L x).1 ∧ w.grownBy w' none := by
  obtain ⟨k, hk⟩ : ∃ k, findK L x.s = k := ⟨_, rfl⟩
  have hkl : k ≤ L.length := by rw [← hk]; exact findK_le L x.s
  have hg1 := grown_box w x
  have hF := find_ok c (erow_grow h.1 hg1) hr (by omega) x.s k hk (hasB L x.s) rfl
  have HF := Lib.hid hF
  have HX := Lib.hid h
  have hbx := EnB.new w x
  have HBx := Lib.hid hbx
  have HG1 := Lib.hid hg1
  have HCl := Lib.hid (fun W (g : w.grownBy W none) => clone_ok (h.grow g) (show L.length ≤ 1000000 by omega))
  obtain ⟨kb0, kb1, kb2, kb3, kb4, kb5, kb6, kb7, kb8, kb9⟩ := hbx.all
  obtain ⟨I, hI⟩ : ∃ I, insE L x = I := ⟨_, rfl⟩
  rw [hI]
  obtain ⟨b0, hb0⟩ : ∃ b0, hasB L x.s = b0 := ⟨_, rfl⟩
  rw [hb0] at HF
  have hgo := fun W => good_ok x hx W
  clear hF h hg1 hbx hb0
  go_enter Try.func25, Try.ntmps25
  go_wp2_with fail
  refine HF.out.mono ?_
  rintro e w2 ⟨rfl, g2⟩
  have HG2 := Lib.hid (grown_trans HG1.out g2)
  have HB2 := Lib.hid (HBx.out.grow g2)
  have hkx := (HBx.out.grow g2).all
  clear g2 kb0 kb1 kb2 kb3 kb4 kb5 kb6 kb7 kb8 kb9
  obtain ⟨k0, k1, k2, k3, k4, k5, k6, k7, k8, k9⟩ := hkx
  have r0 := cell_regrown k0
  have r1 := cell_regrown k1
  have r2 := cell_regrown k2
  have r3 := cell_regrown k3
  have r4 := cell_regrown k4
  have r5 := cell_regrown k5
  have r6 := cell_regrown k6
  have r7 := cell_regrown k7
  have r8 := cell_regrown k8
  have r9 := cell_regrown k9
  go_upto_region 2 with fail
  cases hgd : goodB x with
  | false =>
    rw [ins_bad hgd] at hI
    subst hI
    simp only [hgd] at hgo
    have hcG := Calls.regrown_g (w := w2) fun W _ => hgo W
    clear hgo hgd
    refine wp_region_quiet_below (by kernel_rfl) (by kernel_rfl) ?_
    repeat (go_big_quiet_step (first | exact hcG _ _ | fail))
    refine wpQuiet_nil ?_
    intro _ hw'
    obtain ⟨⟨dq, osq⟩, hw''⟩ := hw'
    subst hw''
    have HG3 := Lib.hid (grown_trans HG2.out (regrown_grown w2 dq osq))
    clear r0 r1 r2 r3 r4 r5 r6 r7 r8 r9 hcG k0 k1 k2 k3 k4 k5 k6 k7 k8 k9
    generalize grow (redrawn w2 dq) osq = w3 at *
    have HC := Lib.hid (HCl.out w3 HG3.out)
    go_wp2_with fail
    refine HC.out.mono ?_
    rintro e w4 ⟨u, rfl, hown, g4⟩
    obtain ⟨va, vc, hvf⟩ := OwnOf.form hown
    subst hvf
    have HO := Lib.hid hown
    have HG4 := Lib.hid (grown_trans HG3.out g4)
    clear hown g4
    go_wp2_with fail
    go_ret2
    exact ⟨_, rfl, OwnOf.lower HO.out HG3.out.size, HG4.out⟩
  | true =>
    simp only [hgd] at hgo
    have hcG := Calls.regrown_g (w := w2) fun W _ => hgo W
    cases hfr : freeB L x with
    | false =>
      rw [ins_no hfr] at hI
      subst hI
      have hkn : k < L.length := by
        rcases Nat.lt_or_ge k L.length with h1 | h1
        · exact h1
        · rw [free_end (by omega)] at hfr; cases hfr
      obtain ⟨y, hy⟩ : ∃ y, L[k]? = some y := ⟨_, List.getElem?_eq_getElem hkn⟩
      have hlow : decide (y.s < x.e) = true := by
        rw [← hk] at hy
        rw [free_at hy] at hfr
        exact decide_eq_true (by have := of_decide_eq_false hfr; omega)
      obtain ⟨g, o, c3, hv, hat⟩ := en_cells (erow_grow HX.out.1 HG2.out) hy
      injection hv with e1 e2 e3
      subst e1 e3
      have ry := cell_regrown hat.c0
      have hb1 : decide ((k : Int) < (L.length : Int)) = true := decide_eq_true (by omega)
      have h0 : (0 : Int) ≤ (k : Int) := by omega
      have h1 : (k : Int) < (L.length : Int) := by omega
      clear hgo hgd hfr hy hat hk
      refine wp_region_quiet_below (by kernel_rfl) (by kernel_rfl) ?_
      repeat (go_big_quiet_step (first | exact hcG _ _ | fail))
      refine wpQuiet_nil ?_
      intro _ hw'
      obtain ⟨⟨dq, osq⟩, hw''⟩ := hw'
      subst hw''
      have HG3 := Lib.hid (grown_trans HG2.out (regrown_grown w2 dq osq))
      clear r0 r1 r2 r3 r4 r5 r6 r7 r8 r9 hcG k0 k1 k2 k3 k4 k5 k6 k7 k8 k9 ry
      generalize grow (redrawn w2 dq) osq = w3 at *
      have HC := Lib.hid (HCl.out w3 HG3.out)
      go_wp2_with fail
      refine HC.out.mono ?_
      rintro e w4 ⟨u, rfl, hown, g4⟩
      obtain ⟨va, vc, hvf⟩ := OwnOf.form hown
      subst hvf
      have HO := Lib.hid hown
      have HG4 := Lib.hid (grown_trans HG3.out g4)
      clear hown g4
      go_wp2_with fail
      go_ret2
      exact ⟨_, rfl, OwnOf.lower HO.out HG3.out.size, HG4.out⟩
    | true =>
      rw [ins_yes hgd hfr] at hI
      subst hI
      obtain ⟨a1, cc1, hs1, he1⟩ := ec_to HX.out hkl
      obtain ⟨a2, cc2, hs2, he2⟩ := ec_from HX.out hkl
      have hput : putE L x = [L.take k, [x], L.drop k].flatten := by unfold putE; rw [hk]; simp
      have hlen : lenAll [L.take k, [x], L.drop k] ≤ 1000000 := by
        unfold lenAll
        simp
        omega
      generalize L.take k = T at *
      generalize L.drop k = D at *
      have HE1 := Lib.hid he1
      have HE2 := Lib.hid he2
      have HP := Lib.hid hput
      have HLn := Lib.hid hlen
      by_cases hkn : k < L.length
      · obtain ⟨y, hy⟩ : ∃ y, L[k]? = some y := ⟨_, List.getElem?_eq_getElem hkn⟩
        have hlow : decide (y.s < x.e) = false := by
          rw [← hk] at hy
          rw [free_at hy] at hfr
          exact decide_eq_false (by have := of_decide_eq_true hfr; omega)
        obtain ⟨g, o, c3, hv, hat⟩ := en_cells (erow_grow HX.out.1 HG2.out) hy
        injection hv with e1 e2 e3
        subst e1 e3
        have ry := cell_regrown hat.c0
        have hb1 : decide ((k : Int) < (L.length : Int)) = true := decide_eq_true (by omega)
        have h0 : (0 : Int) ≤ (k : Int) := by omega
        have h1 : (k : Int) < (L.length : Int) := by omega
        clear hgo hgd hfr hy hat hk hput hlen he1 he2
        refine wp_region_quiet_below (by kernel_rfl) (by kernel_rfl) ?_
        repeat (go_big_quiet_step (first | exact hcG _ _ | fail))
        refine wpQuiet_nil ?_
        intro _ hw'
        obtain ⟨⟨dq, osq⟩, hw''⟩ := hw'
        subst hw''
        have hgd := regrown_grown w2 dq osq
        have HG3 := Lib.hid (grown_trans HG2.out hgd)
        have HB3 := Lib.hid (HB2.out.grow hgd)
        clear r0 r1 r2 r3 r4 r5 r6 r7 r8 r9 hcG k0 k1 k2 k3 k4 k5 k6 k7 k8 k9 ry hgd
        generalize grow (redrawn w2 dq) osq = w3 at *
        have HE3 := Lib.hid (HE1.out.grow HG3.out)
        have HE4 := Lib.hid (HE2.out.grow HG3.out)
        have gW : w3.grownBy (((w3.alloc (.cells #[.int .i64 x.s, .int .i64 x.e, .int .i64 x.f, .int .i64 x.o, .bool x.sh, .int .i64 x.p, .int .i64 x.m, .int .i64 x.i, .int .i64 x.a, .bool x.wi] 25)).alloc (.cells #[.slice a1 T.length cc1, .slice (some ⟨w3.heap.size, 0, none⟩) 1 1, .slice a2 D.length cc2] 22)).drew) none := grown_trans (grown_trans (World.grownBy_alloc _ _ none) (World.grownBy_alloc _ _ none)) (grown_drew1 _)
        have hPT : EParts (((w3.alloc (.cells #[.int .i64 x.s, .int .i64 x.e, .int .i64 x.f, .int .i64 x.o, .bool x.sh, .int .i64 x.p, .int .i64 x.m, .int .i64 x.i, .int .i64 x.a, .bool x.wi] 25)).alloc (.cells #[.slice a1 T.length cc1, .slice (some ⟨w3.heap.size, 0, none⟩) 1 1, .slice a2 D.length cc2] 22)).drew) (.slice (some ⟨w3.heap.size + 1, 0, none⟩) 3 3) [T, [x], D] :=
          parts_three (Q := [x]) (by have := heap_alloc_new (w3.alloc (.cells #[.int .i64 x.s, .int .i64 x.e, .int .i64 x.f, .int .i64 x.o, .bool x.sh, .int .i64 x.p, .int .i64 x.m, .int .i64 x.i, .int .i64 x.a, .bool x.wi] 25)) (.cells #[.slice a1 T.length cc1, .slice (some ⟨w3.heap.size, 0, none⟩) 1 1, .slice a2 D.length cc2] 22); rw [World.size_alloc] at this; exact this)
            (HE3.out.grow gW) ((ec_one (heap_alloc_new w3 _)).grow (grown_trans (World.grownBy_alloc _ _ none) (grown_drew1 _))) (HE4.out.grow gW)
        obtain ⟨nn, hnn⟩ : ∃ nn, [T, [x], D].flatten.length = nn := ⟨_, rfl⟩
        have HNN := Lib.hid hnn
        have HCC := Lib.hid (concat_ok hPT (by simp) HLn.out)
        have HW := Lib.hid (grown_trans HG3.out gW)
        have hkw := (HB3.out.grow (grown_drew1 w3)).all
        have hkw1 := ((HB3.out.grow (grown_drew1 w3)).grow (World.grownBy_alloc _ (.cells #[.int .i64 x.s, .int .i64 x.e, .int .i64 x.f, .int .i64 x.o, .bool x.sh, .int .i64 x.p, .int .i64 x.m, .int .i64 x.i, .int .i64 x.a, .bool x.wi] 25) none)).all
        have hkw1' := ((HB3.out.grow (World.grownBy_alloc _ (.cells #[.int .i64 x.s, .int .i64 x.e, .int .i64 x.f, .int .i64 x.o, .bool x.sh, .int .i64 x.p, .int .i64 x.m, .int .i64 x.i, .int .i64 x.a, .bool x.wi] 25) none)).grow (grown_drew1 _)).all
        have hkw2 := (HB3.out.grow gW).all
        have HKW := Lib.hid (HB3.out.grow gW)
        clear hPT gW hnn
        go_upto_region 4 with fail
        go_region_held3 (fun w7 => w7.cell? ⟨w.heap.size, 0, none⟩ = some (.int .i64 x.s) ∧ w7.cell? ⟨w.heap.size, 1, none⟩ = some (.int .i64 x.e) ∧ w7.cell? ⟨w.heap.size, 2, none⟩ = some (.int .i64 x.f) ∧ w7.cell? ⟨w.heap.size, 3, none⟩ = some (.int .i64 x.o) ∧ w7.cell? ⟨w.heap.size, 4, none⟩ = some (.bool x.sh) ∧ w7.cell? ⟨w.heap.size, 5, none⟩ = some (.int .i64 x.p) ∧ w7.cell? ⟨w.heap.size, 6, none⟩ = some (.int .i64 x.m) ∧ w7.cell? ⟨w.heap.size, 7, none⟩ = some (.int .i64 x.i) ∧ w7.cell? ⟨w.heap.size, 8, none⟩ = some (.int .i64 x.a) ∧ w7.cell? ⟨w.heap.size, 9, none⟩ = some (.bool x.wi)) (first | exact hkw | exact hkw1 | exact hkw1' | exact hkw2 | exact hk5 | fail)
          (first
            | (go_at_call 42; with_reducible refine HCC.out.mono ?_; rintro e w5 ⟨u5, rfl, hown5, g5⟩; obtain ⟨va, vc, hvf⟩ := eown_form hown5; rw [HNN.out] at hvf; subst hvf; have HO5 := Lib.hid (eown_lower hown5 HW.out.size); have HG5 := Lib.hid (grown_trans HW.out g5); have hk5 := (HKW.out.grow g5).all; clear hown5 g5)
            | fail)
        go_wp2_with fail
        go_ret2
        exact ⟨_, rfl, by rw [HP.out]; exact HO5.out, HG5.out⟩
      · have hb1 : decide ((k : Int) < (L.length : Int)) = false := decide_eq_false (by omega)
        clear hgo hgd hfr hk hput hlen he1 he2
        refine wp_region_quiet_below (by kernel_rfl) (by kernel_rfl) ?_
        repeat (go_big_quiet_step (first | exact hcG _ _ | fail))
        refine wpQuiet_nil ?_
        intro _ hw'
        obtain ⟨⟨dq, osq⟩, hw''⟩ := hw'
        subst hw''
        have hgd := regrown_grown w2 dq osq
        have HG3 := Lib.hid (grown_trans HG2.out hgd)
        have HB3 := Lib.hid (HB2.out.grow hgd)
        clear r0 r1 r2 r3 r4 r5 r6 r7 r8 r9 hcG k0 k1 k2 k3 k4 k5 k6 k7 k8 k9 hgd
        generalize grow (redrawn w2 dq) osq = w3 at *
        have HE3 := Lib.hid (HE1.out.grow HG3.out)
        have HE4 := Lib.hid (HE2.out.grow HG3.out)
        have gW : w3.grownBy (((w3.alloc (.cells #[.int .i64 x.s, .int .i64 x.e, .int .i64 x.f, .int .i64 x.o, .bool x.sh, .int .i64 x.p, .int .i64 x.m, .int .i64 x.i, .int .i64 x.a, .bool x.wi] 25)).alloc (.cells #[.slice a1 T.length cc1, .slice (some ⟨w3.heap.size, 0, none⟩) 1 1, .slice a2 D.length cc2] 22)).drew) none := grown_trans (grown_trans (World.grownBy_alloc _ _ none) (World.grownBy_alloc _ _ none)) (grown_drew1 _)
        have hPT : EParts (((w3.alloc (.cells #[.int .i64 x.s, .int .i64 x.e, .int .i64 x.f, .int .i64 x.o, .bool x.sh, .int .i64 x.p, .int .i64 x.m, .int .i64 x.i, .int .i64 x.a, .bool x.wi] 25)).alloc (.cells #[.slice a1 T.length cc1, .slice (some ⟨w3.heap.size, 0, none⟩) 1 1, .slice a2 D.length cc2] 22)).drew) (.slice (some ⟨w3.heap.size + 1, 0, none⟩) 3 3) [T, [x], D] :=
          parts_three (Q := [x]) (by have := heap_alloc_new (w3.alloc (.cells #[.int .i64 x.s, .int .i64 x.e, .int .i64 x.f, .int .i64 x.o, .bool x.sh, .int .i64 x.p, .int .i64 x.m, .int .i64 x.i, .int .i64 x.a, .bool x.wi] 25)) (.cells #[.slice a1 T.length cc1, .slice (some ⟨w3.heap.size, 0, none⟩) 1 1, .slice a2 D.length cc2] 22); rw [World.size_alloc] at this; exact this)
            (HE3.out.grow gW) ((ec_one (heap_alloc_new w3 _)).grow (grown_trans (World.grownBy_alloc _ _ none) (grown_drew1 _))) (HE4.out.grow gW)
        obtain ⟨nn, hnn⟩ : ∃ nn, [T, [x], D].flatten.length = nn := ⟨_, rfl⟩
        have HNN := Lib.hid hnn
        have HCC := Lib.hid (concat_ok hPT (by simp) HLn.out)
        have HW := Lib.hid (grown_trans HG3.out gW)
        have hkw := (HB3.out.grow (grown_drew1 w3)).all
        have hkw1 := ((HB3.out.grow (grown_drew1 w3)).grow (World.grownBy_alloc _ (.cells #[.int .i64 x.s, .int .i64 x.e, .int .i64 x.f, .int .i64 x.o, .bool x.sh, .int .i64 x.p, .int .i64 x.m, .int .i64 x.i, .int .i64 x.a, .bool x.wi] 25) none)).all
        have hkw1' := ((HB3.out.grow (World.grownBy_alloc _ (.cells #[.int .i64 x.s, .int .i64 x.e, .int .i64 x.f, .int .i64 x.o, .bool x.sh, .int .i64 x.p, .int .i64 x.m, .int .i64 x.i, .int .i64 x.a, .bool x.wi] 25) none)).grow (grown_drew1 _)).all
        have hkw2 := (HB3.out.grow gW).all
        have HKW := Lib.hid (HB3.out.grow gW)
        clear hPT gW hnn
        go_upto_region 4 with fail
        go_region_held3 (fun w7 => w7.cell? ⟨w.heap.size, 0, none⟩ = some (.int .i64 x.s) ∧ w7.cell? ⟨w.heap.size, 1, none⟩ = some (.int .i64 x.e) ∧ w7.cell? ⟨w.heap.size, 2, none⟩ = some (.int .i64 x.f) ∧ w7.cell? ⟨w.heap.size, 3, none⟩ = some (.int .i64 x.o) ∧ w7.cell? ⟨w.heap.size, 4, none⟩ = some (.bool x.sh) ∧ w7.cell? ⟨w.heap.size, 5, none⟩ = some (.int .i64 x.p) ∧ w7.cell? ⟨w.heap.size, 6, none⟩ = some (.int .i64 x.m) ∧ w7.cell? ⟨w.heap.size, 7, none⟩ = some (.int .i64 x.i) ∧ w7.cell? ⟨w.heap.size, 8, none⟩ = some (.int .i64 x.a) ∧ w7.cell? ⟨w.heap.size, 9, none⟩ = some (.bool x.wi)) (first | exact hkw | exact hkw1 | exact hkw1' | exact hkw2 | exact hk5 | fail)
          (first
            | (go_at_call 42; with_reducible refine HCC.out.mono ?_; rintro e w5 ⟨u5, rfl, hown5, g5⟩; obtain ⟨va, vc, hvf⟩ := eown_form hown5; rw [HNN.out] at hvf; subst hvf; have HO5 := Lib.hid (eown_lower hown5 HW.out.size); have HG5 := Lib.hid (grown_trans HW.out g5); have hk5 := (HKW.out.grow g5).all; clear hown5 g5)
            | fail)
        go_wp2_with fail
        go_ret2
        exact ⟨_, rfl, by rw [HP.out]; exact HO5.out, HG5.out⟩
end Go.Proofs.Ytklmlimfhgonjaa
