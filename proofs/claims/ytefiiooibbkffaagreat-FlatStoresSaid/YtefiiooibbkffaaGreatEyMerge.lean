/- Layer 15: Merge, the document's and the landed. Written by genymerge.py. -/
import Derived.Test.YtefiiooibbkffaaGreatEyRefD
import Derived.Deep.CutBlock
import Derived.Deep.DeepCutAuto
namespace Go.Proofs.YtefiiooibbkffaaGreat
open Go.ChangeShapes Go.WideShapes Go.ChangeAt Go.RowKit Go.Deep Go.Sort
set_option linter.unusedVariables false

theorem ens_set (A : List En) (r : En) (e : Int) : (A ++ [longE r e]).flatMap enCells = ((A ++ [r]).flatMap enCells).set (A.length * 10 + 1) (.int .i64 e) := by
  rw [List.flatMap_append, List.flatMap_append, List.set_append_right _ _ (by rw [flat_len enCells 10 en_len]; omega), flat_len enCells 10 en_len]
  rw [show A.length * 10 + 1 - A.length * 10 = 1 by omega]
  rfl
/-- The last entry is longer. -/
theorem EOwn.longer {w : World} {base g c : Nat} {A : List En} {r : En} (h : EOwn w base (.slice (some ⟨g, 0, none⟩) (A.length + 1) c) (A ++ [r])) (e : Int) :
    EOwn (w.setCell ⟨g, A.length * 10 + 1, none⟩ (.int .i64 e)) base (.slice (some ⟨g, 0, none⟩) (A.length + 1) c) (A ++ [longE r e]) := by
  have e1 : A.length + 1 = (A ++ [r]).length := by simp
  rw [e1] at h ⊢
  exact OwnOf.turn h (by simp) (ens_set A r e)
theorem grown_drawn_box (w : World) (d : Nat) (os : Array Obj) {w0 : World} (g : w0.grownBy w none) : w0.grownBy (grow (redrawn w d) os) none := grown_trans g (regrown_grown w d os)
set_option maxRecDepth 100000 in
set_option maxHeartbeats 4000000 in
theorem refMerge_ok {w : World} {s : Option Addr} {L : List En} (c : Nat) (h : ERow w (.slice s L.length c) L) (hr : RF 0 L) (hl : L.length ≤ 100000) :
    Calls Tryz.prog 140 #[.slice s L.length c] w fun e w' => ∃ u, e = .returned u ∧ EOwn w' w.heap.size u (mergeE L) ∧ w.grownBy w' none := by
  have HX := Lib.hid h
  have HR := Lib.hid hr
  have HI := Lib.hid (show EMk w w (.slice none 0 0) ((L.take 0).foldl stepM []) from MkOf.nil w)
  clear h hr
  go_enter Tryz.func140, Tryz.ntmps140
  go_wp2_with fail
  go_loopw [3, 9] (fun vv iv wr => ∃ q : Nat, q ≤ L.length ∧ iv = .int .i64 q ∧ Hid (EMk w wr vv ((L.take q).foldl stepM []))) (fun _ iv _ => L.length - (intOf iv).toNat)
  case atStart => exact ⟨0, by omega, rfl, HI⟩
  case round =>
    clear HI
    obtain ⟨q, hq, rfl, HJ⟩ := hrel
    by_cases hlt : q < L.length
    · obtain ⟨x, hx⟩ : ∃ x, L[q]? = some x := ⟨_, List.getElem?_eq_getElem hlt⟩
      obtain ⟨g, o, c1, hv1, ka0, ka1, ka2, ka3, ka4, ka5, ka6, ka7, ka8, ka9⟩ := en_cells (erow_grow HX.out HJ.out.grown) hx
      injection hv1 with e1 e2 e3
      subst e1 e3
      have hgx := rf_at HR.out hx
      have hN := fold_take hx
      have hrt : RF 0 ((L.take q).foldl stepM []) := by rw [fold_merge]; exact rf_merge (rf_sub HR.out (List.take_sublist _ _))
      have hln := fold_len (L.take q) []
      rw [List.length_take, List.length_nil] at hln
      have hkx := (EnB.new wr x).all
      have hbx := EnB.new wr x
      obtain ⟨O, hO⟩ : ∃ O, (L.take q).foldl stepM [] = O := ⟨_, rfl⟩
      rw [hO] at hN hrt hln HJ
      have HJ2 : EMk w (wr.alloc (.cells #[.int .i64 x.s, .int .i64 x.e, .int .i64 x.f, .int .i64 x.o, .bool x.sh, .int .i64 x.p, .int .i64 x.m, .int .i64 x.i, .int .i64 x.a, .bool x.wi] 50)) _ O := MkOf.grow HJ.out (grown_box wr x)
      have hlo : O.length ≤ 100000 := by omega
      have HNx := Lib.hid hN
      have HGx := Lib.hid hgx
      rcases List.eq_nil_or_concat O with rfl | ⟨A, y, rfl⟩
      · obtain ⟨va, vc, hvf⟩ := OwnOf.form HJ.out.own
        subst hvf
        clear hx hN hgx hrt hln hO HJ
        go_upto_region 6 with fail
        generalize hwb : wr.alloc (.cells #[.int .i64 x.s, .int .i64 x.e, .int .i64 x.f, .int .i64 x.o, .bool x.sh, .int .i64 x.p, .int .i64 x.m, .int .i64 x.i, .int .i64 x.a, .bool x.wi] 50) = wb at *
        have HJ3 := Lib.hid HJ2
        have HBx := Lib.hid hbx
        have b0 : decide ((0 : Int) - 1 ≥ 0) = false := by decide
        have b0' : decide ((-1 : Int) ≥ 0) = false := by decide
        clear hwb HJ2 hbx hkx hlo
        refine wp_region_quiet_below (by kernel_rfl) (by kernel_rfl) ?_
        repeat (go_big_quiet_step (fail))
        refine wpQuiet_nil ?_
        intro _ hw'
        obtain ⟨⟨dq, osq⟩, hw''⟩ := hw'
        subst hw''
        have hgd := regrown_grown wb dq osq
        generalize grow (redrawn wb dq) osq = w3 at *
        have HJ4 := Lib.hid (MkOf.grow HJ3.out hgd)
        obtain ⟨kb0, kb1, kb2, kb3, kb4, kb5, kb6, kb7, kb8, kb9⟩ := (HBx.out.grow hgd).all
        clear hgd
        go_wp2_with (at_builtin; refine wpList_epush w3 rfl _ _ rfl w.heap.size _ [] x (by rfl) HJ4.out.own w3.heap.size _ (by rfl) rfl (by simp) HJ4.out.grown.size ?_; intro g8 cap8 w8 hown8 hg8; have HJ8 := Lib.hid (MkOf.app HJ4.out hg8 hown8); clear hown8 hg8)
        go_roundw
        case rel => exact ⟨q + 1, by omega, by go_num, by rw [HNx.out]; exact HJ8⟩
        case measure => simp [intOf]; omega
      · rw [List.concat_eq_append] at *
        have hal : (A ++ [y]).length = A.length + 1 := by simp
        rw [hal] at hln hlo
        obtain ⟨g1, c1, hvf⟩ := OwnOf.there HJ.out.own (by omega)
        rw [hal] at hvf
        subst hvf
        have hgy : GoodE y := (rf_good hrt y (by simp)).1
        have hown : EOwn (wr.alloc (.cells #[.int .i64 x.s, .int .i64 x.e, .int .i64 x.f, .int .i64 x.o, .bool x.sh, .int .i64 x.p, .int .i64 x.m, .int .i64 x.i, .int .i64 x.a, .bool x.wi] 50)) w.heap.size (.slice (some ⟨g1, 0, none⟩) (A ++ [y]).length c1) (A ++ [y]) := by rw [hal]; exact HJ2.own
        have hat := own_en hown (j := A.length) (x := y) (by simp)
        obtain ⟨d, hd⟩ : ∃ d, goesB y x = d := ⟨_, rfl⟩
        have hcon := fun W => joins_ok y x hgy hgx W
        rw [hd] at hcon
        have hd2 := Lib.hid hd
        clear hx hN hgx hrt hln hO HJ hown hgy hd
        go_upto_region 6 with fail
        generalize hwb : wr.alloc (.cells #[.int .i64 x.s, .int .i64 x.e, .int .i64 x.f, .int .i64 x.o, .bool x.sh, .int .i64 x.p, .int .i64 x.m, .int .i64 x.i, .int .i64 x.a, .bool x.wi] 50) = wb at *
        have HJ3 := Lib.hid HJ2
        have HBx := Lib.hid hbx
        have b0 : decide ((A.length : Int) ≥ 0) = true := by simp
        have h0 : (0 : Int) ≤ (A.length : Int) := by omega
        have h1 : (A.length : Int) < (A.length : Int) + 1 := by omega
        have hcG := Calls.regrown_g (w := wb) fun W _ => hcon W
        obtain ⟨m0, m1, m2, m3, m4, m5, m6, m7, m8, m9⟩ := hat
        obtain ⟨k0, k1, k2, k3, k4, k5, k6, k7, k8, k9⟩ := hkx
        have r0 := cell_regrown k0
        have r1 := cell_regrown k1
        have r2 := cell_regrown k2
        have r3 := cell_regrown k3
        have r4 := cell_regrown k4
        have r5 := cell_regrown k5
        have r6 := cell_regrown k6
        have r7 := cell_regrown k7
        have r8 := cell_regrown k8
        have r9 := cell_regrown k9
        have t0 := cell_regrown m0
        have t1 := cell_regrown m1
        have t2 := cell_regrown m2
        have t3 := cell_regrown m3
        have t4 := cell_regrown m4
        have t5 := cell_regrown m5
        have t6 := cell_regrown m6
        have t7 := cell_regrown m7
        have t8 := cell_regrown m8
        have t9 := cell_regrown m9
        clear hwb HJ2 hbx hcon
        refine wp_region_quiet_below (by kernel_rfl) (by kernel_rfl) ?_
        repeat (go_big_quiet_step (first | exact hcG _ _ | fail))
        refine wpQuiet_nil ?_
        intro _ hw'
        obtain ⟨⟨dq, osq⟩, hw''⟩ := hw'
        subst hw''
        have hgd := regrown_grown wb dq osq
        clear r0 r1 r2 r3 r4 r5 r6 r7 r8 r9 t0 t1 t2 t3 t4 t5 t6 t7 t8 t9 hcG
        generalize grow (redrawn wb dq) osq = w3 at *
        have HJ4 := Lib.hid (MkOf.grow HJ3.out hgd)
        have hown4 : EOwn w3 w.heap.size (.slice (some ⟨g1, 0, none⟩) (A ++ [y]).length c1) (A ++ [y]) := by rw [hal]; exact HJ4.out.own
        have hfz := OwnOf.frozen hown4 (A.length * 10 + 1)
        have n1 := (own_en hown4 (j := A.length) (x := y) (by simp)).c1
        obtain ⟨kb0, kb1, kb2, kb3, kb4, kb5, kb6, kb7, kb8, kb9⟩ := (HBx.out.grow hgd).all
        clear hgd k0 k1 k2 k3 k4 k5 k6 k7 k8 k9 m0 m1 m2 m3 m4 m5 m6 m7 m8 m9 hown4
        cases d with
        | true =>
          rw [stepM_on hd2.out] at HNx
          have HJ5 := Lib.hid (show EMk w (w3.setCell ⟨g1, A.length * 10 + 1, none⟩ (.int .i64 x.e)) (.slice (some ⟨g1, 0, none⟩) (A.length + 1) c1) (A ++ [longE y x.e]) from
            ⟨grown_at HJ4.out.grown (grown_set _ _ _ _) (HJ4.out.own.lt (g := g1) rfl).1, EOwn.longer HJ4.out.own x.e⟩)
          go_wp2_with fail
          go_roundw
          case rel => exact ⟨q + 1, by omega, by go_num, by rw [HNx.out]; exact HJ5⟩
          case measure => simp [intOf]; omega
        | false =>
          rw [stepM_new hd2.out] at HNx
          have hown5 : EOwn w3 w.heap.size (.slice (some ⟨g1, 0, none⟩) (A.length + 1) c1) (A ++ [y]) := HJ4.out.own
          have HO5 := Lib.hid hown5
          clear hown5 n1 hfz
          go_wp2_with (at_builtin; refine wpList_epush w3 rfl _ _ rfl w.heap.size _ (A ++ [y]) x (by rfl) HO5.out w3.heap.size _ (by rfl) rfl (by rw [hal]; omega) HJ4.out.grown.size ?_; intro g8 cap8 w8 hown8 hg8; have HJ8 := Lib.hid (MkOf.app HJ4.out hg8 hown8); clear hown8 hg8)
          go_roundw
          case rel => exact ⟨q + 1, by omega, by go_num, by rw [HNx.out]; rw [hal] at HJ8; exact HJ8⟩
          case measure => simp [intOf]; omega
    · obtain rfl : q = L.length := by omega
      rw [List.take_length, fold_merge] at HJ
      obtain ⟨va, vc, hvf⟩ := OwnOf.form HJ.out.own
      subst hvf
      go_wp2_with fail
      go_ret
      exact ⟨_, rfl, HJ.out.own, HJ.out.grown⟩
set_option maxRecDepth 100000 in
set_option maxHeartbeats 4000000 in
theorem merge_ok {w : World} {s : Option Addr} {L : List En} (c : Nat) (h : ERow w (.slice s L.length c) L) (hr : RF 0 L) (hl : L.length ≤ 100000) :
    Calls Tryz.prog 161 #[.slice s L.length c] w fun e w' => ∃ u, e = .returned u ∧ EOwn w' w.heap.size u (mergeE L) ∧ w.grownBy w' none := by
  have HX := Lib.hid h
  have HR := Lib.hid hr
  have HI := Lib.hid (show EMk w w (.slice none 0 0) ((L.take 0).foldl stepM []) from MkOf.nil w)
  clear h hr
  go_enter Tryz.func161, Tryz.ntmps161
  go_wp2_with fail
  go_loopw [3, 9] (fun vv iv wr => ∃ q : Nat, q ≤ L.length ∧ iv = .int .i64 q ∧ Hid (EMk w wr vv ((L.take q).foldl stepM []))) (fun _ iv _ => L.length - (intOf iv).toNat)
  case atStart => exact ⟨0, by omega, rfl, HI⟩
  case round =>
    clear HI
    obtain ⟨q, hq, rfl, HJ⟩ := hrel
    by_cases hlt : q < L.length
    · obtain ⟨x, hx⟩ : ∃ x, L[q]? = some x := ⟨_, List.getElem?_eq_getElem hlt⟩
      obtain ⟨g, o, c1, hv1, ka0, ka1, ka2, ka3, ka4, ka5, ka6, ka7, ka8, ka9⟩ := en_cells (erow_grow HX.out HJ.out.grown) hx
      injection hv1 with e1 e2 e3
      subst e1 e3
      have hgx := rf_at HR.out hx
      have hN := fold_take hx
      have hrt : RF 0 ((L.take q).foldl stepM []) := by rw [fold_merge]; exact rf_merge (rf_sub HR.out (List.take_sublist _ _))
      have hln := fold_len (L.take q) []
      rw [List.length_take, List.length_nil] at hln
      have hkx := (EnB.new wr x).all
      have hbx := EnB.new wr x
      obtain ⟨O, hO⟩ : ∃ O, (L.take q).foldl stepM [] = O := ⟨_, rfl⟩
      rw [hO] at hN hrt hln HJ
      have HJ2 : EMk w (wr.alloc (.cells #[.int .i64 x.s, .int .i64 x.e, .int .i64 x.f, .int .i64 x.o, .bool x.sh, .int .i64 x.p, .int .i64 x.m, .int .i64 x.i, .int .i64 x.a, .bool x.wi] 50)) _ O := MkOf.grow HJ.out (grown_box wr x)
      have hlo : O.length ≤ 100000 := by omega
      have HNx := Lib.hid hN
      have HGx := Lib.hid hgx
      rcases List.eq_nil_or_concat O with rfl | ⟨A, y, rfl⟩
      · obtain ⟨va, vc, hvf⟩ := OwnOf.form HJ.out.own
        subst hvf
        clear hx hN hgx hrt hln hO HJ
        go_upto_region 6 with fail
        generalize hwb : wr.alloc (.cells #[.int .i64 x.s, .int .i64 x.e, .int .i64 x.f, .int .i64 x.o, .bool x.sh, .int .i64 x.p, .int .i64 x.m, .int .i64 x.i, .int .i64 x.a, .bool x.wi] 50) = wb at *
        have HJ3 := Lib.hid HJ2
        have HBx := Lib.hid hbx
        have b0 : decide ((0 : Int) - 1 ≥ 0) = false := by decide
        have b0' : decide ((-1 : Int) ≥ 0) = false := by decide
        clear hwb HJ2 hbx hkx hlo
        refine wp_region_quiet_below (by kernel_rfl) (by kernel_rfl) ?_
        repeat (go_big_quiet_step (fail))
        refine wpQuiet_nil ?_
        intro _ hw'
        obtain ⟨⟨dq, osq⟩, hw''⟩ := hw'
        subst hw''
        have hgd := regrown_grown wb dq osq
        generalize grow (redrawn wb dq) osq = w3 at *
        have HJ4 := Lib.hid (MkOf.grow HJ3.out hgd)
        obtain ⟨kb0, kb1, kb2, kb3, kb4, kb5, kb6, kb7, kb8, kb9⟩ := (HBx.out.grow hgd).all
        clear hgd
        go_wp2_with (at_builtin; refine wpList_epush w3 rfl _ _ rfl w.heap.size _ [] x (by rfl) HJ4.out.own w3.heap.size _ (by rfl) rfl (by simp) HJ4.out.grown.size ?_; intro g8 cap8 w8 hown8 hg8; have HJ8 := Lib.hid (MkOf.app HJ4.out hg8 hown8); clear hown8 hg8)
        go_roundw
        case rel => exact ⟨q + 1, by omega, by go_num, by rw [HNx.out]; exact HJ8⟩
        case measure => simp [intOf]; omega
      · rw [List.concat_eq_append] at *
        have hal : (A ++ [y]).length = A.length + 1 := by simp
        rw [hal] at hln hlo
        obtain ⟨g1, c1, hvf⟩ := OwnOf.there HJ.out.own (by omega)
        rw [hal] at hvf
        subst hvf
        have hgy : GoodE y := (rf_good hrt y (by simp)).1
        have hown : EOwn (wr.alloc (.cells #[.int .i64 x.s, .int .i64 x.e, .int .i64 x.f, .int .i64 x.o, .bool x.sh, .int .i64 x.p, .int .i64 x.m, .int .i64 x.i, .int .i64 x.a, .bool x.wi] 50)) w.heap.size (.slice (some ⟨g1, 0, none⟩) (A ++ [y]).length c1) (A ++ [y]) := by rw [hal]; exact HJ2.own
        have hat := own_en hown (j := A.length) (x := y) (by simp)
        obtain ⟨d, hd⟩ : ∃ d, goesB y x = d := ⟨_, rfl⟩
        have hcon := fun W => goesOn_ok y x hgy W
        rw [hd] at hcon
        have hd2 := Lib.hid hd
        clear hx hN hgx hrt hln hO HJ hown hgy hd
        go_upto_region 6 with fail
        generalize hwb : wr.alloc (.cells #[.int .i64 x.s, .int .i64 x.e, .int .i64 x.f, .int .i64 x.o, .bool x.sh, .int .i64 x.p, .int .i64 x.m, .int .i64 x.i, .int .i64 x.a, .bool x.wi] 50) = wb at *
        have HJ3 := Lib.hid HJ2
        have HBx := Lib.hid hbx
        have b0 : decide ((A.length : Int) ≥ 0) = true := by simp
        have h0 : (0 : Int) ≤ (A.length : Int) := by omega
        have h1 : (A.length : Int) < (A.length : Int) + 1 := by omega
        have hcG := Calls.regrown_g (w := wb) fun W _ => hcon W
        obtain ⟨m0, m1, m2, m3, m4, m5, m6, m7, m8, m9⟩ := hat
        obtain ⟨k0, k1, k2, k3, k4, k5, k6, k7, k8, k9⟩ := hkx
        have r0 := cell_regrown k0
        have r1 := cell_regrown k1
        have r2 := cell_regrown k2
        have r3 := cell_regrown k3
        have r4 := cell_regrown k4
        have r5 := cell_regrown k5
        have r6 := cell_regrown k6
        have r7 := cell_regrown k7
        have r8 := cell_regrown k8
        have r9 := cell_regrown k9
        have t0 := cell_regrown m0
        have t1 := cell_regrown m1
        have t2 := cell_regrown m2
        have t3 := cell_regrown m3
        have t4 := cell_regrown m4
        have t5 := cell_regrown m5
        have t6 := cell_regrown m6
        have t7 := cell_regrown m7
        have t8 := cell_regrown m8
        have t9 := cell_regrown m9
        clear hwb HJ2 hbx hcon
        refine wp_region_quiet_below (by kernel_rfl) (by kernel_rfl) ?_
        repeat (go_big_quiet_step (first | exact hcG _ _ | fail))
        refine wpQuiet_nil ?_
        intro _ hw'
        obtain ⟨⟨dq, osq⟩, hw''⟩ := hw'
        subst hw''
        have hgd := regrown_grown wb dq osq
        clear r0 r1 r2 r3 r4 r5 r6 r7 r8 r9 t0 t1 t2 t3 t4 t5 t6 t7 t8 t9 hcG
        generalize grow (redrawn wb dq) osq = w3 at *
        have HJ4 := Lib.hid (MkOf.grow HJ3.out hgd)
        have hown4 : EOwn w3 w.heap.size (.slice (some ⟨g1, 0, none⟩) (A ++ [y]).length c1) (A ++ [y]) := by rw [hal]; exact HJ4.out.own
        have hfz := OwnOf.frozen hown4 (A.length * 10 + 1)
        have n1 := (own_en hown4 (j := A.length) (x := y) (by simp)).c1
        obtain ⟨kb0, kb1, kb2, kb3, kb4, kb5, kb6, kb7, kb8, kb9⟩ := (HBx.out.grow hgd).all
        clear hgd k0 k1 k2 k3 k4 k5 k6 k7 k8 k9 m0 m1 m2 m3 m4 m5 m6 m7 m8 m9 hown4
        cases d with
        | true =>
          rw [stepM_on hd2.out] at HNx
          have HJ5 := Lib.hid (show EMk w (w3.setCell ⟨g1, A.length * 10 + 1, none⟩ (.int .i64 x.e)) (.slice (some ⟨g1, 0, none⟩) (A.length + 1) c1) (A ++ [longE y x.e]) from
            ⟨grown_at HJ4.out.grown (grown_set _ _ _ _) (HJ4.out.own.lt (g := g1) rfl).1, EOwn.longer HJ4.out.own x.e⟩)
          go_wp2_with fail
          go_roundw
          case rel => exact ⟨q + 1, by omega, by go_num, by rw [HNx.out]; exact HJ5⟩
          case measure => simp [intOf]; omega
        | false =>
          rw [stepM_new hd2.out] at HNx
          have hown5 : EOwn w3 w.heap.size (.slice (some ⟨g1, 0, none⟩) (A.length + 1) c1) (A ++ [y]) := HJ4.out.own
          have HO5 := Lib.hid hown5
          clear hown5 n1 hfz
          go_wp2_with (at_builtin; refine wpList_epush w3 rfl _ _ rfl w.heap.size _ (A ++ [y]) x (by rfl) HO5.out w3.heap.size _ (by rfl) rfl (by rw [hal]; omega) HJ4.out.grown.size ?_; intro g8 cap8 w8 hown8 hg8; have HJ8 := Lib.hid (MkOf.app HJ4.out hg8 hown8); clear hown8 hg8)
          go_roundw
          case rel => exact ⟨q + 1, by omega, by go_num, by rw [HNx.out]; rw [hal] at HJ8; exact HJ8⟩
          case measure => simp [intOf]; omega
    · obtain rfl : q = L.length := by omega
      rw [List.take_length, fold_merge] at HJ
      obtain ⟨va, vc, hvf⟩ := OwnOf.form HJ.out.own
      subst hvf
      go_wp2_with fail
      go_ret
      exact ⟨_, rfl, HJ.out.own, HJ.out.grown⟩
end Go.Proofs.YtefiiooibbkffaaGreat
