/- Layer 17 (landed): FlatFiles, walked. Written by wip/genflfiles.py. -/
import Derived.Test.YtefiiooibbkffaaGreatFlMs
import Derived.Test.YtefiiooibbkffaaGreatFlMt
namespace Go.Proofs.YtefiiooibbkffaaGreat
open Go.ChangeShapes Go.WideShapes Go.ChangeAt Go.RowKit Go.Deep Go.Sort
set_option linter.unusedVariables false
set_option linter.unusedSimpArgs false

theorem St.procs {w0 w : World} {S : Fl} {r : Nat} {A : List (Nat × Int × Int)} (s : St w0 w S r A) (hok : SOk S) : Calls Tryz.prog 20 #[.pointer (some ⟨r, 0, none⟩)] w fun e w' => ∃ u, e = .returned u ∧ RowOf zCells 1 w' u (sortI (S.ps.map (·.1))) ∧ (∀ b, u.ownBlock = some b → w.heap.size ≤ b) ∧ w.grownBy w' none := by
  obtain ⟨kd, h, f, -, -⟩ := s
  exact fprocs_ok f hok
theorem ok17 {n : Int} (h : okI n) : OkO (o17 n) := ⟨(show okI 17 from ⟨by decide, by decide⟩), ok0, ok0, h, ok0, (show okI 1 from ⟨by decide, by decide⟩), ok0, ok0, ok0, ok0, ok0, ok0⟩
theorem ok15 {pg a v : Int} (h0 : okI pg) (h1 : okI a) (h2 : okI v) : OkO (o15 pg a v) := ⟨(show okI 15 from ⟨by decide, by decide⟩), ok0, ok0, ok0, ok0, (show okI 1 from ⟨by decide, by decide⟩), h0, ok0, h1, h2, ok0, ok0⟩
theorem ok16 {pg a : Int} (h0 : okI pg) (h1 : okI a) : OkO (o16 pg a) := ⟨(show okI 16 from ⟨by decide, by decide⟩), ok0, ok0, ok0, ok0, (show okI 1 from ⟨by decide, by decide⟩), h0, ok0, h1, ok0, ok0, ok0⟩
theorem no17 {n : Int} : lightP (o17 n) := fun h => by rcases h with h | h <;> cases h
theorem no15 {pg a v : Int} : lightP (o15 pg a v) := fun h => by rcases h with h | h <;> cases h
theorem no16 {pg a : Int} : lightP (o16 pg a) := fun h => by rcases h with h | h <;> cases h
theorem si17 {S : Fl} {j : Nat} {n m : Int} (h : SI S j m) (h0 : 0 ≤ m) (h1 : m ≤ 490) : SI (S.act (o17 n)).S (j + 1) m := by
  have := h.act (o := o17 n) h0 h1
  rw [show pgO (o17 n) = 0 by unfold pgO o17; simp, Int.add_zero] at this
  exact this
theorem si15 {S : Fl} {j : Nat} {pg a v m : Int} (h : SI S j m) (h0 : 0 ≤ m) (h1 : m ≤ 490) : SI (S.act (o15 pg a v)).S (j + 1) m := by
  have := h.act (o := o15 pg a v) h0 h1
  rw [show pgO (o15 pg a v) = 0 by unfold pgO o15; simp, Int.add_zero] at this
  exact this
set_option maxRecDepth 100000 in
set_option maxHeartbeats 64000000 in
theorem files_walk {W : World} {s0 : Option Addr} {l0 c0 : Nat} {A0 : List FOp} (act0 : OpsAre W s0 l0 A0) (pg a v : Int) (hpg : okI pg) (ha : okI a) (hv : okI v) :
    Calls Tryz.prog 8 #[.slice s0 l0 c0, .agg #[.int .i64 pg, .int .i64 a], .int .i64 v] W fun e w' => e = .returned (.bool true) ∧ W.grownBy w' none := by
  have HLv := Lib.hid (fun wx => lives_ok wx)
  have gB := World.grownBy_alloc W (.cells #[.int .i64 pg, .int .i64 a] 63) none
  have z0 : (W.alloc (.cells #[.int .i64 pg, .int .i64 a] 63)).cell? ⟨W.heap.size, 0, none⟩ = some (.int .i64 pg) := by rw [cell_of_row _ _ _ _ _ _ (heap_alloc_new W _)]; rfl
  have z1 : (W.alloc (.cells #[.int .i64 pg, .int .i64 a] 63)).cell? ⟨W.heap.size, 1, none⟩ = some (.int .i64 a) := by rw [cell_of_row _ _ _ _ _ _ (heap_alloc_new W _)]; rfl
  have HGB := Lib.hid (grown_trans gB (grown_drew1 _))
  have HL0 := Lib.hid (light_ok (c := c0) (act0.grow HGB.out) 30 (by omega) (by omega))
  have HW := Lib.hid (fun w (g : W.grownBy w none) h1 h2 h3 => world_ok (w := w) (c := c0) (act0.grow g) h1 h2 h3)
  have HPg := Lib.hid hpg
  have HAo := Lib.hid ha
  have HVo := Lib.hid hv
  clear act0 hpg ha hv gB
  go_enter Tryz.func8, Tryz.ntmps8
  go_upto_region 1 with fail
  go_region
  clear z0 z1
  go_wp2_with fail
  refine HL0.out.mono ?_
  rintro e w1 ⟨b0, rfl, g1, hb0⟩
  have HG1 := Lib.hid (grown_trans HGB.out g1)
  clear g1 HL0 HGB
  cases b0 with
  | false =>
    clear hb0
    go_wp2_with fail
    refine (HLv.out _).mono ?_
    rintro e1 wl ⟨rfl, gl⟩
    have HGl := Lib.hid (grown_trans HG1.out gl)
    clear gl
    go_wp2_with fail
    go_ret
    exact ⟨rfl, HGl.out⟩
  | true =>
    obtain ⟨h01, h02, h03⟩ := hb0 rfl
    clear hb0
    by_cases p0 : pg < 0
    · have b0 : decide (pg < 0) = true := decide_eq_true p0
      clear p0 HW h01 h02 h03
      go_wp2_with fail
      refine (HLv.out _).mono ?_
      rintro e1 wl ⟨rfl, gl⟩
      have HGl := Lib.hid (grown_trans HG1.out gl)
      clear gl
      go_wp2_with fail
      go_ret
      exact ⟨rfl, HGl.out⟩
    have b0 : decide (pg < 0) = false := decide_eq_false p0
    by_cases p1 : pg > 2
    · have b1 : decide (pg > 2) = true := decide_eq_true p1
      clear p0 p1 HW h01 h02 h03
      go_wp2_with fail
      refine (HLv.out _).mono ?_
      rintro e1 wl ⟨rfl, gl⟩
      have HGl := Lib.hid (grown_trans HG1.out gl)
      clear gl
      go_wp2_with fail
      go_ret
      exact ⟨rfl, HGl.out⟩
    have b1 : decide (pg > 2) = false := decide_eq_false p1
    have p0' : 0 ≤ pg := by omega
    have p1' : pg ≤ 2 := by omega
    clear p0 p1
    have HWo := Lib.hid (HW.out w1 HG1.out (by omega) h02 h03)
    have HSi := Lib.hid (show SI (runF (newF [3, 2]) A0) 30 200 by
      have h1 := si_new.run (Int.le_refl _) (os := A0) (by omega) A0.length (Nat.le_refl _)
      rw [List.take_length] at h1
      exact h1.mono (by omega) (by omega))
    have HIv := Lib.hid (show Iv (runF (newF [3, 2]) A0) by
      have h1 := iv_new.run si_new (Int.le_refl _) (os := A0) (by omega) A0.length (Nat.le_refl _)
      rw [List.take_length] at h1
      exact h1)
    obtain ⟨S1, hS1⟩ : ∃ S1, runF (newF [3, 2]) A0 = S1 := ⟨_, rfl⟩
    rw [hS1] at HWo HSi HIv
    clear hS1 HW h01 h02 h03
    go_wp2_with fail
    refine HWo.out.mono ?_
    rintro e w3 ⟨r, kd3, h3, rfl, k3, cc3⟩
    have HS3 := Lib.hid (show St w1 w3 S1 r [] from ⟨kd3, h3, k3, (fun a ha => by cases ha), cc3⟩)
    clear k3 cc3 HWo
    obtain ⟨s1, s2, s3⟩ := size_act (S := S1) (n := 3) HIv.out.sz (by omega) (by omega)
    have d1 := fun (w1 : World) kd h (k : FW w1 kd 0 r h S1) => do_all k HSi.out (by omega) (by omega) (by omega) (o17 3) (ok17 ⟨by decide, by decide⟩) no17
    rw [s1, s2] at d1
    have HSi1 := Lib.hid (si17 (n := 3) HSi.out (by omega) (by omega))
    have HIv1 := Lib.hid (HIv.out.act (o := o17 3) HSi.out (by omega))
    have h3 := (sized_at (S := S1) HIv.out.sz 3).2
    rw [← s3] at h3
    obtain ⟨T1, hT1⟩ : ∃ T1, (S1.act (o17 3)).S = T1 := ⟨_, rfl⟩
    rw [hT1] at d1 HSi1 HIv1 h3
    have H31 := Lib.hid h3
    have HDo := Lib.hid (HS3.out.run fun kd h k => d1 _ kd h k)
    simp only [o17] at HDo
    clear d1 s1 s2 s3 hT1 h3 HS3 HSi HIv
    go_wp2_with fail
    refine HDo.out.mono ?_
    rintro e w4 ⟨rfl, hs4⟩
    have HS4 := Lib.hid hs4
    have hfd := ans_err w4 0 0
    clear hs4 HDo
    -- put
    have HPa := Lib.hid (put_act (S := T1) (pg := pg) (a := a) (v := v) HIv1.out.sz H31.out p0' p1')
    have HDo := Lib.hid (HS4.out.step (S' := (T1.act (o15 pg a v)).S) fun kd h k => do_all k HSi1.out (by omega) (by omega) (by omega) (o15 pg a v) (ok15 HPg.out HAo.out HVo.out) no15)
    have HSi2 := Lib.hid (si15 (pg := pg) (a := a) (v := v) HSi1.out (by omega) (by omega))
    have HIv2 := Lib.hid (HIv1.out.act (o := o15 pg a v) HSi1.out (by omega))
    have HLn := Lib.hid HS4.out.lens
    generalize (T1.act (o15 pg a v)).S = T2 at *
    generalize (T1.act (o15 pg a v)).e = er at *
    generalize T1.doN (o15 pg a v) = nr at *
    simp only [o15] at HDo
    clear HS4
    go_wp2_with fail
    refine HDo.out.mono ?_
    rintro e w5 ⟨rfl, hs5⟩
    have HS5 := Lib.hid (hs5 er nr)
    have a0 := (HS5.out.at (a := (w5.heap.size, er, nr)) (by simp)).1
    clear hs5 HDo
    rcases HPa.out with rfl | ⟨rfl, hma, hmv, b, hbl, hT2⟩
    · have HG5 := Lib.hid (grown_trans HG1.out HS5.out.grown)
      clear HPa HS5
      go_wp2_with fail
      refine (HLv.out _).mono ?_
      rintro e1 wl ⟨rfl, gl⟩
      have HGl := Lib.hid (grown_trans HG5.out gl)
      clear gl
      go_wp2_with fail
      go_ret
      exact ⟨rfl, HGl.out⟩
    have hsz2 : T2.sz.getD 0 0 = 3 := by rw [hT2]; exact H31.out
    have hge : geA T2.F (1, pg) = some (withB b a v) := by rw [hT2]; show geA (puA T1.F (1, pg) _) (1, pg) = _; rw [geA_put, if_pos rfl]
    have hat : atB (geA T2.F (1, pg)) a = v := by rw [hge]; exact atB_with (fun l hl => hbl l hl HLn.out.f) hma hmv
    have HMa := Lib.hid hma
    have H32 := Lib.hid hsz2
    have HAt := Lib.hid hat
    clear hma hmv hbl hT2 hsz2 hge hat HPa HLn HSi1 HIv1 H31
    -- get
    obtain ⟨g1, g2, -⟩ := get_act (S := T2) (pg := pg) (a := a) HIv2.out.sz HMa.out p0'
    obtain ⟨g3, g4⟩ := g2 (by rw [H32.out]; omega)
    have d2 := fun (w1 : World) kd h (k : FW w1 kd 0 r h T2) => do_all k HSi2.out (by omega) (by omega) (by omega) (o16 pg a) (ok16 HPg.out HAo.out) no16
    rw [g1, g3, g4, HAt.out] at d2
    have HDo := Lib.hid (HS5.out.step fun kd h k => d2 _ kd h k)
    simp only [o16] at HDo
    clear d2 g1 g2 g3 g4 a0
    go_wp2_with fail
    refine HDo.out.mono ?_
    rintro e w6 ⟨rfl, hs6⟩
    have HS6 := Lib.hid (hs6 0 v)
    have a0 := (HS6.out.at (a := (w6.heap.size, 0, v)) (by simp)).2
    clear hs6 HDo HS5
    have HOk := Lib.hid (HSi2.out.ok (by omega) (by omega))
    have HPr := Lib.hid (HS6.out.procs HOk.out)
    have HPl := Lib.hid (show (sortI (T2.ps.map (·.1))).length ≤ 16 by rw [sortI_length, List.length_map]; exact HOk.out.pl)
    have HMem := Lib.hid (show ∀ id, id ∈ sortI (T2.ps.map (·.1)) → okI id ∧ ∃ p, geA T2.ps id = some p from fun id hid => by
      have h1 := mem_sortI.1 hid
      obtain ⟨q, hq, rfl⟩ := List.mem_map.1 h1
      obtain ⟨p, hp⟩ := Option.isSome_iff_exists.1 (geA_isSome.2 h1)
      exact ⟨HSi2.out.ps.io q hq, p, hp⟩)
    obtain ⟨I, hI⟩ : ∃ I, sortI (T2.ps.map (·.1)) = I := ⟨_, rfl⟩
    rw [hI] at HPr HPl HMem
    clear hI
    go_wp2_with fail
    refine HPr.out.mono ?_
    rintro e w7 ⟨u7, rfl, k7, -, g7⟩
    obtain ⟨s7, c7, hvf⟩ := rowOf_form k7
    subst hvf
    have HR7 := Lib.hid k7
    have HS7 := Lib.hid (HS6.out.grow g7)
    have hIl : I.length ≤ 16 := HPl.out
    clear k7 g7 HPr a0 HS6
    go_wp2_with fail
    go_loopw [71] (fun iv wr => ∃ q : Nat, q ≤ I.length ∧ iv = .int .i64 q ∧ Hid (St w1 wr T2 r [(w6.heap.size, 0, v), (w5.heap.size, 0, nr)]) ∧ Hid (w7.grownBy wr none)) (fun iv _ => I.length - (intOf iv).toNat)
    case atStart => exact ⟨0, by omega, rfl, HS7, Lib.hid (grown_refl _ _)⟩
    case round =>
      obtain ⟨q, hq, rfl, HSq, HGq⟩ := hrel
      clear HS7
      by_cases hlt : q < I.length
      · obtain ⟨id, hid⟩ : ∃ id, I[q]? = some id := ⟨_, List.getElem?_eq_getElem hlt⟩
        obtain ⟨g, o, c', hv, hc⟩ := RowOf.at z_len (rowOf_grow HR7.out HGq.out) hid
        have kc := hc 0 _ rfl
        injection hv with e1 e2 e3
        subst e1 e3
        obtain ⟨hio, p, hp⟩ := HMem.out id (List.mem_of_getElem? hid)
        have HEn := Lib.hid (HSq.out.entries HOk.out hio hp)
        have hLI := (HSi2.out.ps.pr _ (geA_some hp)).1
        have HPp := Lib.hid hp
        have HIo := Lib.hid hio
        have HML := Lib.hid hLI.mp
        have hln : p.L.length ≤ 700 := by
          have h2 := len_sum _ hLI.mp.rf
          have h3 := hLI.sm
          simp only at h2 h3
          omega
        clear hid hc hio hp hLI
        simp only [Nat.mul_one, Nat.add_zero] at kc
        obtain ⟨L, hL⟩ : ∃ L, p.L = L := ⟨_, rfl⟩
        rw [hL] at HEn hln HML
        have HLe := Lib.hid hL
        clear hL
        go_wp2_with fail
        refine HEn.out.mono ?_
        rintro e w8 ⟨u8, rfl, k8, g8⟩
        obtain ⟨s8, c8, hvf⟩ := OwnOf.form k8
        subst hvf
        have HR8 := Lib.hid (eown_row k8)
        have HS8 := Lib.hid (HSq.out.grow g8)
        have HG8 := Lib.hid (grown_trans HGq.out g8)
        clear k8 g8 HEn kc HSq HGq
        go_wp2_with fail
        go_loopw [79] (fun iv wr => ∃ i : Nat, i ≤ L.length ∧ iv = .int .i64 i ∧ Hid (St w1 wr T2 r [(w6.heap.size, 0, v), (w5.heap.size, 0, nr)]) ∧ Hid (w8.grownBy wr none)) (fun iv _ => L.length - (intOf iv).toNat)
        case atStart => exact ⟨0, by omega, rfl, HS8, Lib.hid (grown_refl _ _)⟩
        case round =>
          obtain ⟨i, hi, rfl, HSi8, HGi8⟩ := hrel
          clear HS8
          by_cases hlt2 : i < L.length
          · obtain ⟨x, hx⟩ : ∃ x, L[i]? = some x := ⟨_, List.getElem?_eq_getElem hlt2⟩
            obtain ⟨g, o, c2, hv, ka⟩ := en_cells (erow_grow HR8.out HGi8.out) hx
            obtain ⟨ka0, ka1, ka2, ka3, ka4, ka5, ka6, ka7, ka8, ka9⟩ := ka
            injection hv with e1 e2 e3
            subst e1 e3
            have gx := World.grownBy_alloc wr (.cells #[.int .i64 x.s, .int .i64 x.e, .int .i64 x.f, .int .i64 x.o, .bool x.sh, .int .i64 x.p, .int .i64 x.m, .int .i64 x.i, .int .i64 x.a, .bool x.wi] 50) none
            have HSx := Lib.hid (HSi8.out.grow gx)
            have HGx := Lib.hid (grown_trans HGi8.out gx)
            obtain ⟨y0, y1, y2, y3, y4, -⟩ := (EnB.new wr x).all
            have hmem := List.mem_of_getElem? hx
            have hgx := (rf_good HML.out.rf x hmem).1
            obtain ⟨k1, k2, k3, k4, k5⟩ : 0 ≤ x.s ∧ x.s ≤ 67108864 ∧ 0 ≤ x.o ∧ x.o ≤ 67108864 ∧ 0 ≤ x.e := by
              have := hgx.s0
              have := hgx.lt
              have := hgx.e1
              have := hgx.o0
              have h9 := hgx.oz
              have h8 := hgx.oe
              have h7 := hgx.f0
              by_cases hf : x.f = 0
              · have := h9 hf; omega
              · have := h8 (by omega); omega
            obtain ⟨n, hn⟩ : ∃ n, x.s + pg - x.o = n := ⟨_, rfl⟩
            have HNe := Lib.hid hn
            have HMx := Lib.hid hmem
            clear hx hmem hgx gx
            by_cases q1 : x.sh = true
            · by_cases q2 : x.f = 1
              · have c2 : (x.f != 1) = false := by simpa using q2
                by_cases q3 : n < x.s
                · have c3 : decide (n < x.s) = true := decide_eq_true q3
                  have HQ1 := Lib.hid q1
                  have c1 : (!x.sh) = false := by rw [q1]; rfl
                  clear q1 q2 q3
                  go_wp2_with fail
                  go_roundw
                  case rel => exact ⟨i + 1, by omega, by go_num, HSx, HGx⟩
                  case measure => simp [intOf]; omega
                · have c3 : decide (n < x.s) = false := decide_eq_false q3
                  by_cases q4 : n ≥ x.e
                  · have c4 : decide (n ≥ x.e) = true := decide_eq_true q4
                    have c1 : (!x.sh) = false := by rw [q1]; rfl
                    clear q1 q2 q3 q4
                    go_wp2_with fail
                    go_roundw
                    case rel => exact ⟨i + 1, by omega, by go_num, HSx, HGx⟩
                    case measure => simp [intOf]; omega
                  · have c4 : decide (n ≥ x.e) = false := decide_eq_false q4
                    have hsn := seen (S := T2) HIv2.out H32.out p0' p1' HPp.out (by rw [HLe.out]; exact HML.out) (e := x) (by rw [HLe.out]; exact HMx.out) q1 q2 (by omega) (by omega) HMa.out
                    rw [hn, HAt.out] at hsn
                    have HBy := Lib.hid (HSx.out.byte HOk.out id n a HIo.out hsn)
                    have c1 : (!x.sh) = false := by rw [q1]; rfl
                    clear q1 q2 q3 q4 hsn
                    go_wp2_with fail
                    refine HBy.out.mono ?_
                    rintro e1 w9 ⟨rfl, g9⟩
                    have HS9 := Lib.hid (HSx.out.grow g9)
                    have HG9 := Lib.hid (grown_trans HGx.out g9)
                    clear g9 HBy HSx HGx HSi8 HGi8 ka0 ka1 ka2 ka3 ka4 ka5 ka6 ka7 ka8 ka9 y0 y1 y2 y3 y4
                    go_wp2_with fail
                    go_roundw
                    case rel => exact ⟨i + 1, by omega, by go_num, HS9, HG9⟩
                    case measure => simp [intOf]; omega
              · have c2 : (x.f != 1) = true := by simpa using q2
                have c1 : (!x.sh) = false := by rw [q1]; rfl
                clear q1 q2
                go_wp2_with fail
                go_roundw
                case rel => exact ⟨i + 1, by omega, by go_num, HSx, HGx⟩
                case measure => simp [intOf]; omega
            · have c1 : (!x.sh) = true := by simpa using q1
              clear q1
              go_wp2_with fail
              go_roundw
              case rel => exact ⟨i + 1, by omega, by go_num, HSx, HGx⟩
              case measure => simp [intOf]; omega
          · obtain rfl : i = L.length := by omega
            have HGo := Lib.hid (grown_trans HG8.out HGi8.out)
            clear HG8
            go_wp2_with fail
            go_roundw
            case rel => exact ⟨q + 1, by omega, by go_num, HSi8, HGo⟩
            case measure => simp [intOf]; omega
      · obtain rfl : q = I.length := by omega
        clear HR7 HGq HMem HPl hIl
        -- size, get, size, get
        obtain ⟨s1, s2, s3⟩ := size_act (S := T2) (n := pg) HIv2.out.sz p0' (by omega)
        have d1 := fun (w1 : World) kd h (k : FW w1 kd 0 r h T2) => do_all k HSi2.out (by omega) (by omega) (by omega) (o17 pg) (ok17 HPg.out) no17
        rw [s1, s2] at d1
        have HSi3 := Lib.hid (si17 (n := pg) HSi2.out (by omega) (by omega))
        have HSa := Lib.hid (sized_at (S := T2) HIv2.out.sz pg)
        have HCn := Lib.hid (cut_none (S := T2) (pg := pg) H32.out p0' p1' HIv2.out.sz)
        rw [s3] at d1 HSi3
        generalize sized T2 pg = T3 at *
        obtain ⟨g1, -, g2⟩ := get_act (S := T3) (pg := pg) (a := a) HSa.out.1 HMa.out p0'
        have g3 := g2 (by rw [HSa.out.2]; exact Int.le_refl _)
        have d2 := fun (w1 : World) kd h (k : FW w1 kd 0 r h T3) => do_all k HSi3.out (by omega) (by omega) (by omega) (o16 pg a) (ok16 HPg.out HAo.out) no16
        rw [g1, g3, show T3.doN (o16 pg a) = 0 by unfold Fl.doN; rw [g3]; rfl] at d2
        obtain ⟨t1, t2, t3⟩ := size_act (S := T3) (n := 3) HSa.out.1 (by omega) (by omega)
        have d3 := fun (w1 : World) kd h (k : FW w1 kd 0 r h T3) => do_all k HSi3.out (by omega) (by omega) (by omega) (o17 3) (ok17 ⟨by decide, by decide⟩) no17
        rw [t1, t2] at d3
        have HSi4 := Lib.hid (si17 (n := 3) HSi3.out (by omega) (by omega))
        have HSb := Lib.hid (sized_at (S := T3) HSa.out.1 3)
        rw [t3] at d3 HSi4
        generalize sized T3 3 = T4 at *
        obtain ⟨u1, u2, -⟩ := get_act (S := T4) (pg := pg) (a := a) HSb.out.1 HMa.out p0'
        obtain ⟨u3, u4⟩ := u2 (by rw [HSb.out.2]; omega)
        have d4 := fun (w1 : World) kd h (k : FW w1 kd 0 r h T4) => do_all k HSi4.out (by omega) (by omega) (by omega) (o16 pg a) (ok16 HPg.out HAo.out) no16
        rw [u1, u3, u4, HCn.out, show atB none a = 0 from rfl] at d4
        have H1 := Lib.hid (HSq.out.run fun kd h k => d1 _ kd h k)
        have H2 := Lib.hid (fun (wx : World) A (s : St w1 wx T3 r A) => s.step fun kd h k => d2 _ kd h k)
        have H3 := Lib.hid (fun (wx : World) A (s : St w1 wx T3 r A) => s.run fun kd h k => d3 _ kd h k)
        have H4 := Lib.hid (fun (wx : World) A (s : St w1 wx T4 r A) => s.step fun kd h k => d4 _ kd h k)
        simp only [o17] at H1 H3
        simp only [o16] at H2 H4
        clear d1 d2 d3 d4 s1 s2 s3 g1 g2 g3 t1 t2 t3 u1 u2 u3 u4 HSi3 HSi4 HSa HSb HCn HSi2 HIv2 H32 HAt HMa
        go_wp2_with fail
        refine H1.out.mono ?_
        rintro e w9 ⟨rfl, hs9⟩
        have HS9 := Lib.hid hs9
        clear hs9 H1 HSq
        go_wp2_with fail
        refine (H2.out _ _ HS9.out).mono ?_
        rintro e w10 ⟨rfl, hs10⟩
        have HS10 := Lib.hid (hs10 4 0)
        clear hs10 H2 HS9
        have c10 := (HS10.out.at (a := (w10.heap.size, 4, 0)) (by simp)).1
        go_wp2_with fail
        refine (H3.out _ _ HS10.out).mono ?_
        rintro e w11 ⟨rfl, hs11⟩
        have HS11 := Lib.hid hs11
        clear hs11 H3 HS10 c10
        go_wp2_with fail
        refine (H4.out _ _ HS11.out).mono ?_
        rintro e w12 ⟨rfl, hs12⟩
        have HS12 := Lib.hid (hs12 0 0)
        clear hs12 H4 HS11
        have e0 := HS12.out.at (a := (w12.heap.size, 0, 0)) (by simp)
        have e1 := HS12.out.at (a := (w10.heap.size, 4, 0)) (by simp)
        obtain ⟨f0, f1⟩ := e0
        obtain ⟨f2, f3⟩ := e1
        try simp only at f0 f1 f2 f3
        have HG12 := Lib.hid (grown_trans HG1.out HS12.out.grown)
        clear HS12
        go_wp2_with fail
        refine (HLv.out _).mono ?_
        rintro e1 wl ⟨rfl, gl⟩
        have HGl := Lib.hid (grown_trans HG12.out gl)
        clear gl
        go_wp2_with fail
        go_ret
        exact ⟨rfl, HGl.out⟩
set_option maxRecDepth 100000 in
theorem two_ofI {H : Type} {enc : TypeId × Value → H} {w w1 : World} {base b0 : Nat} {spare : Nat → Bool} {held : Bool} {r : Reach} {v : Value} {d : DataW H} {p : List MemPlace}
    (h : DataW.Trod enc Tryz.prog w base spare held 63 v d p) (hv : Value.okWide Tryz.prog w1 r b0 63 v) : ∃ x y : Int, v = .agg #[.int .i64 x, .int .i64 y] ∧ okI x ∧ okI y := by
  simp only [Value.okWide, Tryz.underlying63] at hv
  obtain ⟨cs, rfl, hsz, _⟩ := hv
  have hC : Tryz.prog.cellsOf 3 = 1 := by kernel_rfl
  have hC2 : Tryz.prog.cellsOf 63 = 2 := by kernel_rfl
  obtain ⟨fuel, hf⟩ := h
  obtain ⟨xs, m, _, _, hlen, hxs, hel⟩ := DataW.trod_array Tryz.underlying63 hf
  rw [hC2] at hsz
  simp only [Value.cells] at hel
  have h0 := hel 0 (by omega)
  have h1 := hel 1 (by omega)
  rw [hC] at h0 h1
  have e0 : xs[0]? = some (xs[0]'(by omega)) := List.getElem?_eq_getElem (by omega)
  have e1 : xs[1]? = some (xs[1]'(by omega)) := List.getElem?_eq_getElem (by omega)
  rw [e0] at h0
  rw [e1] at h1
  obtain ⟨l⟩ := cs
  obtain ⟨c0, c1, rfl⟩ : ∃ c0 c1, l = [c0, c1] := by
    have hl : l.length = 2 := by simpa using hsz
    match l, hl with
    | [a, b], _ => exact ⟨a, b, rfl⟩
  obtain ⟨a, ha, oa⟩ := int_of_trod (v := c0) Tryz.underlying3 (by simpa using h0)
  obtain ⟨b, hb, ob⟩ := int_of_trod (v := c1) Tryz.underlying3 (by simpa using h1)
  exact ⟨a, b, by rw [ha, hb], okI_wf oa, okI_wf ob⟩
theorem files_say (W : World) (s0 : Option Addr) (l0 c0 : Nat) (A0 : List FOp) (act0 : OpsAre W s0 l0 A0) (pg a v : Int) (hpg : okI pg) (ha : okI a) (hv : okI v) :
    Calls Tryz.prog 8 #[.slice s0 l0 c0, .agg #[.int .i64 pg, .int .i64 a], .int .i64 v] W fun e w' => e = .returned (.bool true) ∧ Below W.heap.size W w' := said (files_walk act0 pg a v hpg ha hv)
end Go.Proofs.YtefiiooibbkffaaGreat
