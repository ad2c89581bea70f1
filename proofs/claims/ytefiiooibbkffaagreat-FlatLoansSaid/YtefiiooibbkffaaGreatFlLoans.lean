/- Layer 17 (landed): FlatLoans, walked. -/
import Derived.Test.YtefiiooibbkffaaGreatFlMr
namespace Go.Proofs.YtefiiooibbkffaaGreat
open Go.ChangeShapes Go.WideShapes Go.ChangeAt Go.RowKit Go.Deep Go.Sort
set_option linter.unusedVariables false
set_option linter.unusedSimpArgs false

set_option maxRecDepth 100000 in
set_option maxHeartbeats 32000000 in
theorem loans_walk {W : World} {s0 s2 : Option Addr} {l0 c0 l2 c2 : Nat} {A0 A2 : List FOp} (act0 : OpsAre W s0 l0 A0) (pg : Int) (act2 : OpsAre W s2 l2 A2) (hpg : okI pg) :
    Calls Tryz.prog 10 #[.slice s0 l0 c0, .int .i64 pg, .slice s2 l2 c2] W fun e w' => e = .returned (.bool true) ∧ W.grownBy w' none := by
  have HLv := Lib.hid (fun wx => lives_ok wx)
  have HL0 := Lib.hid (light_ok (c := c0) act0 20 (by omega) (by omega))
  have HL2 := Lib.hid (fun w (g : W.grownBy w none) => light_ok (w := w) (c := c2) (act2.grow g) 20 (by omega) (by omega))
  have HW := Lib.hid (fun w (g : W.grownBy w none) h1 h2 h3 => world_ok (w := w) (c := c0) (act0.grow g) h1 h2 h3)
  have HA2 := Lib.hid act2
  have HPg := Lib.hid hpg
  have hl2 := act2.len
  clear act0 act2 hpg
  go_enter Tryz.func10, Tryz.ntmps10
  go_wp2_with fail
  refine HL0.out.mono ?_
  rintro e w1 ⟨b0, rfl, g1, hb0⟩
  have HG1 := Lib.hid g1
  clear g1 HL0
  cases b0 with
  | false =>
    clear hb0
    go_wp2_with fail
    refine (HLv.out _).mono ?_
    rintro e w2 ⟨rfl, g2⟩
    have HG2 := Lib.hid (grown_trans HG1.out g2)
    clear g2
    go_wp2_with fail
    go_ret
    exact ⟨rfl, HG2.out⟩
  | true =>
    have HB0 := Lib.hid (hb0 rfl)
    have HL2' := Lib.hid (HL2.out w1 HG1.out)
    clear hb0
    go_wp2_with fail
    refine HL2'.out.mono ?_
    rintro e w2 ⟨b2, rfl, g2, hb2⟩
    have HG2 := Lib.hid (grown_trans HG1.out g2)
    clear g2 HL2 HL2'
    cases b2 with
    | false =>
      clear hb2
      go_wp2_with fail
      refine (HLv.out _).mono ?_
      rintro e w3 ⟨rfl, g3⟩
      have HG3 := Lib.hid (grown_trans HG2.out g3)
      clear g3
      go_wp2_with fail
      go_ret
      exact ⟨rfl, HG3.out⟩
    | true =>
      have HB2 := Lib.hid (hb2 rfl)
      obtain ⟨h01, h02, h03⟩ := HB0.out
      obtain ⟨h21, h22, h23⟩ := HB2.out
      have HWo := Lib.hid (HW.out w2 HG2.out (by omega) h02 h03)
      have HSi := Lib.hid (show SI (runF (newF [3, 2]) A0) 20 200 by
        have h1 := si_new.run (Int.le_refl _) (os := A0) (by omega) A0.length (Nat.le_refl _)
        rw [List.take_length] at h1
        exact h1.mono (by omega) (by omega))
      obtain ⟨S1, hS1⟩ : ∃ S1, runF (newF [3, 2]) A0 = S1 := ⟨_, rfl⟩
      rw [hS1] at HWo HSi
      clear hb2 hS1 HW
      go_wp2_with fail
      refine HWo.out.mono ?_
      rintro e w3 ⟨r, kd3, h3, rfl, k3, cc3⟩
      have HS3 := Lib.hid (show St w2 w3 S1 r [] from ⟨kd3, h3, k3, (fun a ha => by cases ha), cc3⟩)
      have HBy := Lib.hid (fbyte_ok k3 (HSi.out.ok (by omega) (by omega)) 1 pg 5 ⟨by omega, by omega⟩)
      obtain ⟨xb, hxb⟩ : ∃ xb, (S1.byte 1 pg 5).1 = xb := ⟨_, rfl⟩
      obtain ⟨eb, heb⟩ : ∃ eb, (S1.byte 1 pg 5).2 = eb := ⟨_, rfl⟩
      rw [hxb, heb] at HBy
      have HXb := Lib.hid (show S1.byte 1 pg 5 = (xb, eb) by rw [← hxb, ← heb])
      clear k3 cc3 hxb heb HWo
      go_wp2_with fail
      refine HBy.out.mono ?_
      rintro e w4 ⟨rfl, g4⟩
      have HS4 := Lib.hid (HS3.out.grow g4)
      have HDo := Lib.hid (HS4.out.step (S' := (S1.act (o12 pg)).S) fun kd h k => do_all k HSi.out (by omega) (by omega) (by omega) (o12 pg) (by
        have z : okI 0 := ⟨by decide, by decide⟩
        exact ⟨(show okI 12 from ⟨by decide, by decide⟩), (show okI 1 from ⟨by decide, by decide⟩), HPg.out, z, z, z, z, z, z, z, z, z⟩) (fun h => by rcases h with h | h <;> cases h))
      have HLF := Lib.hid (fun he => loan_facts (S := S1) (pg := pg) he)
      have HSi2 := Lib.hid (show SI (S1.act (o12 pg)).S 21 200 by
        have := HSi.out.act (o := o12 pg) (by omega) (by omega)
        rw [show pgO (o12 pg) = 0 by unfold pgO o12; simp, Int.add_zero] at this
        exact this)
      generalize (S1.act (o12 pg)).S = S2 at *
      generalize (S1.act (o12 pg)).e = er at *
      generalize S1.doN (o12 pg) = hd at *
      simp only [o12] at HDo
      clear g4 HS3 HBy HS4
      have HHd := Lib.hid (show er = 0 → okI hd from fun he => by
        obtain ⟨b, -, -, h9⟩ := HLF.out he
        obtain ⟨i0, e0, e1, -, -⟩ := lowA_spec S1.H
        have := HSi.out.gs.hh
        exact ⟨by omega, by omega⟩)
      go_wp2_with fail
      refine HDo.out.mono ?_
      rintro e w5 ⟨rfl, hs5⟩
      have HS5 := Lib.hid (hs5 er hd)
      have a0 := (HS5.out.at (a := (w5.heap.size, er, hd)) (by simp)).1
      clear hs5 HDo
      by_cases he : er = 0
      · subst he
        obtain ⟨b, hb, hby, -⟩ := HLF.out rfl
        have hx2 := HXb.out.symm.trans hby
        injection hx2 with hx3 hx4
        subst hx4
        have HXv := Lib.hid hx3
        have HKp := Lib.hid hb
        have hho := HHd.out rfl
        have HOh := Lib.hid hho
        clear hb hby hx3 hho HLF HXb HHd
        go_wp2_with fail
        generalize w5.heap.size = y at *
        generalize hwE : w5.alloc (.cells #[.int .i64 0, .int .i64 hd] 36) = wE at *
        clear hwE a0
        have HS6 := Lib.hid (show St w2 wE (runL S2 (A2.take 0)) r [(y, 0, hd)] from HS5.out)
        go_loopw [43] (fun iv wr => ∃ q : Nat, q ≤ l2 ∧ iv = .int .i64 q ∧ Hid (St w2 wr (runL S2 (A2.take q)) r [(y, 0, hd)])) (fun iv _ => l2 - (intOf iv).toNat)
        case atStart => exact ⟨0, by omega, rfl, HS6⟩
        case round =>
          obtain ⟨q, hq, rfl, HSq⟩ := hrel
          clear HS6 HS5
          by_cases hlt : q < l2
          · obtain ⟨o, ho⟩ : ∃ o, A2[q]? = some o := ⟨_, List.getElem?_eq_getElem (by omega)⟩
            obtain ⟨g, p0, hs, ha⟩ := HA2.out.at (grown_trans HG2.out HSq.out.grown) ho
            subst hs
            obtain ⟨c0, c1, c2, c3, c4, c5, c6, c7, c8, c9, c10, c11, c12, c13⟩ := ha
            have gx := World.grownBy_alloc wr (.cells #[.int .i64 o.k, .int .i64 o.proc, .int .i64 o.addr, .int .i64 o.n, .int .i64 o.prot, .bool o.sh, .int .i64 o.file, .int .i64 o.off, .bool o.fixed, .int .i64 o.how, .int .i64 o.ati, .int .i64 o.v, .int .i64 o.hd, .int .i64 o.to] 34) none
            have hmem := List.mem_of_getElem? ho
            have hpl := pgsO_le A2 q
            have HSx := Lib.hid (HSq.out.grow gx)
            have HNx := Lib.hid (runL_next (S := S2) ho)
            have d0 := (OpB.new wr o).at.c0
            by_cases k14 : o.k = 14
            · have b14 : (o.k != 14) = false := by simpa using k14
              have HS7 := Lib.hid (show St w2 (wr.alloc (.cells #[.int .i64 o.k, .int .i64 o.proc, .int .i64 o.addr, .int .i64 o.n, .int .i64 o.prot, .bool o.sh, .int .i64 o.file, .int .i64 o.off, .bool o.fixed, .int .i64 o.how, .int .i64 o.ati, .int .i64 o.v, .int .i64 o.hd, .int .i64 o.to] 34)) (runL S2 (A2.take (q + 1))) r [(y, 0, hd)] by rw [HNx.out, if_pos k14]; exact HSx.out)
              clear k14 ho hmem hpl gx HSq HSx HNx
              go_wp2_with fail
              go_roundw
              case rel => exact ⟨q + 1, by omega, by go_num, HS7⟩
              case measure => simp [intOf]; omega
            · have b14 : (o.k != 14) = true := by simpa using k14
              have hSq := SI.runL HSi2.out (by omega) (os := A2) (by omega) q (by omega)
              have HDo := Lib.hid (HSx.out.run (S' := ((runL S2 (A2.take q)).act o).S) fun kd h k => do_all k hSq (by omega) (by omega) (by omega) o (HA2.out.ok o hmem) (h22 o hmem))
              have HNx2 := Lib.hid (show runL S2 (A2.take (q + 1)) = ((runL S2 (A2.take q)).act o).S by rw [HNx.out, if_neg k14])
              clear k14 ho hmem hpl gx HSq HSx HNx hSq
              go_wp2_with fail
              refine HDo.out.mono ?_
              rintro e w7 ⟨rfl, hs7⟩
              have HS7 := Lib.hid (show St w2 w7 (runL S2 (A2.take (q + 1))) r [(y, 0, hd)] by rw [HNx2.out]; exact hs7)
              clear hs7 HDo HNx2 c0 c1 c2 c3 c4 c5 c6 c7 c8 c9 c10 c11 c12 c13 d0
              go_wp2_with fail
              go_roundw
              case rel => exact ⟨q + 1, by omega, by go_num, HS7⟩
              case measure => simp [intOf]; omega
          · obtain rfl : q = l2 := by omega
            rw [show A2.take q = A2 from List.take_of_length_le (by omega)] at HSq
            have hK3 := runL_keeps A2 HKp.out
            have hSI3 := SI.runL HSi2.out (by omega) (os := A2) (by omega) A2.length (Nat.le_refl _)
            rw [List.take_length] at hSI3
            have HSI3 := Lib.hid (hSI3.mono (show 21 + A2.length ≤ 41 by omega) (show 200 + pgsO A2 ≤ 400 by omega))
            generalize runL S2 A2 = S3 at *
            obtain ⟨p1, p2, p3⟩ := peek_facts hK3
            obtain ⟨q1, q2, q3⟩ := back_facts hK3
            obtain ⟨z1, z2⟩ := gone_facts q3
            have ok13 : OkO (o13 hd) := by
              have z : okI 0 := ⟨by decide, by decide⟩
              exact ⟨(show okI 13 from ⟨by decide, by decide⟩), z, z, z, z, z, z, z, (show okI 5 from ⟨by decide, by decide⟩), z, HOh.out, z⟩
            have ok14 : OkO (o14 hd) := by
              have z : okI 0 := ⟨by decide, by decide⟩
              exact ⟨(show okI 14 from ⟨by decide, by decide⟩), z, z, z, z, z, z, z, z, z, HOh.out, z⟩
            have no13 : lightP (o13 hd) := fun h => by rcases h with h | h <;> cases h
            have no14 : lightP (o14 hd) := fun h => by rcases h with h | h <;> cases h
            have hSI4 : SI (S3.act (o14 hd)).S 42 400 := by
              have := HSI3.out.act (o := o14 hd) (by omega) (by omega)
              rw [show pgO (o14 hd) = 0 by unfold pgO o14; simp, Int.add_zero] at this
              exact this
            have d1 := fun (w1 : World) kd h (k : FW w1 kd 0 r h S3) => do_all k HSI3.out (by omega) (by omega) (by omega) (o13 hd) ok13 no13
            have d2 := fun (w1 : World) kd h (k : FW w1 kd 0 r h S3) => do_all k HSI3.out (by omega) (by omega) (by omega) (o14 hd) ok14 no14
            rw [p1, p2, p3, ← HXv.out] at d1
            rw [q1, q2] at d2
            obtain ⟨S4, hS4⟩ : ∃ S4, (S3.act (o14 hd)).S = S4 := ⟨_, rfl⟩
            rw [hS4] at d2 hSI4 z1 z2
            have d3 := fun (w1 : World) kd h (k : FW w1 kd 0 r h S4) => do_all k hSI4 (by omega) (by omega) (by omega) (o13 hd) ok13 no13
            rw [z1, z2] at d3
            obtain ⟨S5, hS5⟩ : ∃ S5, (S4.act (o13 hd)).S = S5 := ⟨_, rfl⟩
            rw [hS5] at d3
            have H1 := Lib.hid (fun (w1 : World) A (s : St w2 w1 S3 r A) => s.step fun kd h k => d1 w1 kd h k)
            have H2 := Lib.hid (fun (w1 : World) A (s : St w2 w1 S3 r A) => s.step fun kd h k => d2 w1 kd h k)
            have H3 := Lib.hid (fun (w1 : World) A (s : St w2 w1 S4 r A) => s.step fun kd h k => d3 w1 kd h k)
            simp only [o13] at H1 H3
            simp only [o14] at H2
            have c1 := (HSq.out.at (a := (y, 0, hd)) (by simp)).2
            try simp only at c1
            clear d1 d2 d3 hS4 hS5 hSI4 z1 z2 p1 p2 p3 q1 q2 q3 hK3 hSI3 ok13 ok14 no13 no14
            go_wp2_with fail
            refine (H1.out wr _ HSq.out).mono ?_
            rintro e w7 ⟨rfl, hs7⟩
            have HS7 := Lib.hid (hs7 0 xb)
            clear hs7 H1 c1 HSq
            have c1 := (HS7.out.at (a := (y, 0, hd)) (by simp)).2
            try simp only at c1
            go_wp2_with fail
            refine (H2.out _ _ HS7.out).mono ?_
            rintro e w8 ⟨rfl, hs8⟩
            have HS8 := Lib.hid (hs8 0 0)
            clear hs8 H2 c1 HS7
            have c1 := (HS8.out.at (a := (y, 0, hd)) (by simp)).2
            try simp only at c1
            go_wp2_with fail
            refine (H3.out _ _ HS8.out).mono ?_
            rintro e w9 ⟨rfl, hs9⟩
            have HS9 := Lib.hid (hs9 7 0)
            clear hs9 H3 c1 HS8
            have e0 := HS9.out.at (a := (w9.heap.size, 7, 0)) (by simp)
            have e1 := HS9.out.at (a := (w8.heap.size, 0, 0)) (by simp)
            have e2 := HS9.out.at (a := (w7.heap.size, 0, xb)) (by simp)
            obtain ⟨f0, f1⟩ := e0
            obtain ⟨f2, f3⟩ := e1
            obtain ⟨f4, f5⟩ := e2
            try simp only at f0 f1 f2 f3 f4 f5
            have HG9 := Lib.hid (grown_trans HG2.out HS9.out.grown)
            clear HS9
            go_wp2_with fail
            refine (HLv.out _).mono ?_
            rintro e w10 ⟨rfl, g10⟩
            have HG10 := Lib.hid (grown_trans HG9.out g10)
            clear g10
            go_wp2_with fail
            go_ret
            exact ⟨rfl, HG10.out⟩
      · have b9 : (er != 0) = true := by simpa using he
        have HG6 := Lib.hid (grown_trans HG2.out HS5.out.grown)
        clear he
        go_wp2_with fail
        refine (HLv.out _).mono ?_
        rintro e w6 ⟨rfl, g6⟩
        have HG7 := Lib.hid (grown_trans HG6.out g6)
        clear g6
        go_wp2_with fail
        go_ret
        exact ⟨rfl, HG7.out⟩
theorem loans_say (W : World) (s0 : Option Addr) (l0 c0 : Nat) (A0 : List FOp) (act0 : OpsAre W s0 l0 A0) (pg : Int) (s2 : Option Addr) (l2 c2 : Nat) (A2 : List FOp) (act2 : OpsAre W s2 l2 A2) (hpg : okI pg) :
    Calls Tryz.prog 10 #[.slice s0 l0 c0, .int .i64 pg, .slice s2 l2 c2] W fun e w' => e = .returned (.bool true) ∧ Below W.heap.size W w' := said (loans_walk act0 pg act2 hpg)
end Go.Proofs.YtefiiooibbkffaaGreat
