/- Layer 17 (landed): act of ticks, of no kind, of no process. Written by wip/genflact3.py. Layer 17: what a world of few operations keeps. Layer 17 (landed): what loadAll asks, and a row of sheets. Layer 17 (landed): loadAll. -/
import Derived.Test.YtefiiooibbkffaaGreatFlFi
import Derived.Test.YtefiiooibbkffaaGreatFlMo
import Derived.Test.YtefiiooibbkffaaGreatFlSm
namespace Go.Proofs.YtefiiooibbkffaaGreat
open Go.ChangeShapes Go.WideShapes Go.ChangeAt Go.RowKit Go.Deep Go.Sort
set_option linter.unusedVariables false
set_option linter.unusedSimpArgs false

section
variable {w w' : World} {kd kd' : Nat → Ro} {t r : Nat} {h : Gh} {S S' : Fl} {id : Int} {p : Pr}
set_option maxRecDepth 100000 in
set_option maxHeartbeats 8000000 in
theorem act_tick (k : FW w kd t r h S) (o : FOp) (hk : o.k = 19) (hi : okI o.proc) :
    Calls Tryz.prog 32 #[.pointer (some ⟨r, 0, none⟩), .agg #[.int .i64 o.k, .int .i64 o.proc, .int .i64 o.addr, .int .i64 o.n, .int .i64 o.prot, .bool o.sh, .int .i64 o.file, .int .i64 o.off, .bool o.fixed, .int .i64 o.how, .int .i64 o.ati, .int .i64 o.v, .int .i64 o.hd, .int .i64 o.to]] w fun e w' => e = .returned (.tuple #[.int .i64 0, .int .i64 0]) ∧ w.grownBy w' none := by
  cases hp : geA S.ps o.proc with
  | some p =>
    have ga := World.grownBy_alloc w (.cells #[.int .i64 o.k, .int .i64 o.proc, .int .i64 o.addr, .int .i64 o.n, .int .i64 o.prot, .bool o.sh, .int .i64 o.file, .int .i64 o.off, .bool o.fixed, .int .i64 o.how, .int .i64 o.ati, .int .i64 o.v, .int .i64 o.hd, .int .i64 o.to] 34) none
    have hB := OpB.new w o
    generalize hwB : w.alloc (.cells #[.int .i64 o.k, .int .i64 o.proc, .int .i64 o.addr, .int .i64 o.n, .int .i64 o.prot, .bool o.sh, .int .i64 o.file, .int .i64 o.off, .bool o.fixed, .int .i64 o.how, .int .i64 o.ati, .int .i64 o.v, .int .i64 o.hd, .int .i64 o.to] 34) = wB at *
    have kB := k.grow ga
    have hB2 := hB.grow (grown_drew1 wB)
    have kE := kB.grow (grown_drew1 wB)
    have k0 := kB.hw.at.1
    have hlk := kE.pm.look (geA_ids hp) hi
    have HM := Lib.hid (isMade_ok k0)
    have HG := Lib.hid (grown_trans ga (grown_drew1 wB))
    obtain ⟨c0, c1, c2, c3, c4, c5, c6, c7, c8, c9, c10, c11, c12, c13⟩ := hB.at
    obtain ⟨d0, d1, d2, d3, d4, d5, d6, d7, d8, d9, d10, d11, d12, d13⟩ := hB2.at
    rw [hk] at c0 d0
    clear k kB kE ga hB hB2 hi hp hk
    go_enter Tryz.func32, Tryz.ntmps32
    go_upto_region 1 with fail
    try simp only [hwB]
    clear hwB
    go_wp2_with fail
    refine HM.out.mono ?_
    rintro e wX ⟨rfl, eX⟩
    subst eX
    go_upto_region 3 with fail
    go_region
    clear k0 hlk c0 c1 c2 c3 c4 c5 c6 c7 c8 c9 c10 c11 c12 c13 HM
    go_wp2_with fail
    go_ret2
    exact ⟨rfl, HG.out⟩
  | none =>
    have ga := World.grownBy_alloc w (.cells #[.int .i64 o.k, .int .i64 o.proc, .int .i64 o.addr, .int .i64 o.n, .int .i64 o.prot, .bool o.sh, .int .i64 o.file, .int .i64 o.off, .bool o.fixed, .int .i64 o.how, .int .i64 o.ati, .int .i64 o.v, .int .i64 o.hd, .int .i64 o.to] 34) none
    have hB := OpB.new w o
    generalize hwB : w.alloc (.cells #[.int .i64 o.k, .int .i64 o.proc, .int .i64 o.addr, .int .i64 o.n, .int .i64 o.prot, .bool o.sh, .int .i64 o.file, .int .i64 o.off, .bool o.fixed, .int .i64 o.how, .int .i64 o.ati, .int .i64 o.v, .int .i64 o.hd, .int .i64 o.to] 34) = wB at *
    have kB := k.grow ga
    have hB2 := hB.grow (grown_drew1 wB)
    have kE := kB.grow (grown_drew1 wB)
    have k0 := kB.hw.at.1
    have hlk := kE.pm.look0 (geA_noids hp) hi
    have HM := Lib.hid (isMade_ok k0)
    have HG := Lib.hid (grown_trans ga (grown_drew1 wB))
    have HN := Lib.hid (names_ok wB.drew 19 ⟨by decide, by decide⟩)
    rw [show namesB 19 = false from rfl] at HN
    obtain ⟨c0, c1, c2, c3, c4, c5, c6, c7, c8, c9, c10, c11, c12, c13⟩ := hB.at
    obtain ⟨d0, d1, d2, d3, d4, d5, d6, d7, d8, d9, d10, d11, d12, d13⟩ := hB2.at
    rw [hk] at c0 d0
    clear k kB kE ga hB hB2 hi hp hk
    go_enter Tryz.func32, Tryz.ntmps32
    go_upto_region 1 with fail
    try simp only [hwB]
    clear hwB
    go_wp2_with fail
    refine HM.out.mono ?_
    rintro e wX ⟨rfl, eX⟩
    subst eX
    go_upto_region 3 with fail
    go_region
    clear k0 hlk c0 c1 c2 c3 c4 c5 c6 c7 c8 c9 c10 c11 c12 c13 HM
    go_wp2_with fail
    refine HN.out.mono ?_
    rintro e w4 ⟨rfl, e4⟩
    have e5 := e4.symm
    subst e5
    clear e4
    go_wp2_with fail
    go_ret2
    exact ⟨rfl, HG.out⟩
set_option maxRecDepth 100000 in
set_option maxHeartbeats 8000000 in
theorem act_inval (k : FW w kd t r h S) (o : FOp) (hk : ¬ (1 ≤ o.k ∧ o.k ≤ 20)) (hok : okI o.k) (hi : okI o.proc) :
    Calls Tryz.prog 32 #[.pointer (some ⟨r, 0, none⟩), .agg #[.int .i64 o.k, .int .i64 o.proc, .int .i64 o.addr, .int .i64 o.n, .int .i64 o.prot, .bool o.sh, .int .i64 o.file, .int .i64 o.off, .bool o.fixed, .int .i64 o.how, .int .i64 o.ati, .int .i64 o.v, .int .i64 o.hd, .int .i64 o.to]] w fun e w' => e = .returned (.tuple #[.int .i64 0, .int .i64 2]) ∧ w.grownBy w' none := by
  cases hp : geA S.ps o.proc with
  | some p =>
    have b1 : (o.k == 1) = false := by simpa using (show ¬ o.k = 1 by omega)
    have b2 : (o.k == 2) = false := by simpa using (show ¬ o.k = 2 by omega)
    have b3 : (o.k == 3) = false := by simpa using (show ¬ o.k = 3 by omega)
    have b4 : (o.k == 4) = false := by simpa using (show ¬ o.k = 4 by omega)
    have b5 : (o.k == 5) = false := by simpa using (show ¬ o.k = 5 by omega)
    have b6 : (o.k == 6) = false := by simpa using (show ¬ o.k = 6 by omega)
    have b7 : (o.k == 7) = false := by simpa using (show ¬ o.k = 7 by omega)
    have b8 : (o.k == 8) = false := by simpa using (show ¬ o.k = 8 by omega)
    have b9 : (o.k == 9) = false := by simpa using (show ¬ o.k = 9 by omega)
    have b10 : (o.k == 10) = false := by simpa using (show ¬ o.k = 10 by omega)
    have b11 : (o.k == 11) = false := by simpa using (show ¬ o.k = 11 by omega)
    have b12 : (o.k == 12) = false := by simpa using (show ¬ o.k = 12 by omega)
    have b13 : (o.k == 13) = false := by simpa using (show ¬ o.k = 13 by omega)
    have b14 : (o.k == 14) = false := by simpa using (show ¬ o.k = 14 by omega)
    have b15 : (o.k == 15) = false := by simpa using (show ¬ o.k = 15 by omega)
    have b16 : (o.k == 16) = false := by simpa using (show ¬ o.k = 16 by omega)
    have b17 : (o.k == 17) = false := by simpa using (show ¬ o.k = 17 by omega)
    have b18 : (o.k == 18) = false := by simpa using (show ¬ o.k = 18 by omega)
    have b19 : (o.k == 19) = false := by simpa using (show ¬ o.k = 19 by omega)
    have b20 : (o.k == 20) = false := by simpa using (show ¬ o.k = 20 by omega)
    have ga := World.grownBy_alloc w (.cells #[.int .i64 o.k, .int .i64 o.proc, .int .i64 o.addr, .int .i64 o.n, .int .i64 o.prot, .bool o.sh, .int .i64 o.file, .int .i64 o.off, .bool o.fixed, .int .i64 o.how, .int .i64 o.ati, .int .i64 o.v, .int .i64 o.hd, .int .i64 o.to] 34) none
    have hB := OpB.new w o
    generalize hwB : w.alloc (.cells #[.int .i64 o.k, .int .i64 o.proc, .int .i64 o.addr, .int .i64 o.n, .int .i64 o.prot, .bool o.sh, .int .i64 o.file, .int .i64 o.off, .bool o.fixed, .int .i64 o.how, .int .i64 o.ati, .int .i64 o.v, .int .i64 o.hd, .int .i64 o.to] 34) = wB at *
    have kB := k.grow ga
    have hB2 := hB.grow (grown_drew1 wB)
    have kE := kB.grow (grown_drew1 wB)
    have k0 := kB.hw.at.1
    have hlk := kE.pm.look (geA_ids hp) hi
    have HM := Lib.hid (isMade_ok k0)
    have HG := Lib.hid (grown_trans ga (grown_drew1 wB))
    obtain ⟨c0, c1, c2, c3, c4, c5, c6, c7, c8, c9, c10, c11, c12, c13⟩ := hB.at
    obtain ⟨d0, d1, d2, d3, d4, d5, d6, d7, d8, d9, d10, d11, d12, d13⟩ := hB2.at
    clear k kB kE ga hB hB2 hi hp hk
    go_enter Tryz.func32, Tryz.ntmps32
    go_upto_region 1 with fail
    try simp only [hwB]
    clear hwB
    go_wp2_with fail
    refine HM.out.mono ?_
    rintro e wX ⟨rfl, eX⟩
    subst eX
    go_upto_region 3 with fail
    go_region
    clear k0 hlk c0 c1 c2 c3 c4 c5 c6 c7 c8 c9 c10 c11 c12 c13 HM
    go_wp2_with fail
    go_ret2
    exact ⟨rfl, HG.out⟩
  | none =>
    have b1 : (o.k == 1) = false := by simpa using (show ¬ o.k = 1 by omega)
    have b2 : (o.k == 2) = false := by simpa using (show ¬ o.k = 2 by omega)
    have b3 : (o.k == 3) = false := by simpa using (show ¬ o.k = 3 by omega)
    have b4 : (o.k == 4) = false := by simpa using (show ¬ o.k = 4 by omega)
    have b5 : (o.k == 5) = false := by simpa using (show ¬ o.k = 5 by omega)
    have b6 : (o.k == 6) = false := by simpa using (show ¬ o.k = 6 by omega)
    have b7 : (o.k == 7) = false := by simpa using (show ¬ o.k = 7 by omega)
    have b8 : (o.k == 8) = false := by simpa using (show ¬ o.k = 8 by omega)
    have b9 : (o.k == 9) = false := by simpa using (show ¬ o.k = 9 by omega)
    have b10 : (o.k == 10) = false := by simpa using (show ¬ o.k = 10 by omega)
    have b11 : (o.k == 11) = false := by simpa using (show ¬ o.k = 11 by omega)
    have b12 : (o.k == 12) = false := by simpa using (show ¬ o.k = 12 by omega)
    have b13 : (o.k == 13) = false := by simpa using (show ¬ o.k = 13 by omega)
    have b14 : (o.k == 14) = false := by simpa using (show ¬ o.k = 14 by omega)
    have b15 : (o.k == 15) = false := by simpa using (show ¬ o.k = 15 by omega)
    have b16 : (o.k == 16) = false := by simpa using (show ¬ o.k = 16 by omega)
    have b17 : (o.k == 17) = false := by simpa using (show ¬ o.k = 17 by omega)
    have b18 : (o.k == 18) = false := by simpa using (show ¬ o.k = 18 by omega)
    have b19 : (o.k == 19) = false := by simpa using (show ¬ o.k = 19 by omega)
    have b20 : (o.k == 20) = false := by simpa using (show ¬ o.k = 20 by omega)
    have ga := World.grownBy_alloc w (.cells #[.int .i64 o.k, .int .i64 o.proc, .int .i64 o.addr, .int .i64 o.n, .int .i64 o.prot, .bool o.sh, .int .i64 o.file, .int .i64 o.off, .bool o.fixed, .int .i64 o.how, .int .i64 o.ati, .int .i64 o.v, .int .i64 o.hd, .int .i64 o.to] 34) none
    have hB := OpB.new w o
    generalize hwB : w.alloc (.cells #[.int .i64 o.k, .int .i64 o.proc, .int .i64 o.addr, .int .i64 o.n, .int .i64 o.prot, .bool o.sh, .int .i64 o.file, .int .i64 o.off, .bool o.fixed, .int .i64 o.how, .int .i64 o.ati, .int .i64 o.v, .int .i64 o.hd, .int .i64 o.to] 34) = wB at *
    have kB := k.grow ga
    have hB2 := hB.grow (grown_drew1 wB)
    have kE := kB.grow (grown_drew1 wB)
    have k0 := kB.hw.at.1
    have hlk := kE.pm.look0 (geA_noids hp) hi
    have HM := Lib.hid (isMade_ok k0)
    have HG := Lib.hid (grown_trans ga (grown_drew1 wB))
    have HN := Lib.hid (names_ok wB.drew o.k hok)
    rw [show namesB o.k = false by unfold namesB; rw [decide_eq_false (by omega), decide_eq_false (by omega)]; rfl] at HN
    obtain ⟨c0, c1, c2, c3, c4, c5, c6, c7, c8, c9, c10, c11, c12, c13⟩ := hB.at
    obtain ⟨d0, d1, d2, d3, d4, d5, d6, d7, d8, d9, d10, d11, d12, d13⟩ := hB2.at
    clear k kB kE ga hB hB2 hi hp hk
    go_enter Tryz.func32, Tryz.ntmps32
    go_upto_region 1 with fail
    try simp only [hwB]
    clear hwB
    go_wp2_with fail
    refine HM.out.mono ?_
    rintro e wX ⟨rfl, eX⟩
    subst eX
    go_upto_region 3 with fail
    go_region
    clear k0 hlk c0 c1 c2 c3 c4 c5 c6 c7 c8 c9 c10 c11 c12 c13 HM
    go_wp2_with fail
    refine HN.out.mono ?_
    rintro e w4 ⟨rfl, e4⟩
    have e5 := e4.symm
    subst e5
    clear e4
    go_wp2_with fail
    go_ret2
    exact ⟨rfl, HG.out⟩
set_option maxRecDepth 100000 in
set_option maxHeartbeats 8000000 in
theorem act_none (k : FW w kd t r h S) (o : FOp) (hn : namesB o.k = true) (hok : okI o.k) (hi : okI o.proc) (hp : geA S.ps o.proc = none) :
    Calls Tryz.prog 32 #[.pointer (some ⟨r, 0, none⟩), .agg #[.int .i64 o.k, .int .i64 o.proc, .int .i64 o.addr, .int .i64 o.n, .int .i64 o.prot, .bool o.sh, .int .i64 o.file, .int .i64 o.off, .bool o.fixed, .int .i64 o.how, .int .i64 o.ati, .int .i64 o.v, .int .i64 o.hd, .int .i64 o.to]] w fun e w' => e = .returned (.tuple #[.int .i64 0, .int .i64 7]) ∧ w.grownBy w' none := by
  have ga := World.grownBy_alloc w (.cells #[.int .i64 o.k, .int .i64 o.proc, .int .i64 o.addr, .int .i64 o.n, .int .i64 o.prot, .bool o.sh, .int .i64 o.file, .int .i64 o.off, .bool o.fixed, .int .i64 o.how, .int .i64 o.ati, .int .i64 o.v, .int .i64 o.hd, .int .i64 o.to] 34) none
  have hB := OpB.new w o
  generalize hwB : w.alloc (.cells #[.int .i64 o.k, .int .i64 o.proc, .int .i64 o.addr, .int .i64 o.n, .int .i64 o.prot, .bool o.sh, .int .i64 o.file, .int .i64 o.off, .bool o.fixed, .int .i64 o.how, .int .i64 o.ati, .int .i64 o.v, .int .i64 o.hd, .int .i64 o.to] 34) = wB at *
  have kB := k.grow ga
  have hB2 := hB.grow (grown_drew1 wB)
  have kE := kB.grow (grown_drew1 wB)
  have k0 := kB.hw.at.1
  have hlk := kE.pm.look0 (geA_noids hp) hi
  have HM := Lib.hid (isMade_ok k0)
  have HG := Lib.hid (grown_trans ga (grown_drew1 wB))
  have HN := Lib.hid (names_ok wB.drew o.k hok)
  rw [hn] at HN
  obtain ⟨c0, c1, c2, c3, c4, c5, c6, c7, c8, c9, c10, c11, c12, c13⟩ := hB.at
  obtain ⟨d0, d1, d2, d3, d4, d5, d6, d7, d8, d9, d10, d11, d12, d13⟩ := hB2.at
  clear k kB kE ga hB hB2 hi hp hn hok
  go_enter Tryz.func32, Tryz.ntmps32
  go_upto_region 1 with fail
  try simp only [hwB]
  clear hwB
  go_wp2_with fail
  refine HM.out.mono ?_
  rintro e wX ⟨rfl, eX⟩
  subst eX
  go_upto_region 3 with fail
  go_region
  clear k0 hlk c0 c1 c2 c3 c4 c5 c6 c7 c8 c9 c10 c11 c12 c13 HM
  go_wp2_with fail
  refine HN.out.mono ?_
  rintro e w4 ⟨rfl, e4⟩
  have e5 := e4.symm
  subst e5
  clear e4
  go_wp2_with fail
  go_ret2
  exact ⟨rfl, HG.out⟩
end
end Go.Proofs.YtefiiooibbkffaaGreat

namespace Go.Proofs.YtefiiooibbkffaaGreat
open Go.ChangeShapes Go.WideShapes Go.ChangeAt Go.RowKit
set_option linter.unusedVariables false
set_option linter.unusedSimpArgs false

theorem sumN_E : ∀ l : List En, (∀ x, x ∈ l → x.s ≤ x.e) → (sumN17 l : Int) = sumE l
  | [], _ => rfl
  | x :: r, h => by
    have ih := sumN_E r fun y hy => h y (List.mem_cons_of_mem _ hy)
    have h1 := h x (by simp)
    rw [sumE_cons, ← ih]
    unfold sumN17
    rw [List.map_cons, List.sum_cons]
    omega
theorem LI.mono {l : List En} {n m B C : Int} (h : LI l n B) (hn : n ≤ m) (hb : B ≤ C) : LI l m C := ⟨h.mp, Int.le_trans h.sm hn, fb_mono h.fb hb⟩
/-- Processes behind j operations, of n pages at most. -/
structure PSI (ps : List (Int × Pr)) (nx : Nat) (j : Nat) (n : Int) : Prop where
  pr : ∀ q, q ∈ ps → LI q.2.L n (1000 + j) ∧ q.2.A.length ≤ 500 * j
  nx : ∀ q, q ∈ ps → ∀ a, a ∈ q.2.A → a.2 < nx
  pl : ps.length ≤ 16
  io : ∀ q, q ∈ ps → okI q.1
structure GSI (S : Fl) (j : Nat) : Prop where
  hl : S.sz.length ≤ 16
  hz : ∀ n, n ∈ S.sz → okI n
  fl : S.F.length ≤ j
  r0 : 1000 ≤ S.reg
  r1 : S.reg ≤ 1000 + j
  hh : S.H.length ≤ 64
structure SI (S : Fl) (j : Nat) (n : Int) : Prop where
  ps : PSI S.ps S.nx j n
  gs : GSI S j
theorem SI.ok {S : Fl} {j : Nat} {n : Int} (h : SI S j n) (hj : j ≤ 200) (hn : n ≤ 700) : SOk S where
  hl := h.gs.hl
  hz := h.gs.hz
  pi := fun q hq => by
    obtain ⟨h1, h2⟩ := h.ps.pr q hq
    refine ⟨h1.mp, ?_, fun x hx => ?_, by omega⟩
    · have := len_sum q.2.L h1.mp.rf
      have := h1.sm
      omega
    · have := h1.fb x hx
      omega
  nx := h.ps.nx
  fl := by have := h.gs.fl; omega
  r0 := by have := h.gs.r0; omega
  r1 := by have := h.gs.r1; omega
  pl := h.ps.pl
  io := h.ps.io
  hh := h.gs.hh
theorem PSI.mono {ps : List (Int × Pr)} {nx nx2 j i : Nat} {n m : Int} (h : PSI ps nx j n) (hx : nx ≤ nx2) (hj : j ≤ i) (hn : n ≤ m) : PSI ps nx2 i m :=
  ⟨fun q hq => ⟨(h.pr q hq).1.mono hn (by omega), by have := (h.pr q hq).2; omega⟩, fun q hq a ha => Nat.lt_of_lt_of_le (h.nx q hq a ha) hx, h.pl, h.io⟩
theorem GSI.mono {S : Fl} {j i : Nat} (h : GSI S j) (hj : j ≤ i) : GSI S i := ⟨h.hl, h.hz, by have := h.fl; omega, h.r0, by have := h.r1; omega, h.hh⟩
theorem SI.mono {S : Fl} {j i : Nat} {n m : Int} (h : SI S j n) (hj : j ≤ i) (hn : n ≤ m) : SI S i m := ⟨h.ps.mono (Nat.le_refl _) hj hn, h.gs.mono hj⟩
theorem PSI.set {ps : List (Int × Pr)} {nx nx2 j i : Nat} {n m : Int} {id : Int} {p : Pr} (h : PSI ps nx j n) (hi : okI id) (hx : nx ≤ nx2) (hj : j ≤ i) (hn : n ≤ m) (hL : LI p.L m (1000 + i)) (hA : p.A.length ≤ 500 * i) (hAx : ∀ a, a ∈ p.A → a.2 < nx2) : PSI (setP ps id p) nx2 i m := by
  have h2 := h.mono hx hj hn
  refine ⟨fun q hq => ?_, fun q hq => ?_, by unfold setP; rw [List.length_map]; exact h.pl, fun q hq => ?_⟩
  · rcases mem_setP hq with ⟨-, h3⟩ | rfl
    · exact h2.pr q h3
    · exact ⟨hL, hA⟩
  · rcases mem_setP hq with ⟨-, h3⟩ | rfl
    · exact h2.nx q h3
    · exact hAx
  · rcases mem_setP hq with ⟨-, h3⟩ | rfl
    · exact h2.io q h3
    · exact hi
theorem PSI.drop {ps : List (Int × Pr)} {nx j : Nat} {n : Int} (h : PSI ps nx j n) (id : Int) : PSI (drA ps id) nx j n :=
  ⟨fun q hq => h.pr q (drA_sub hq), fun q hq => h.nx q (drA_sub hq), Nat.le_trans (List.length_filter_le _ _) h.pl, fun q hq => h.io q (drA_sub hq)⟩
theorem forget_len (S : Fl) (g : List En) : (S.forget g).F.length ≤ S.F.length := List.length_filter_le _ _
theorem forgetP_len (A : List (Int × Nat)) (g : List En) : (forgetP A g).length ≤ A.length := List.length_filter_le _ _
section
variable {S : Fl} {j : Nat} {n : Int} {p : Pr} {o : FOp}
theorem SI.proc (h : SI S j n) (hp : geA S.ps o.proc = some p) : LI p.L n (1000 + j) ∧ p.A.length ≤ 500 * j ∧ (∀ a, a ∈ p.A → a.2 < S.nx) ∧ okI o.proc := by
  have hm := geA_some hp
  exact ⟨(h.ps.pr _ hm).1, (h.ps.pr _ hm).2, h.ps.nx _ hm, h.ps.io _ hm⟩
theorem SI.turned (h : SI S j n) (hp : geA S.ps o.proc = some p) {d : Did} (hL : LI d.l n (1000 + j)) : SI (S.turned o.proc p d).S (j + 1) n := by
  obtain ⟨h1, h2, h3, h4⟩ := h.proc hp
  have g := h.gs.mono (show j ≤ j + 1 by omega)
  exact ⟨h.ps.set h4 (Nat.le_refl _) (by omega) (Int.le_refl _) (hL.mono (Int.le_refl _) (by omega)) (by show p.A.length ≤ _; omega) h3, ⟨g.hl, g.hz, g.fl, g.r0, g.r1, g.hh⟩⟩
/-- What an operation may add in pages. -/
def pgO (o : FOp) : Int := if (o.k = 1 ∨ o.k = 20) ∧ 1 ≤ o.n ∧ o.n ≤ 4096 then o.n else 0
theorem pgO_pos (o : FOp) : 0 ≤ pgO o := by unfold pgO; split <;> omega
theorem SI.went (h : SI S j n) (hp : geA S.ps o.proc = some p) {d : Did} {m : Int} (hm : n ≤ m) (hL : LI d.l m (1000 + (j + 1 : Nat))) {reg : Int} (h0 : 1000 ≤ reg) (h1 : reg ≤ 1000 + (j + 1 : Nat)) :
    SI (({ S with reg := reg } : Fl).went o.proc p d) (j + 1) m ∧ SI (S.did2 o.proc p d reg) (j + 1) m := by
  obtain ⟨g1, g2, g3, g4⟩ := h.proc hp
  have hP : PSI (setP S.ps o.proc ⟨d.l, forgetP p.A d.gone⟩) S.nx (j + 1) m := h.ps.set g4 (Nat.le_refl _) (by omega) hm hL (by have := forgetP_len p.A d.gone; show (forgetP p.A d.gone).length ≤ _; omega) fun a ha => g3 a (forgetP_sub _ _ a ha)
  have hG := h.gs
  refine ⟨⟨hP, ⟨hG.hl, hG.hz, ?_, h0, h1, hG.hh⟩⟩, ⟨hP, ⟨hG.hl, hG.hz, by have := hG.fl; show S.F.length ≤ _; omega, h0, h1, hG.hh⟩⟩⟩
  have := forget_len ({ S with ps := setP S.ps o.proc ⟨d.l, forgetP p.A d.gone⟩, reg := reg } : Fl) d.gone
  have h3 : ({ S with ps := setP S.ps o.proc ⟨d.l, forgetP p.A d.gone⟩, reg := reg } : Fl).F.length ≤ j := hG.fl
  exact Nat.le_trans this (by omega)
theorem layE_f (h : SI S j n) (ho : (decide (o.file > 0) && !hasF S.sz o.file) = false) : (layE S.reg o).f ≤ 1000 + (j + 1 : Nat) := by
  have hG := h.gs
  unfold layE
  simp only
  split
  · have := hG.r1; omega
  · by_cases hf : o.file > 0
    · rw [decide_eq_true hf, Bool.true_and] at ho
      have h2 : hasF S.sz o.file = true := by simpa using ho
      unfold hasF at h2
      rw [Bool.and_eq_true, decide_eq_true_eq, decide_eq_true_eq] at h2
      have := hG.hl
      omega
    · omega
theorem SI.lay (h : SI S j n) (hp : geA S.ps o.proc = some p) (hk : o.k = 1 ∨ o.k = 20) (hno : (decide (o.file > 0) && !hasF S.sz o.file) = false) (he : (mapV p.L o.addr (layE S.reg o) o.fixed).err = 0) :
    LI (mapV p.L o.addr (layE S.reg o) o.fixed).l (n + pgO o) (1000 + (j + 1 : Nat)) ∧ FB (1000 + (j + 1 : Nat)) (mapV p.L o.addr (layE S.reg o) o.fixed).gone := by
  obtain ⟨g1, g2, g3, g4⟩ := h.proc hp
  have hm : mayB o.addr (layE S.reg o) o.fixed = true := by
    unfold mapV at he
    by_cases e : mayB o.addr (layE S.reg o) o.fixed = true
    · exact e
    · rw [if_neg e] at he; cases he
  obtain ⟨hs, -, -⟩ := may_parts hm
  have e1 : (layE S.reg o).e - (layE S.reg o).s = pgO o := by
    unfold pgO
    have h1 : (layE S.reg o).e = o.n := rfl
    have h2 : (layE S.reg o).s = 0 := rfl
    rw [if_pos ⟨hk, by omega, by omega⟩]
    omega
  have h3 := (g1.mono (Int.le_refl n) (by omega : (1000 + j : Int) ≤ 1000 + (j + 1 : Nat))).map o.addr (layE S.reg o) o.fixed he (layE_f h hno) (by omega)
  rw [e1] at h3
  exact h3
theorem SI.store (h : SI S j n) (hp : geA S.ps o.proc = some p) : SI (S.store p o).S (j + 1) n := by
  obtain ⟨h1, h2, h3, h4⟩ := h.proc hp
  have g := h.gs.mono (show j ≤ j + 1 by omega)
  have h0 := h.mono (show j ≤ j + 1 by omega) (Int.le_refl n)
  unfold Fl.store
  split
  · split
    · exact h0
    · split
      · refine ⟨h0.ps, ⟨g.hl, g.hz, ?_, g.r0, g.r1, g.hh⟩⟩
        have := h.gs.fl
        exact Nat.le_trans (puA_len _ _ _) (by omega)
      · obtain ⟨s1, s2, s3, s4, s5, s6⟩ := slot_lt (c := S.c) (pg := o.addr) h3
        refine ⟨h.ps.set h4 s2 (by omega) (Int.le_refl _) ?_ (by omega) s3, ⟨g.hl, g.hz, g.fl, g.r0, g.r1, g.hh⟩⟩
        rw [s4]
        exact h1.mono (Int.le_refl _) (by omega)
  · exact h0
theorem SI.advise (h : SI S j n) (hp : geA S.ps o.proc = some p) : SI (S.advise p o).S (j + 1) n := by
  obtain ⟨h1, h2, h3, h4⟩ := h.proc hp
  have hL := h1.other o.addr o.n 4 o.how 4 false (.inr (.inl ⟨rfl, by omega⟩))
  have g := h.gs.mono (show j ≤ j + 1 by omega)
  unfold Fl.advise
  split
  · exact ⟨h.ps.set h4 (Nat.le_refl _) (by omega) (Int.le_refl _) (hL.mono (Int.le_refl _) (by omega)) (by show p.A.length ≤ _; omega) h3, ⟨g.hl, g.hz, g.fl, g.r0, g.r1, g.hh⟩⟩
  · exact h.turned hp hL
theorem SI.exit (h : SI S j n) (id : Int) : SI (S.exit id p).S (j + 1) n := by
  have g := h.gs.mono (show j ≤ j + 1 by omega)
  refine ⟨(h.ps.drop id).mono (Nat.le_refl _) (by omega) (Int.le_refl _), ⟨g.hl, g.hz, ?_, g.r0, g.r1, g.hh⟩⟩
  exact Nat.le_trans (forget_len { S with ps := drA S.ps id } p.L) g.fl
theorem SI.lend (h : SI S j n) : SI (S.lend p o).S (j + 1) n := by
  have g := h.gs.mono (show j ≤ j + 1 by omega)
  have h0 := h.mono (show j ≤ j + 1 by omega) (Int.le_refl n)
  unfold Fl.lend
  split
  · split
    · next hl => exact ⟨h0.ps, ⟨g.hl, g.hz, g.fl, g.r0, g.r1, Nat.le_trans (puA_len _ _ _) (by omega)⟩⟩
    · exact h0
  · exact h0
theorem SI.back (h : SI S j n) : SI (S.back o).S (j + 1) n := by
  have g := h.gs.mono (show j ≤ j + 1 by omega)
  have h0 := h.mono (show j ≤ j + 1 by omega) (Int.le_refl n)
  unfold Fl.back
  split
  · exact h0
  · exact ⟨h0.ps, ⟨g.hl, g.hz, g.fl, g.r0, g.r1, Nat.le_trans (List.length_filter_le _ _) g.hh⟩⟩
theorem SI.put (h : SI S j n) : SI (S.put o).S (j + 1) n := by
  have g := h.gs.mono (show j ≤ j + 1 by omega)
  have h0 := h.mono (show j ≤ j + 1 by omega) (Int.le_refl n)
  unfold Fl.put
  split
  · have := h.gs.fl
    exact ⟨h0.ps, ⟨g.hl, g.hz, Nat.le_trans (puA_len _ _ _) (by omega), g.r0, g.r1, g.hh⟩⟩
  · exact h0
theorem SI.size (h : SI S j n) : SI (S.size o).S (j + 1) n := by
  have g := h.gs.mono (show j ≤ j + 1 by omega)
  have h0 := h.mono (show j ≤ j + 1 by omega) (Int.le_refl n)
  unfold Fl.size
  split
  · split
    · next hm =>
      have hm2 := of_decide_eq_true hm
      refine ⟨h0.ps, ⟨by rw [List.length_set]; exact g.hl, fun m hm => ?_, Nat.le_trans (List.length_filter_le _ _) g.fl, g.r0, g.r1, g.hh⟩⟩
      rcases List.mem_or_eq_of_mem_set hm with hm | rfl
      · exact g.hz m hm
      · exact ⟨by omega, by omega⟩
    · exact h0
  · exact h0
/-- What a fork has under way. -/
structure FkI (k : Fk) (m : Int) (b : Nat) (B : Int) (p : Pr) : Prop where
  ch : LI k.ch.L m B
  tl : TkL k m.toNat (b + m.toNat)
  nx : ∀ a, a ∈ k.pa.A → a.2 < k.nx
  nc : ∀ a, a ∈ k.ch.A → a.2 < k.nx
  pl : k.pa.L = p.L
theorem pg_nc {k : Fk} (h : ∀ q, q ∈ k.pa.A → q.2 < k.nx) (hc : ∀ q, q ∈ k.ch.A → q.2 < k.nx) (x : En) (pg : Int) : (∀ q, q ∈ (takePg x k pg).ch.A → q.2 < (takePg x k pg).nx) ∧ k.nx ≤ (takePg x k pg).nx := by
  unfold takePg
  split
  · obtain ⟨s1, s2, s3, s4, s5, s6⟩ := slot_lt (c := k.c) (pg := pg) h
    refine ⟨fun q hq => ?_, s2⟩
    rcases mem_puA hq with rfl | ⟨hq, -⟩
    · exact s1
    · exact Nat.lt_of_lt_of_le (hc q hq) s2
  · cases ownF k.c k.pa pg with
    | none => exact ⟨hc, Nat.le_refl _⟩
    | some b =>
      refine ⟨fun q hq => ?_, by simp only; omega⟩
      rcases mem_puA hq with rfl | ⟨hq, -⟩
      · simp only; omega
      · have := hc q hq; simp only; omega
theorem fold_nc (x : En) : ∀ (l : List Int) {k : Fk}, (∀ q, q ∈ k.pa.A → q.2 < k.nx) → (∀ q, q ∈ k.ch.A → q.2 < k.nx) → (∀ q, q ∈ (l.foldl (takePg x) k).ch.A → q.2 < (l.foldl (takePg x) k).nx) ∧ k.nx ≤ (l.foldl (takePg x) k).nx
  | [], k, h, hc => ⟨hc, Nat.le_refl _⟩
  | pg :: l, k, h, hc => by
    have h1 := pg_nc h hc x pg
    have h2 := fold_nc x l (pg_nx h x pg) h1.1
    rw [List.foldl_cons]
    exact ⟨h2.1, Nat.le_trans h1.2 h2.2⟩
theorem take_nc {k : Fk} (h : ∀ q, q ∈ k.pa.A → q.2 < k.nx) (hc : ∀ q, q ∈ k.ch.A → q.2 < k.nx) (x : En) : (∀ q, q ∈ (takeF k x).ch.A → q.2 < (takeF k x).nx) ∧ k.nx ≤ (takeF k x).nx := by
  unfold takeF
  split
  · exact fold_nc x (pagesE x) (k := ⟨⟨(mapV k.ch.L x.s (takeE x) true).l, k.ch.A⟩, k.pa, k.c, k.nx⟩) h hc
  · exact ⟨hc, Nat.le_refl _⟩
theorem takeE_same (x : En) : (takeE x).s = x.s ∧ (takeE x).e = x.e ∧ (takeE x).f = x.f := by unfold takeE; split <;> exact ⟨rfl, rfl, rfl⟩
theorem FkI.take {k : Fk} {m : Int} {b : Nat} {B : Int} (h : FkI k m b B p) (hm : 0 ≤ m) {x : En} (hx : GoodE x) (hf : x.f ≤ B) : FkI (takeF k x) (m + (x.e - x.s)) b B p := by
  have h1 := take_len x h.tl h.nx
  have h2 := takeF_L k x
  have h3 := take_nc h.nx h.nc x
  obtain ⟨e1, e2, e3⟩ := takeE_same x
  have hl := hx.lt
  refine ⟨?_, ?_, h1.2, h3.1, h2.2.trans h.pl⟩
  · rw [h2.1]
    by_cases he : (mapV k.ch.L x.s (takeE x) true).err = 0
    · have := (h.ch.map x.s (takeE x) true he (by rw [e3]; exact hf) (by omega)).1
      rw [e1, e2] at this
      exact this
    · rw [(map_did h.ch.mp x.s (takeE x) true).2.2.2.2 he]
      exact h.ch.mono (by omega) (Int.le_refl _)
  · have := h1.1
    unfold TkL at this ⊢
    omega
theorem FkI.fold : ∀ (L : List En) {k : Fk} {m : Int} {b : Nat} {B : Int}, FkI k m b B p → 0 ≤ m → (∀ x, x ∈ L → GoodE x ∧ x.f ≤ B) → FkI (L.foldl takeF k) (m + sumE L) b B p
  | [], k, m, b, B, h, hm, _ => by rw [sumE_nil, Int.add_zero]; exact h
  | x :: L, k, m, b, B, h, hm, hx => by
    have h1 := h.take hm (hx x (by simp)).1 (hx x (by simp)).2
    have hl := (hx x (by simp)).1.lt
    have h2 := FkI.fold L h1 (by omega) fun y hy => hx y (List.mem_cons_of_mem _ hy)
    rw [List.foldl_cons, sumE_cons, ← Int.add_assoc]
    exact h2
theorem SI.fork (h : SI S j n) (hn : 0 ≤ n) (hn2 : n ≤ 490) (hp : geA S.ps o.proc = some p) : SI (S.fork o.proc p).S (j + 1) n := by
  obtain ⟨h1, h2, h3, h4⟩ := h.proc hp
  have g := h.gs.mono (show j ≤ j + 1 by omega)
  have h0 := h.mono (show j ≤ j + 1 by omega) (Int.le_refl n)
  unfold Fl.fork
  split
  · next h16 =>
    have hF := mapL_fork h1.mp
    have hsf := sum_fork h1.mp
    have hs0 : 0 ≤ sumE (forkV p.L) := by have := len_sum _ hF.rf; omega
    have hk : FkI (forkF S p) (0 + sumE (forkV p.L)) p.A.length (1000 + j) p := FkI.fold (forkV p.L) ⟨⟨mapL_nil, Int.le_refl _, fun x hx => by cases hx⟩, ⟨by simp, by simp⟩, h3, (fun a ha => by cases ha), rfl⟩ (Int.le_refl _) fun x hx => ⟨(rf_good hF.rf x hx).1, fb_fork h1.fb x hx⟩
    rw [Int.zero_add] at hk
    have hsm := h1.sm
    have hnx : S.nx ≤ (forkF S p).nx := by
      unfold forkF
      have : ∀ (L : List En) (k : Fk), (∀ q, q ∈ k.pa.A → q.2 < k.nx) → (∀ q, q ∈ k.ch.A → q.2 < k.nx) → k.nx ≤ (L.foldl takeF k).nx := by
        intro L
        induction L with
        | nil => intro k _ _; exact Nat.le_refl _
        | cons x L ih =>
          intro k ha hb
          rw [List.foldl_cons]
          have t1 := take_nc ha hb x
          have t2 : TkL k k.ch.A.length k.pa.A.length := ⟨Nat.le_refl _, Nat.le_refl _⟩
          exact Nat.le_trans t1.2 (ih _ (take_len x t2 ha).2 t1.1)
      exact this (forkV p.L) ⟨⟨[], []⟩, p, S.c, S.nx⟩ h3 (fun a ha => by cases ha)
    have hP := h.ps.set (p := (forkF S p).pa) h4 hnx (show j ≤ j + 1 by omega) (Int.le_refl n) (by rw [hk.pl]; exact h1.mono (Int.le_refl _) (by omega)) (by have := hk.tl.2; omega) hk.nx
    obtain ⟨i0, e0, e1, e2, -⟩ := lowA_spec S.ps
    have hCh : LI (forkF S p).ch.L n (1000 + (j + 1 : Nat)) := hk.ch.mono (by omega) (by omega)
    refine ⟨⟨fun q hq => ?_, fun q hq => ?_, ?_, fun q hq => ?_⟩, ⟨g.hl, g.hz, g.fl, g.r0, g.r1, g.hh⟩⟩
    · rcases List.mem_cons.1 hq with rfl | hq
      · exact ⟨hCh, by have := hk.tl.1; show (forkF S p).ch.A.length ≤ _; omega⟩
      · exact hP.pr q hq
    · rcases List.mem_cons.1 hq with rfl | hq
      · exact hk.nc
      · exact hP.nx q hq
    · show (setP S.ps o.proc (forkF S p).pa).length + 1 ≤ 16
      unfold setP
      rw [List.length_map]
      omega
    · rcases List.mem_cons.1 hq with rfl | hq
      · show okI (lowA S.ps)
        rw [e0]
        exact ⟨by omega, by omega⟩
      · exact hP.io q hq
  · exact h0
end
end Go.Proofs.YtefiiooibbkffaaGreat

namespace Go.Proofs.YtefiiooibbkffaaGreat
open Go.ChangeShapes Go.WideShapes Go.ChangeAt Go.RowKit Go.Deep Go.Sort
set_option linter.unusedVariables false
set_option linter.unusedSimpArgs false

theorem noRead_ok (w : World) (x : En) (hx : GoodE x) : Calls Tryz.prog 164 #[.agg #[.int .i64 x.s, .int .i64 x.e, .int .i64 x.f, .int .i64 x.o, .bool x.sh, .int .i64 x.p, .int .i64 x.m, .int .i64 x.i, .int .i64 x.a, .bool x.wi]] w fun e w' => e = .returned (.bool (!canB x.p 1)) ∧ w.grownBy w' none := by
  have ga := World.grownBy_alloc w (.cells #[.int .i64 x.s, .int .i64 x.e, .int .i64 x.f, .int .i64 x.o, .bool x.sh, .int .i64 x.p, .int .i64 x.m, .int .i64 x.i, .int .i64 x.a, .bool x.wi] 50) none
  have hb := can_and hx (right := 1) (.inl rfl)
  have c5 := (EnB.new w x).all.2.2.2.2.2.1
  have HG := Lib.hid ga
  have HB := Lib.hid hb
  clear ga hb hx
  obtain ⟨d, hd⟩ : ∃ d, (!canB x.p 1) = d := ⟨_, rfl⟩
  rw [hd]
  have hb2 := HB.out
  rw [hd] at hb2
  clear hd HB
  go_enter Tryz.func164, Tryz.ntmps164
  go_wp2_with fail
  go_ret
  exact ⟨rfl, HG.out⟩
set_option maxHeartbeats 1000000 in
theorem eindex_ok {w : World} {s : Option Addr} {c : Nat} {R : List En} (h : ERow w (.slice s R.length c) R) (hg : ∀ x, x ∈ R → GoodE x) (hl : R.length ≤ 1000000) :
    Calls Tryz.prog 192 #[.slice s R.length c, .func (.func 164) #[] #[]] w fun e w' => ∃ z : Int, e = .returned (.int .i64 z) ∧ decide (z ≥ 0) = R.any (fun x => !canB x.p 1) ∧ w.grownBy w' none := by
  have HR := Lib.hid (fun W (g : w.grownBy W none) => erow_grow h g)
  have HC := Lib.hid noRead_ok
  have HGd := Lib.hid hg
  clear h hg
  go_enter Tryz.func192, Tryz.ntmps192
  go_wp2_with fail
  go_loopw [8] (fun iv wr => ∃ j : Nat, j ≤ R.length ∧ iv = .int .i64 j ∧ Hid ((R.take j).any (fun x => !canB x.p 1) = false) ∧ Hid (w.grownBy wr none)) (fun iv _ => R.length - (intOf iv).toNat)
  case atStart => exact ⟨0, by omega, rfl, rfl, grown_refl _ _⟩
  case round =>
    obtain ⟨j, hj, rfl, HZ, HG⟩ := hrel
    by_cases hlt : j < R.length
    · obtain ⟨x, hr⟩ : ∃ x, R[j]? = some x := ⟨_, List.getElem?_eq_getElem hlt⟩
      obtain ⟨g, o, c2, hv, ka0, ka1, ka2, ka3, ka4, ka5, ka6, ka7, ka8, ka9⟩ := en_cells (HR.out wr HG.out) hr
      injection hv with e1 e2 e3
      subst e1 e3
      have hmem := List.mem_of_getElem? hr
      have HF := Lib.hid (HC.out wr x (HGd.out x hmem))
      have htk := takel_at hr
      cases hq : canB x.p 1 with
      | false =>
        have HA := Lib.hid (show R.any (fun x => !canB x.p 1) = true from List.any_eq_true.2 ⟨_, hmem, by simp [hq]⟩)
        rw [hq] at HF
        clear htk hmem hq hr HZ
        go_wp2_with fail
        refine HF.out.mono ?_
        rintro e w3 ⟨rfl, g3⟩
        have HG3 := Lib.hid (grown_trans HG.out g3)
        clear g3 ka0 ka1 ka2 ka3 ka4 ka5 ka6 ka7 ka8 ka9
        go_wp2_with fail
        go_ret
        exact ⟨j, rfl, by rw [HA.out]; exact decide_eq_true (by omega), HG3.out⟩
      | true =>
        have HN := Lib.hid (show (R.take (j + 1)).any (fun x => !canB x.p 1) = false by rw [htk, List.any_append, HZ.out]; simp [hq])
        rw [hq] at HF
        clear htk hmem hq hr HZ
        go_wp2_with fail
        refine HF.out.mono ?_
        rintro e w3 ⟨rfl, g3⟩
        have HG3 := Lib.hid (grown_trans HG.out g3)
        clear g3 ka0 ka1 ka2 ka3 ka4 ka5 ka6 ka7 ka8 ka9
        go_wp2_with fail
        go_roundw
        case rel => exact ⟨j + 1, by omega, by go_num, HN, HG3⟩
        case measure => simp [intOf]; omega
    · obtain rfl : j = R.length := by omega
      rw [List.take_length] at HZ
      go_wp2_with fail
      go_ret
      exact ⟨-1, rfl, by rw [HZ.out]; rfl, HG.out⟩
theorem econtains_ok {w : World} {s : Option Addr} {c : Nat} {R : List En} (h : ERow w (.slice s R.length c) R) (hg : ∀ x, x ∈ R → GoodE x) (hl : R.length ≤ 1000000) (d : Bool) (hd : R.any (fun x => !canB x.p 1) = d) :
    Calls Tryz.prog 163 #[.slice s R.length c, .func (.func 164) #[] #[]] w fun e w' => e = .returned (.bool d) ∧ w.grownBy w' none := by
  have HI := Lib.hid (eindex_ok h hg hl)
  rw [hd] at HI
  clear h hg hd
  go_enter Tryz.func163, Tryz.ntmps163
  go_wp2_with fail
  refine HI.out.mono ?_
  rintro e w1 ⟨z, rfl, hz, g1⟩
  have HG := Lib.hid g1
  clear g1
  go_wp2_with fail
  go_ret
  exact ⟨rfl, HG.out⟩
def vCells (v : Value) : List Value := [v]
theorem info_sp : (Tryz.prog.info? 95).map (fun i => (i.zero, i.size, i.bytes)) = some (some (.pointer none), 1, 8) := by kernel_rfl
def VOwn (w : World) (base : Nat) (v : Value) (us : List Value) : Prop := OwnOf vCells 1 95 w base v us
/-- 'append(l, b)', of a sheet. -/
theorem wpList_spush {ops : Array Oper} {rest : List Oper} {o : Oper} {a : Act} {Q : Exit → Act → World → Prop} (w : World) (hgd : o.guard = none) (s x : Operand)
    (ho : o.op = .call { callee := .builtin .append, args := #[s, x], argTypes := #[183, 183] }) (base : Nat) (v : Value) (xs : List Value) (q : Option Addr) (hs : a.eval s = v) (h : VOwn w base v xs) (H c : Nat)
    (hx : a.eval x = .slice (some ⟨H, 0, none⟩) 1 c) (hH : w.heap.size = H) (hl : xs.length ≤ 1000000) (hbase : base ≤ H)
    (hK : ∀ g cap w', VOwn w' base (.slice (some ⟨g, 0, none⟩) (xs.length + 1) cap) (xs ++ [.pointer q]) → (w.alloc (.cells #[.pointer q] 95)).grownBy w' v.ownBlock → wpList Tryz.prog ops Q rest (a.put o.dst (.slice (some ⟨g, 0, none⟩) (xs.length + 1) cap)) w') :
    wpList Tryz.prog ops Q (o :: rest) a (w.alloc (.cells #[.pointer q] 95)) := by
  obtain ⟨i0, hi, hz0, hz1, hz2⟩ := info_parts info_sp
  subst hH
  refine wpList_append_lies _ hgd s x 183 ho base 95 i0 (.pointer none) 1 8 Tryz.underlying183 hi hz0 hz1 hz2 rfl (by decide) v xs.length (xs.flatMap vCells) hs (World.ownsRow.alloc h _) ⟨w.heap.size, 0, none⟩ 1 c (vCells (.pointer q)) hx rfl ?_ (fun u hu => by rw [show vCells (.pointer q) = [.pointer q] from rfl, List.mem_singleton] at hu; subst hu; rfl) (by omega) (by unfold maxLen; omega) (by omega) (by simp; omega) (w.heap.size + 1) (by simp) ?_
  · exact World.news_of_block (heap_alloc_new w _)
  · intro g cap w' hown hgrow hat hlt
    refine hK g cap w' ?_ hgrow
    unfold VOwn OwnOf
    simp only [List.length_append, List.length_cons, List.length_nil, List.flatMap_append, List.flatMap_cons, List.flatMap_nil, List.append_nil]
    exact hown
end Go.Proofs.YtefiiooibbkffaaGreat

namespace Go.Proofs.YtefiiooibbkffaaGreat
open Go.ChangeShapes Go.WideShapes Go.ChangeAt Go.RowKit Go.Deep Go.Sort
set_option linter.unusedVariables false
set_option linter.unusedSimpArgs false

theorem pagesL_next {C : List En} {q : Nat} {x : En} (hx : C[q]? = some x) : pagesL (C.take (q + 1)) = pagesL (C.take q) ++ (pagesE x).map fun pg => (x, pg) := by
  unfold pagesL
  rw [takel_at hx, List.flatMap_append]
  simp
theorem pagesL_sub {C : List En} {x : En} {pg : Int} (hx : x ∈ C) (hp : pg ∈ pagesE x) : (x, pg) ∈ pagesL C := List.mem_flatMap.2 ⟨x, hx, List.mem_map.2 ⟨pg, hp, rfl⟩⟩
theorem meansL_none {S : Fl} {p : Pr} : ∀ {P : List (En × Int)} {y : En × Int}, y ∈ P → S.means p y.1 y.2 = none → meansL S p P = none
  | [], y, h, _ => by cases h
  | z :: P, y, h, e => by
    unfold meansL
    rcases List.mem_cons.1 h with rfl | h
    · rw [e]
    · cases S.means p z.1 z.2 with
      | none => rfl
      | some b => simp only; rw [meansL_none h e]; rfl
theorem meansL_all {S : Fl} {p : Pr} : ∀ {P : List (En × Int)}, (∀ y, y ∈ P → (S.means p y.1 y.2).isSome = true) → meansL S p P = some (P.map fun y => (S.means p y.1 y.2).getD none)
  | [], _ => rfl
  | z :: P, h => by
    have h1 := h z (by simp)
    unfold meansL
    cases e : S.means p z.1 z.2 with
    | none => rw [e] at h1; cases h1
    | some b =>
      simp only
      rw [meansL_all fun y hy => h y (List.mem_cons_of_mem _ hy), List.map_cons, e]
      rfl
/-- A row of sheets. -/
def SRow (w w' : World) (kd : Nat → Ro) (base : Nat) (v : Value) (l : List (Option (List UInt8))) : Prop := ∃ us : List Value, VOwn w' base v us ∧ us.length = l.length ∧ ∀ (i : Nat) u b, us[i]? = some u → l[i]? = some b → Sh w kd u b
theorem VOwn.ne_box {w : World} {base y : Nat} {v : Value} {us : List Value} {x : En} (hW : VOwn w base v us) (hB : EnB w y x) : v.ownBlock ≠ some y := fun e => by
  rcases hW.2 with ⟨rfl, _⟩ | ⟨g, cap, cur, rfl, hb, hg, _⟩
  · cases e
  · have e2 : g = y := Option.some.inj e
    subst e2
    have h1 : w.heap[g]? = _ := hB
    rw [hg] at h1
    injection h1 with h2
    injection h2 with h3 h4 h5
    exact absurd h4 (by decide)
section
variable {w w' : World} {kd kd' : Nat → Ro} {t r : Nat} {h : Gh} {S S' : Fl} {id : Int} {p : Pr}
def mvF (h : Gh) (S : Fl) (p : Pr) (y : En × Int) : Value := meansV h h.sp S.sz S.F S.c p y.1 y.2
set_option maxRecDepth 100000 in
set_option maxHeartbeats 16000000 in
theorem loadAll_ok (k : FW w kd t r h S) (hok : SOk S) (hp : geA S.ps id = some p) (lo hi : Int) (hln : (pagesL (goneE p.L lo hi)).length ≤ 100000) (hcl : (goneE p.L lo hi).length ≤ 100000) (hcf : FB 1000000000 (goneE p.L lo hi)) :
    Calls Tryz.prog 135 #[.pointer (some ⟨r, 0, none⟩), .pointer (some ⟨(h.g id).b, 0, none⟩), .int .i64 lo, .int .i64 hi] w fun e w' => ∃ v, e = .returned (.tuple #[v, .int .i64 (S.loadAll p lo hi).2]) ∧ SRow w w' kd w.heap.size v (S.loadAll p lo hi).1 ∧ w.grownBy w' none := by
  have hPI := hok.pi _ (geA_some hp)
  have hP := k.bw.get hp
  have a0 := hP.at0
  have HEn := Lib.hid (entries_ok hP.vm (Nat.le_trans hPI.ln (by decide)))
  obtain ⟨C, hC⟩ : ∃ C, goneE p.L lo hi = C := ⟨_, rfl⟩
  have HRF := Lib.hid (show RF 0 C by rw [← hC]; exact rf_gone lo hi hPI.mp.rf)
  have HSe := Lib.hid (show S.loadAll p lo hi = (if wholeB C lo hi = true then (if (C.any fun x => !canB x.p 1) = true then ([], 3) else match meansL S p (pagesL C) with | some l => (l, 0) | none => ([], 4)) else ([], 5) : List (Option (List UInt8)) × Int) by rw [← hC]; rfl)
  rw [hC] at hln hcl hcf
  obtain ⟨R, hR⟩ : ∃ R, S.loadAll p lo hi = R := ⟨_, rfl⟩
  rw [hR] at HSe ⊢
  have HCu := Lib.hid (fun W s c (hh : EC W (.slice s p.L.length c) p.L) => cut_ok hh hPI.mp.rf (Nat.le_trans hPI.ln (by decide)) lo hi)
  rw [hC] at HCu
  have HGd := Lib.hid (show ∀ x, x ∈ C → GoodE x ∧ x.f ≤ 1000000000 from fun x hx => ⟨(rf_good HRF.out x hx).1, hcf x hx⟩)
  have HMe := Lib.hid (fun W (g : w.grownBy W none) x pg (hx : PgE x pg) => means_ok (k.grow g).hw hok.hl hok.hz ((k.grow g).bw.get hp) (fun a ha => (k.grow g).bw.sl _ (geA_some hp) a ha) x pg hx)
  have HSh := Lib.hid (fun x pg => meansV_sh k.hw (fun a ha => k.bw.sl _ (geA_some hp) a ha) x pg)
  have HLn := Lib.hid hln
  have hnil := OwnOf.nil (cells := vCells) (size := 1) (t := 95)
  have HNil := Lib.hid (show ∀ W b, VOwn W b (.slice none 0 0) [] from fun W b => hnil W b)
  clear k hok hp hPI hP hC hR hcf hln hnil
  go_enter Tryz.func135, Tryz.ntmps135
  go_wp2_with fail
  refine HEn.out.mono ?_
  rintro e w2 ⟨u, rfl, hu, g2⟩
  obtain ⟨au, cu, hau⟩ := OwnOf.form (show OwnOf enCells 10 50 w2 w.heap.size u p.L from hu)
  subst hau
  have HCt := Lib.hid (HCu.out w2 au cu (EOwn.ec hu))
  have HG2 := Lib.hid g2
  clear hu g2 HEn HCu a0
  go_wp2_with fail
  refine HCt.out.mono ?_
  rintro e w3 ⟨u3, v3, rfl, -, hv, -, g3⟩
  obtain ⟨av, cv, hav⟩ := OwnOf.form (show OwnOf enCells 10 50 w3 w2.heap.size v3 C from hv)
  subst hav
  obtain ⟨d1, hd1⟩ : ∃ d, wholeB C lo hi = d := ⟨_, rfl⟩
  have HWh := Lib.hid (whole_ok (EOwn.ec hv) HRF.out (by omega) lo hi d1 hd1)
  have HV := Lib.hid (fun W (g : w3.grownBy W none) => erow_grow (eown_row hv) g)
  have HG3 := Lib.hid (grown_trans HG2.out g3)
  rw [hd1] at HSe
  clear hv g3 HCt HG2 hd1
  go_wp2_with fail
  refine HWh.out.mono ?_
  rintro e w4 ⟨rfl, g4⟩
  have HV4 := Lib.hid (fun W (g : w4.grownBy W none) => HV.out W (grown_trans g4 g))
  have HG4 := Lib.hid (grown_trans HG3.out g4)
  clear g4 HWh HV HG3
  cases d1 with
  | false =>
    have HR := Lib.hid (show R = ([], 5) from HSe.out)
    clear HSe
    go_wp2_with fail
    go_ret2
    exact ⟨.slice none 0 0, by rw [HR.out]; rfl, by rw [HR.out]; exact ⟨[], HNil.out _ _, rfl, fun i u b h => by simp at h⟩, HG4.out⟩
  | true =>
    obtain ⟨d2, hd2⟩ : ∃ d, (C.any fun x => !canB x.p 1) = d := ⟨_, rfl⟩
    have HSe2 := Lib.hid (show R = (if d2 = true then ([], 3) else match meansL S p (pagesL C) with | some l => (l, 0) | none => ([], 4) : List (Option (List UInt8)) × Int) by rw [← hd2]; exact HSe.out)
    have HCo := Lib.hid (econtains_ok (HV4.out w4 (grown_refl _ _)) (fun x hx => (HGd.out x hx).1) (by omega) d2 hd2)
    clear HSe hd2
    go_wp2_with fail
    refine HCo.out.mono ?_
    rintro e w5 ⟨rfl, g5⟩
    have HV5 := Lib.hid (fun W (g : w5.grownBy W none) => HV4.out W (grown_trans g5 g))
    have HG5 := Lib.hid (grown_trans HG4.out g5)
    clear g5 HCo HV4 HG4
    cases d2 with
    | true =>
      have HR := Lib.hid (show R = ([], 3) from HSe2.out)
      clear HSe2
      go_wp2_with fail
      go_ret2
      exact ⟨.slice none 0 0, by rw [HR.out]; rfl, by rw [HR.out]; exact ⟨[], HNil.out _ _, rfl, fun i u b h => by simp at h⟩, HG5.out⟩
    | false =>
      have HR := Lib.hid (show R = (match meansL S p (pagesL C) with | some l => (l, 0) | none => ([], 4) : List (Option (List UInt8)) × Int) from HSe2.out)
      clear HSe2
      go_wp2_with fail
      go_loopw [12, 40] (fun sv iv wr => ∃ q : Nat, q ≤ C.length ∧ iv = .int .i64 q ∧ Hid (∀ y, y ∈ pagesL (C.take q) → (S.means p y.1 y.2).isSome = true) ∧ Hid (VOwn wr w5.heap.size sv ((pagesL (C.take q)).map (mvF h S p))) ∧ Hid (w5.grownBy wr none)) (fun _ iv _ => C.length - (intOf iv).toNat)
      case atStart => exact ⟨0, by omega, rfl, Lib.hid (fun y hy => by simp [pagesL] at hy), HNil.out _ _, Lib.hid (grown_refl _ _)⟩
      case round =>
        obtain ⟨q, hq, rfl, HA, HW, HGr⟩ := hrel
        by_cases hlt : q < C.length
        · obtain ⟨x, hx⟩ : ∃ x, C[q]? = some x := ⟨_, List.getElem?_eq_getElem hlt⟩
          obtain ⟨g, o, c1, hv1, ka0, ka1, ka2, ka3, ka4, ka5, ka6, ka7, ka8, ka9⟩ := en_cells (HV5.out wr HGr.out) hx
          injection hv1 with e1 e2 e3
          subst e1 e3
          have hmem := List.mem_of_getElem? hx
          have hgx := HGd.out x hmem
          have hlx := hgx.1.lt
          have hxs := hgx.1.s0
          have hxe := hgx.1.e1
          have hB := EnB.new wr x
          have ga := World.grownBy_alloc wr (.cells #[.int .i64 x.s, .int .i64 x.e, .int .i64 x.f, .int .i64 x.o, .bool x.sh, .int .i64 x.p, .int .i64 x.m, .int .i64 x.i, .int .i64 x.a, .bool x.wi] 50) none
          have HB := Lib.hid hB
          have HGx := Lib.hid hgx
          have HX := Lib.hid hx
          have HMm := Lib.hid hmem
          have k0 := hB.at.c0
          have HWa := Lib.hid (show VOwn (wr.alloc (.cells #[.int .i64 x.s, .int .i64 x.e, .int .i64 x.f, .int .i64 x.o, .bool x.sh, .int .i64 x.p, .int .i64 x.m, .int .i64 x.i, .int .i64 x.a, .bool x.wi] 50)) w5.heap.size _ ((pagesL (C.take q)).map (mvF h S p)) from OwnOf.grow HW.out ga)
          have HGa := Lib.hid (grown_trans HGr.out ga)
          obtain ⟨len, hlen⟩ : ∃ len, (x.e - x.s).toNat = len := ⟨_, rfl⟩
          have HLe := Lib.hid (show x.e = x.s + len by omega)
          have HLen := Lib.hid hlen
          have hb1 : x.s + (len : Int) ≤ 67108864 := by omega
          clear hB ga hx hmem hgx HW HGr hlen
          go_wp2_with fail
          generalize hwb : wr.alloc (.cells #[.int .i64 x.s, .int .i64 x.e, .int .i64 x.f, .int .i64 x.o, .bool x.sh, .int .i64 x.p, .int .i64 x.m, .int .i64 x.i, .int .i64 x.a, .bool x.wi] 50) = wb at *
          clear hwb
          generalize wr.heap.size = y at *
          clear ka0 ka1 ka2 ka3 ka4 ka5 ka6 ka7 ka8 ka9 k0
          go_loopw [12, 15] (fun sv2 pv wx => ∃ i : Nat, i ≤ len ∧ pv = .int .i64 (x.s + i) ∧ Hid (∀ pg, pg ∈ (pagesE x).take i → (S.means p x pg).isSome = true) ∧ Hid (VOwn wx w5.heap.size sv2 ((pagesL (C.take q) ++ ((pagesE x).take i).map fun pg => (x, pg)).map (mvF h S p))) ∧ Hid (EnB wx y x) ∧ Hid (w5.grownBy wx none)) (fun _ pv _ => (x.s + len - intOf pv).toNat)
          case atStart => exact ⟨0, by omega, by go_num, Lib.hid (fun pg hp => by simp at hp), by simpa using HWa, HB, HGa⟩
          case round =>
            obtain ⟨i, hi, rfl, HI, HWi, HBi, HGi⟩ := hrel
            clear HWa HB HGa
            obtain ⟨e0, e1, e2, e3, e4, e5, e6, e7, e8, e9⟩ := HBi.out.all
            rw [HLe.out] at e1
            by_cases hlt2 : i < len
            · have hpa := pages_at (x := x) (j := i) (by rw [HLen.out]; exact hlt2)
              have HPa := Lib.hid hpa
              have HM := Lib.hid (HMe.out wr (grown_trans HG5.out HGi.out) x (x.s + i) ⟨HGx.out.1, HGx.out.2, by omega, by rw [HLe.out]; omega⟩)
              have hsh := HSh.out x (x.s + i)
              obtain ⟨qa, hqa, -⟩ := hsh.form
              have HMv := Lib.hid (show mvF h S p (x, x.s + i) = .pointer qa from hqa)
              rw [hqa] at HM
              obtain ⟨d, hd⟩ : ∃ d, (meansF S.sz S.F S.c p x (x.s + i)).isSome = d := ⟨_, rfl⟩
              rw [hd] at HM
              have HD := Lib.hid hd
              clear hpa hsh hqa hd e0 e2 e3 e4 e5 e6 e7 e8 e9 e1
              obtain ⟨e0, e1, e2, e3, e4, e5, e6, e7, e8, e9⟩ := HBi.out.all
              have bd : decide (x.s + (i : Int) < x.e) = true := decide_eq_true (by rw [HLe.out]; omega)
              cases d with
              | false =>
                have HR2 := Lib.hid (show R = ([], 4) by
                  have hn : S.means p x (x.s + i) = none := by
                    have := HD.out
                    cases e : meansF S.sz S.F S.c p x (x.s + i) with
                    | none => exact e
                    | some b => rw [e] at this; cases this
                  rw [HR.out, meansL_none (pagesL_sub HMm.out (List.mem_of_getElem? HPa.out)) hn])
                clear HR HI HWi
                go_wp2_with fail
                refine HM.out.mono ?_
                rintro e w7 ⟨rfl, g7⟩
                have HGG := Lib.hid (grown_trans HG5.out (grown_trans HGi.out g7))
                clear g7
                go_wp2_with fail
                go_ret2
                exact ⟨.slice none 0 0, by rw [HR2.out]; rfl, by rw [HR2.out]; exact ⟨[], HNil.out _ _, rfl, fun i u b h => by simp at h⟩, HGG.out⟩
              | true =>
                have HA2 := Lib.hid (show ∀ pg, pg ∈ (pagesE x).take (i + 1) → (S.means p x pg).isSome = true from fun pg hpg => by
                  rw [takel_at HPa.out] at hpg
                  rcases List.mem_append.1 hpg with hpg | hpg
                  · exact HI.out pg hpg
                  · rw [List.mem_singleton] at hpg; subst hpg; exact HD.out)
                have HNx := Lib.hid (show ((pagesL (C.take q) ++ ((pagesE x).take (i + 1)).map fun pg => (x, pg)).map (mvF h S p)) = ((pagesL (C.take q) ++ ((pagesE x).take i).map fun pg => (x, pg)).map (mvF h S p)) ++ [.pointer qa] by
                  rw [takel_at HPa.out]
                  simp only [List.map_append, List.map_cons, List.map_nil, HMv.out, List.append_assoc])
                have hlen2 : ((pagesL (C.take q) ++ ((pagesE x).take i).map fun pg => (x, pg)).map (mvF h S p)).length ≤ 100000 := by
                  rw [List.length_map]
                  refine Nat.le_trans ?_ HLn.out
                  have h1 := pagesL_next HX.out
                  have h2 : (pagesL (C.take (q + 1))).length ≤ (pagesL C).length := by
                    have h3 : pagesL C = pagesL (C.take (q + 1)) ++ pagesL (C.drop (q + 1)) := by
                      unfold pagesL
                      rw [← List.flatMap_append, List.take_append_drop]
                    rw [h3, List.length_append]; omega
                  rw [h1, List.length_append, List.length_map] at h2
                  rw [List.length_append, List.length_map, List.length_take]
                  omega
                obtain ⟨acc, hacc⟩ : ∃ acc, ((pagesL (C.take q) ++ ((pagesE x).take i).map fun pg => (x, pg)).map (mvF h S p)) = acc := ⟨_, rfl⟩
                rw [hacc] at HNx HWi hlen2
                clear hacc
                clear HI HR
                go_wp2_with fail
                refine HM.out.mono ?_
                rintro e w7 ⟨rfl, g7⟩
                have HB7 := Lib.hid (HBi.out.grow g7)
                have HG7 := Lib.hid (grown_trans HGi.out g7)
                have HW7 := Lib.hid (show VOwn w7 w5.heap.size u12 acc from OwnOf.grow HWi.out g7)
                have HNeb := Lib.hid (show some y ≠ u12.ownBlock from fun e => HW7.out.ne_box HB7.out e.symm)
                have hsz := HG5.out.size
                have hsz2 := HG7.out.size
                clear g7 HBi HGi HWi HM e0 e1 e2 e3 e4 e5 e6 e7 e8 e9
                go_wp2_with (at_builtin; refine wpList_spush w7 rfl _ _ rfl w5.heap.size _ acc qa (by rfl) HW7.out _ _ (by rfl) rfl (by omega) (by omega) ?_; intro g8 cap8 w8 hown8 hg8; have HW8 := Lib.hid hown8; have HG8 := Lib.hid (grown_own (a := w5) (grown_trans HG7.out (World.grownBy_alloc w7 _ none)) hg8 (fun b hb => (OwnOf.lt HW7.out hb).1)); have HB8 := Lib.hid (show EnB w8 y x from (hg8.block _ (HB7.out.grow (World.grownBy_alloc w7 _ none)).lt (HNeb.out)).trans (HB7.out.grow (World.grownBy_alloc w7 _ none))); clear hown8 hg8)
                have HW9 := Lib.hid (show VOwn w8 w5.heap.size (.slice (some ⟨g8, 0, none⟩) (acc.length + 1) cap8) ((pagesL (C.take q) ++ ((pagesE x).take (i + 1)).map fun pg => (x, pg)).map (mvF h S p)) by rw [HNx.out]; exact HW8.out)
                go_roundw
                case rel => exact ⟨i + 1, by omega, by go_num, HA2, HW9, HB8, HG8⟩
                case measure => simp [intOf]; omega
            · obtain rfl : i = len := by omega
              have hall : (pagesE x).take i = pagesE x := List.take_of_length_le (by rw [pages_len, HLen.out]; exact Nat.le_refl _)
              rw [hall] at HI HWi
              have HA2 := Lib.hid (show ∀ y, y ∈ pagesL (C.take (q + 1)) → (S.means p y.1 y.2).isSome = true from fun y hy => by
                rw [pagesL_next HX.out] at hy
                rcases List.mem_append.1 hy with hy | hy
                · exact HA.out y hy
                · obtain ⟨pg, hp, rfl⟩ := List.mem_map.1 hy
                  exact HI.out pg hp)
              have HW2 := Lib.hid (show VOwn wr w5.heap.size u12 ((pagesL (C.take (q + 1))).map (mvF h S p)) by rw [pagesL_next HX.out]; exact HWi.out)
              clear HI HWi HA
              go_wp2_with fail
              go_roundw
              case rel => exact ⟨q + 1, by omega, by go_num, HA2, HW2, HGi⟩
              case measure => simp [intOf]; omega
        · obtain rfl : q = C.length := by omega
          rw [List.take_length] at HA HW
          obtain ⟨asv, csv, has⟩ := OwnOf.form HW.out
          subst has
          have HR2 := Lib.hid (show R = ((pagesL C).map fun y => (S.means p y.1 y.2).getD none, 0) by rw [HR.out, meansL_all HA.out])
          have HSR := Lib.hid (show SRow w wr kd w.heap.size (.slice asv ((pagesL C).map (mvF h S p)).length csv) ((pagesL C).map fun y => (S.means p y.1 y.2).getD none) from ⟨_, OwnOf.lower HW.out HG5.out.size, by simp, fun i u b hu hb => by
            rw [List.getElem?_map] at hu hb
            cases e : (pagesL C)[i]? with
            | none => rw [e] at hu; cases hu
            | some y =>
              rw [e] at hu hb
              obtain rfl := Option.some.inj hu
              obtain rfl := Option.some.inj hb
              exact HSh.out y.1 y.2⟩)
          have HGG := Lib.hid (grown_trans HG5.out HGr.out)
          clear HA HW HR HGr
          go_wp2_with fail
          go_ret2
          exact ⟨.slice asv ((pagesL C).map (mvF h S p)).length csv, by rw [HR2.out]; rfl, by rw [HR2.out]; exact HSR.out, HGG.out⟩
end
end Go.Proofs.YtefiiooibbkffaaGreat
