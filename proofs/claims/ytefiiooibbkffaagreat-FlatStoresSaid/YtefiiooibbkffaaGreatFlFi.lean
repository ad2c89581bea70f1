/- Layer 17 (landed): act, the other kinds. Written by wip/genflact2.py. -/
import Derived.Test.YtefiiooibbkffaaGreatFlMo
namespace Go.Proofs.YtefiiooibbkffaaGreat
open Go.ChangeShapes Go.WideShapes Go.ChangeAt Go.RowKit Go.Deep Go.Sort
set_option linter.unusedVariables false
set_option linter.unusedSimpArgs false

section
variable {w w' : World} {kd kd' : Nat → Ro} {t r : Nat} {h : Gh} {S S' : Fl} {id : Int} {p : Pr}
/-- What namesProc tells. -/
theorem names_ok (w : World) (k : Int) (hk : okI k) : Calls Tryz.prog 65 #[.int .i64 k] w fun e w' => e = .returned (.bool (namesB k)) ∧ w' = w := by
  have HN := Lib.hid (show namesB k = (decide (1 ≤ k) && decide (k ≤ 12) || decide (k = 20)) by unfold namesB; simp [Bool.and_eq_true])
  rw [HN.out]
  by_cases h1 : 1 ≤ k
  · have b1 : decide (k ≥ 1) = true := decide_eq_true h1
    by_cases h2 : k ≤ 12
    · have b2 : decide (k ≤ 12) = true := decide_eq_true h2
      have HR := Lib.hid (show (decide (1 ≤ k) && decide (k ≤ 12) || decide (k = 20)) = true by simp [h1, h2])
      rw [HR.out]
      clear HN h1 h2 hk
      go_enter Tryz.func65, Tryz.ntmps65
      go_wp2_with fail
      go_ret
      exact ⟨rfl, rfl⟩
    · have b2 : decide (k ≤ 12) = false := decide_eq_false h2
      obtain ⟨d, hd⟩ : ∃ d, (k == 20) = d := ⟨_, rfl⟩
      have HR := Lib.hid (show (decide (1 ≤ k) && decide (k ≤ 12) || decide (k = 20)) = d by rw [← hd, b2, Bool.and_false, Bool.false_or]; by_cases e : k = 20 <;> simp [e])
      rw [HR.out]
      clear HN h1 h2 hk
      go_enter Tryz.func65, Tryz.ntmps65
      go_wp2_with fail
      go_ret
      exact ⟨rfl, rfl⟩
  · have b1 : decide (k ≥ 1) = false := decide_eq_false h1
    obtain ⟨d, hd⟩ : ∃ d, (k == 20) = d := ⟨_, rfl⟩
    have HR := Lib.hid (show (decide (1 ≤ k) && decide (k ≤ 12) || decide (k = 20)) = d by rw [← hd, show decide (1 ≤ k) = false from decide_eq_false h1, Bool.false_and, Bool.false_or]; by_cases e : k = 20 <;> simp [e])
    rw [HR.out]
    clear HN h1 hk
    go_enter Tryz.func65, Tryz.ntmps65
    go_wp2_with fail
    go_ret
    exact ⟨rfl, rfl⟩
theorem PM.look0 {ids : List Int} (k : PM w kd t h ids) {x : Int} (hx : x ∉ ids) (hi : okI x) :
    (Instr.lookup 52 (.map (some h.pm)) (.int .i64 x) false).run Tryz.prog w = .ok (.pointer none) w := by
  have h1 := k.pm.look lawsP (zd := .held (.pointer none)) (x := x) (okW_of hi)
  have h2 : lookV (ids.map fun id => (id, Value.pointer (some ⟨(h.g id).b, 0, none⟩))) x = none := by
    clear h1 k
    induction ids with
    | nil => rfl
    | cons y ids ih =>
      unfold lookV at ih ⊢
      rw [List.map_cons, List.find?_cons]
      by_cases e : y = x
      · exact (hx (by rw [e]; simp)).elim
      · rw [decide_eq_false e]
        exact ih fun k => hx (List.mem_cons_of_mem _ k)
  rw [h2] at h1
  exact h1
theorem geA_noids {ps : List (Int × Pr)} (hp : geA ps id = none) : id ∉ ps.map (·.1) := fun hm => by
  obtain ⟨q, hq, e⟩ := List.mem_map.1 hm
  exact geA_none hp q hq e
set_option maxRecDepth 100000 in
set_option maxHeartbeats 8000000 in
theorem act_unmap (k : FW w kd t r h S) (o : FOp) (hk : o.k = 2) (hi : okI o.proc) (hp : geA S.ps o.proc = some p) {n er : Int}
    (hD : ∀ W, w.grownBy W none → Calls Tryz.prog 67 #[.pointer (some ⟨r, 0, none⟩), .pointer (some ⟨(h.g o.proc).b, 0, none⟩), .agg #[.int .i64 o.k, .int .i64 o.proc, .int .i64 o.addr, .int .i64 o.n, .int .i64 o.prot, .bool o.sh, .int .i64 o.file, .int .i64 o.off, .bool o.fixed, .int .i64 o.how, .int .i64 o.ati, .int .i64 o.v, .int .i64 o.hd, .int .i64 o.to]] W fun e w' => e = .returned (.int .i64 er) ∧ Dn t r kd W w' S') :
    Calls Tryz.prog 32 #[.pointer (some ⟨r, 0, none⟩), .agg #[.int .i64 o.k, .int .i64 o.proc, .int .i64 o.addr, .int .i64 o.n, .int .i64 o.prot, .bool o.sh, .int .i64 o.file, .int .i64 o.off, .bool o.fixed, .int .i64 o.how, .int .i64 o.ati, .int .i64 o.v, .int .i64 o.hd, .int .i64 o.to]] w fun e w' => e = .returned (.tuple #[.int .i64 0, .int .i64 er]) ∧ Dn t r kd w w' S' := by
  have ga := World.grownBy_alloc w (.cells #[.int .i64 o.k, .int .i64 o.proc, .int .i64 o.addr, .int .i64 o.n, .int .i64 o.prot, .bool o.sh, .int .i64 o.file, .int .i64 o.off, .bool o.fixed, .int .i64 o.how, .int .i64 o.ati, .int .i64 o.v, .int .i64 o.hd, .int .i64 o.to] 34) none
  have hB := OpB.new w o
  generalize hwB : w.alloc (.cells #[.int .i64 o.k, .int .i64 o.proc, .int .i64 o.addr, .int .i64 o.n, .int .i64 o.prot, .bool o.sh, .int .i64 o.file, .int .i64 o.off, .bool o.fixed, .int .i64 o.how, .int .i64 o.ati, .int .i64 o.v, .int .i64 o.hd, .int .i64 o.to] 34) = wB at *
  have kB := k.grow ga
  have hB2 := hB.grow (grown_drew1 wB)
  have kE := kB.grow (grown_drew1 wB)
  have k0 := kB.hw.at.1
  have hlk := kE.pm.look (geA_ids hp) hi
  have HM := Lib.hid (isMade_ok k0)
  have HG := Lib.hid (grown_trans ga (grown_drew1 wB))
  have HC := Lib.hid (hD wB.drew (grown_trans ga (grown_drew1 wB)))
  obtain ⟨c0, c1, c2, c3, c4, c5, c6, c7, c8, c9, c10, c11, c12, c13⟩ := hB.at
  obtain ⟨d0, d1, d2, d3, d4, d5, d6, d7, d8, d9, d10, d11, d12, d13⟩ := hB2.at
  rw [hk] at c0 d0 HC
  clear k kB kE ga hB hB2 hD hi hp hk
  go_enter Tryz.func32, Tryz.ntmps32
  go_upto_region 1 with fail
  try simp only [hwB]
  clear hwB
  go_wp2_with fail
  refine HM.out.mono ?_
  rintro e wX ⟨rfl, eX⟩
  subst eX
  go_upto_region 3 with fail
  go_region
  clear k0 hlk c0 c1 c2 c3 c4 c5 c6 c7 c8 c9 c10 c11 c12 c13 HM
  go_wp2_with fail
  refine HC.out.mono ?_
  rintro e w5 ⟨rfl, hD5⟩
  have HD5 := Lib.hid (hD5.of_grown HG.out)
  clear hD5 d0 d1 d2 d3 d4 d5 d6 d7 d8 d9 d10 d11 d12 d13 HC HG
  go_wp2_with fail
  go_ret2
  exact ⟨rfl, HD5.out⟩
set_option maxRecDepth 100000 in
set_option maxHeartbeats 8000000 in
theorem act_advise (k : FW w kd t r h S) (o : FOp) (hk : o.k = 5) (hi : okI o.proc) (hp : geA S.ps o.proc = some p) {n er : Int}
    (hD : ∀ W, w.grownBy W none → Calls Tryz.prog 70 #[.pointer (some ⟨(h.g o.proc).b, 0, none⟩), .agg #[.int .i64 o.k, .int .i64 o.proc, .int .i64 o.addr, .int .i64 o.n, .int .i64 o.prot, .bool o.sh, .int .i64 o.file, .int .i64 o.off, .bool o.fixed, .int .i64 o.how, .int .i64 o.ati, .int .i64 o.v, .int .i64 o.hd, .int .i64 o.to]] W fun e w' => e = .returned (.int .i64 er) ∧ Dn t r kd W w' S') :
    Calls Tryz.prog 32 #[.pointer (some ⟨r, 0, none⟩), .agg #[.int .i64 o.k, .int .i64 o.proc, .int .i64 o.addr, .int .i64 o.n, .int .i64 o.prot, .bool o.sh, .int .i64 o.file, .int .i64 o.off, .bool o.fixed, .int .i64 o.how, .int .i64 o.ati, .int .i64 o.v, .int .i64 o.hd, .int .i64 o.to]] w fun e w' => e = .returned (.tuple #[.int .i64 0, .int .i64 er]) ∧ Dn t r kd w w' S' := by
  have ga := World.grownBy_alloc w (.cells #[.int .i64 o.k, .int .i64 o.proc, .int .i64 o.addr, .int .i64 o.n, .int .i64 o.prot, .bool o.sh, .int .i64 o.file, .int .i64 o.off, .bool o.fixed, .int .i64 o.how, .int .i64 o.ati, .int .i64 o.v, .int .i64 o.hd, .int .i64 o.to] 34) none
  have hB := OpB.new w o
  generalize hwB : w.alloc (.cells #[.int .i64 o.k, .int .i64 o.proc, .int .i64 o.addr, .int .i64 o.n, .int .i64 o.prot, .bool o.sh, .int .i64 o.file, .int .i64 o.off, .bool o.fixed, .int .i64 o.how, .int .i64 o.ati, .int .i64 o.v, .int .i64 o.hd, .int .i64 o.to] 34) = wB at *
  have kB := k.grow ga
  have hB2 := hB.grow (grown_drew1 wB)
  have kE := kB.grow (grown_drew1 wB)
  have k0 := kB.hw.at.1
  have hlk := kE.pm.look (geA_ids hp) hi
  have HM := Lib.hid (isMade_ok k0)
  have HG := Lib.hid (grown_trans ga (grown_drew1 wB))
  have HC := Lib.hid (hD wB.drew (grown_trans ga (grown_drew1 wB)))
  obtain ⟨c0, c1, c2, c3, c4, c5, c6, c7, c8, c9, c10, c11, c12, c13⟩ := hB.at
  obtain ⟨d0, d1, d2, d3, d4, d5, d6, d7, d8, d9, d10, d11, d12, d13⟩ := hB2.at
  rw [hk] at c0 d0 HC
  clear k kB kE ga hB hB2 hD hi hp hk
  go_enter Tryz.func32, Tryz.ntmps32
  go_upto_region 1 with fail
  try simp only [hwB]
  clear hwB
  go_wp2_with fail
  refine HM.out.mono ?_
  rintro e wX ⟨rfl, eX⟩
  subst eX
  go_upto_region 3 with fail
  go_region
  clear k0 hlk c0 c1 c2 c3 c4 c5 c6 c7 c8 c9 c10 c11 c12 c13 HM
  go_wp2_with fail
  refine HC.out.mono ?_
  rintro e w5 ⟨rfl, hD5⟩
  have HD5 := Lib.hid (hD5.of_grown HG.out)
  clear hD5 d0 d1 d2 d3 d4 d5 d6 d7 d8 d9 d10 d11 d12 d13 HC HG
  go_wp2_with fail
  go_ret2
  exact ⟨rfl, HD5.out⟩
set_option maxRecDepth 100000 in
set_option maxHeartbeats 8000000 in
theorem act_exit (k : FW w kd t r h S) (o : FOp) (hk : o.k = 11) (hi : okI o.proc) (hp : geA S.ps o.proc = some p) {n er : Int}
    (hD : ∀ W, w.grownBy W none → Calls Tryz.prog 75 #[.pointer (some ⟨r, 0, none⟩), .int .i64 o.proc] W fun e w' => e = .returned (.int .i64 er) ∧ Dn t r kd W w' S') :
    Calls Tryz.prog 32 #[.pointer (some ⟨r, 0, none⟩), .agg #[.int .i64 o.k, .int .i64 o.proc, .int .i64 o.addr, .int .i64 o.n, .int .i64 o.prot, .bool o.sh, .int .i64 o.file, .int .i64 o.off, .bool o.fixed, .int .i64 o.how, .int .i64 o.ati, .int .i64 o.v, .int .i64 o.hd, .int .i64 o.to]] w fun e w' => e = .returned (.tuple #[.int .i64 0, .int .i64 er]) ∧ Dn t r kd w w' S' := by
  have ga := World.grownBy_alloc w (.cells #[.int .i64 o.k, .int .i64 o.proc, .int .i64 o.addr, .int .i64 o.n, .int .i64 o.prot, .bool o.sh, .int .i64 o.file, .int .i64 o.off, .bool o.fixed, .int .i64 o.how, .int .i64 o.ati, .int .i64 o.v, .int .i64 o.hd, .int .i64 o.to] 34) none
  have hB := OpB.new w o
  generalize hwB : w.alloc (.cells #[.int .i64 o.k, .int .i64 o.proc, .int .i64 o.addr, .int .i64 o.n, .int .i64 o.prot, .bool o.sh, .int .i64 o.file, .int .i64 o.off, .bool o.fixed, .int .i64 o.how, .int .i64 o.ati, .int .i64 o.v, .int .i64 o.hd, .int .i64 o.to] 34) = wB at *
  have kB := k.grow ga
  have hB2 := hB.grow (grown_drew1 wB)
  have kE := kB.grow (grown_drew1 wB)
  have k0 := kB.hw.at.1
  have hlk := kE.pm.look (geA_ids hp) hi
  have HM := Lib.hid (isMade_ok k0)
  have HG := Lib.hid (grown_trans ga (grown_drew1 wB))
  have HC := Lib.hid (hD wB.drew (grown_trans ga (grown_drew1 wB)))
  obtain ⟨c0, c1, c2, c3, c4, c5, c6, c7, c8, c9, c10, c11, c12, c13⟩ := hB.at
  obtain ⟨d0, d1, d2, d3, d4, d5, d6, d7, d8, d9, d10, d11, d12, d13⟩ := hB2.at
  rw [hk] at c0 d0
  clear k kB kE ga hB hB2 hD hi hp hk
  go_enter Tryz.func32, Tryz.ntmps32
  go_upto_region 1 with fail
  try simp only [hwB]
  clear hwB
  go_wp2_with fail
  refine HM.out.mono ?_
  rintro e wX ⟨rfl, eX⟩
  subst eX
  go_upto_region 3 with fail
  go_region
  clear k0 hlk c0 c1 c2 c3 c4 c5 c6 c7 c8 c9 c10 c11 c12 c13 HM
  go_wp2_with fail
  refine HC.out.mono ?_
  rintro e w5 ⟨rfl, hD5⟩
  have HD5 := Lib.hid (hD5.of_grown HG.out)
  clear hD5 d0 d1 d2 d3 d4 d5 d6 d7 d8 d9 d10 d11 d12 d13 HC HG
  go_wp2_with fail
  go_ret2
  exact ⟨rfl, HD5.out⟩
set_option maxRecDepth 100000 in
set_option maxHeartbeats 8000000 in
theorem act_lend (k : FW w kd t r h S) (o : FOp) (hk : o.k = 12) (hi : okI o.proc) (hp : geA S.ps o.proc = some p) {n er : Int}
    (hD : ∀ W, w.grownBy W none → Calls Tryz.prog 76 #[.pointer (some ⟨r, 0, none⟩), .pointer (some ⟨(h.g o.proc).b, 0, none⟩), .agg #[.int .i64 o.k, .int .i64 o.proc, .int .i64 o.addr, .int .i64 o.n, .int .i64 o.prot, .bool o.sh, .int .i64 o.file, .int .i64 o.off, .bool o.fixed, .int .i64 o.how, .int .i64 o.ati, .int .i64 o.v, .int .i64 o.hd, .int .i64 o.to]] W fun e w' => e = .returned (.tuple #[.int .i64 n, .int .i64 er]) ∧ Dn t r kd W w' S') :
    Calls Tryz.prog 32 #[.pointer (some ⟨r, 0, none⟩), .agg #[.int .i64 o.k, .int .i64 o.proc, .int .i64 o.addr, .int .i64 o.n, .int .i64 o.prot, .bool o.sh, .int .i64 o.file, .int .i64 o.off, .bool o.fixed, .int .i64 o.how, .int .i64 o.ati, .int .i64 o.v, .int .i64 o.hd, .int .i64 o.to]] w fun e w' => e = .returned (.tuple #[.int .i64 n, .int .i64 er]) ∧ Dn t r kd w w' S' := by
  have ga := World.grownBy_alloc w (.cells #[.int .i64 o.k, .int .i64 o.proc, .int .i64 o.addr, .int .i64 o.n, .int .i64 o.prot, .bool o.sh, .int .i64 o.file, .int .i64 o.off, .bool o.fixed, .int .i64 o.how, .int .i64 o.ati, .int .i64 o.v, .int .i64 o.hd, .int .i64 o.to] 34) none
  have hB := OpB.new w o
  generalize hwB : w.alloc (.cells #[.int .i64 o.k, .int .i64 o.proc, .int .i64 o.addr, .int .i64 o.n, .int .i64 o.prot, .bool o.sh, .int .i64 o.file, .int .i64 o.off, .bool o.fixed, .int .i64 o.how, .int .i64 o.ati, .int .i64 o.v, .int .i64 o.hd, .int .i64 o.to] 34) = wB at *
  have kB := k.grow ga
  have hB2 := hB.grow (grown_drew1 wB)
  have kE := kB.grow (grown_drew1 wB)
  have k0 := kB.hw.at.1
  have hlk := kE.pm.look (geA_ids hp) hi
  have HM := Lib.hid (isMade_ok k0)
  have HG := Lib.hid (grown_trans ga (grown_drew1 wB))
  have HC := Lib.hid (hD wB.drew (grown_trans ga (grown_drew1 wB)))
  obtain ⟨c0, c1, c2, c3, c4, c5, c6, c7, c8, c9, c10, c11, c12, c13⟩ := hB.at
  obtain ⟨d0, d1, d2, d3, d4, d5, d6, d7, d8, d9, d10, d11, d12, d13⟩ := hB2.at
  rw [hk] at c0 d0 HC
  clear k kB kE ga hB hB2 hD hi hp hk
  go_enter Tryz.func32, Tryz.ntmps32
  go_upto_region 1 with fail
  try simp only [hwB]
  clear hwB
  go_wp2_with fail
  refine HM.out.mono ?_
  rintro e wX ⟨rfl, eX⟩
  subst eX
  go_upto_region 3 with fail
  go_region
  clear k0 hlk c0 c1 c2 c3 c4 c5 c6 c7 c8 c9 c10 c11 c12 c13 HM
  go_wp2_with fail
  refine HC.out.mono ?_
  rintro e w5 ⟨rfl, hD5⟩
  have HD5 := Lib.hid (hD5.of_grown HG.out)
  clear hD5 d0 d1 d2 d3 d4 d5 d6 d7 d8 d9 d10 d11 d12 d13 HC HG
  go_wp2_with fail
  go_ret2
  exact ⟨rfl, HD5.out⟩
set_option maxRecDepth 100000 in
set_option maxHeartbeats 8000000 in
theorem act_send (k : FW w kd t r h S) (o : FOp) (hk : o.k = 20) (hi : okI o.proc) (hp : geA S.ps o.proc = some p) {n er : Int}
    (hD : ∀ W, w.grownBy W none → Calls Tryz.prog 82 #[.pointer (some ⟨r, 0, none⟩), .pointer (some ⟨(h.g o.proc).b, 0, none⟩), .agg #[.int .i64 o.k, .int .i64 o.proc, .int .i64 o.addr, .int .i64 o.n, .int .i64 o.prot, .bool o.sh, .int .i64 o.file, .int .i64 o.off, .bool o.fixed, .int .i64 o.how, .int .i64 o.ati, .int .i64 o.v, .int .i64 o.hd, .int .i64 o.to]] W fun e w' => e = .returned (.tuple #[.int .i64 n, .int .i64 er]) ∧ Dn t r kd W w' S') :
    Calls Tryz.prog 32 #[.pointer (some ⟨r, 0, none⟩), .agg #[.int .i64 o.k, .int .i64 o.proc, .int .i64 o.addr, .int .i64 o.n, .int .i64 o.prot, .bool o.sh, .int .i64 o.file, .int .i64 o.off, .bool o.fixed, .int .i64 o.how, .int .i64 o.ati, .int .i64 o.v, .int .i64 o.hd, .int .i64 o.to]] w fun e w' => e = .returned (.tuple #[.int .i64 n, .int .i64 er]) ∧ Dn t r kd w w' S' := by
  have ga := World.grownBy_alloc w (.cells #[.int .i64 o.k, .int .i64 o.proc, .int .i64 o.addr, .int .i64 o.n, .int .i64 o.prot, .bool o.sh, .int .i64 o.file, .int .i64 o.off, .bool o.fixed, .int .i64 o.how, .int .i64 o.ati, .int .i64 o.v, .int .i64 o.hd, .int .i64 o.to] 34) none
  have hB := OpB.new w o
  generalize hwB : w.alloc (.cells #[.int .i64 o.k, .int .i64 o.proc, .int .i64 o.addr, .int .i64 o.n, .int .i64 o.prot, .bool o.sh, .int .i64 o.file, .int .i64 o.off, .bool o.fixed, .int .i64 o.how, .int .i64 o.ati, .int .i64 o.v, .int .i64 o.hd, .int .i64 o.to] 34) = wB at *
  have kB := k.grow ga
  have hB2 := hB.grow (grown_drew1 wB)
  have kE := kB.grow (grown_drew1 wB)
  have k0 := kB.hw.at.1
  have hlk := kE.pm.look (geA_ids hp) hi
  have HM := Lib.hid (isMade_ok k0)
  have HG := Lib.hid (grown_trans ga (grown_drew1 wB))
  have HC := Lib.hid (hD wB.drew (grown_trans ga (grown_drew1 wB)))
  obtain ⟨c0, c1, c2, c3, c4, c5, c6, c7, c8, c9, c10, c11, c12, c13⟩ := hB.at
  obtain ⟨d0, d1, d2, d3, d4, d5, d6, d7, d8, d9, d10, d11, d12, d13⟩ := hB2.at
  rw [hk] at c0 d0 HC
  clear k kB kE ga hB hB2 hD hi hp hk
  go_enter Tryz.func32, Tryz.ntmps32
  go_upto_region 1 with fail
  try simp only [hwB]
  clear hwB
  go_wp2_with fail
  refine HM.out.mono ?_
  rintro e wX ⟨rfl, eX⟩
  subst eX
  go_upto_region 3 with fail
  go_region
  clear k0 hlk c0 c1 c2 c3 c4 c5 c6 c7 c8 c9 c10 c11 c12 c13 HM
  go_wp2_with fail
  refine HC.out.mono ?_
  rintro e w5 ⟨rfl, hD5⟩
  have HD5 := Lib.hid (hD5.of_grown HG.out)
  clear hD5 d0 d1 d2 d3 d4 d5 d6 d7 d8 d9 d10 d11 d12 d13 HC HG
  go_wp2_with fail
  go_ret2
  exact ⟨rfl, HD5.out⟩
set_option maxRecDepth 100000 in
set_option maxHeartbeats 8000000 in
theorem act_peek (k : FW w kd t r h S) (o : FOp) (hk : o.k = 13) (hi : okI o.proc) {n er : Int}
    (hD : ∀ W, w.grownBy W none → Calls Tryz.prog 77 #[.pointer (some ⟨r, 0, none⟩), .agg #[.int .i64 o.k, .int .i64 o.proc, .int .i64 o.addr, .int .i64 o.n, .int .i64 o.prot, .bool o.sh, .int .i64 o.file, .int .i64 o.off, .bool o.fixed, .int .i64 o.how, .int .i64 o.ati, .int .i64 o.v, .int .i64 o.hd, .int .i64 o.to]] W fun e w' => e = .returned (.tuple #[.int .i64 n, .int .i64 er]) ∧ Dn t r kd W w' S') :
    Calls Tryz.prog 32 #[.pointer (some ⟨r, 0, none⟩), .agg #[.int .i64 o.k, .int .i64 o.proc, .int .i64 o.addr, .int .i64 o.n, .int .i64 o.prot, .bool o.sh, .int .i64 o.file, .int .i64 o.off, .bool o.fixed, .int .i64 o.how, .int .i64 o.ati, .int .i64 o.v, .int .i64 o.hd, .int .i64 o.to]] w fun e w' => e = .returned (.tuple #[.int .i64 n, .int .i64 er]) ∧ Dn t r kd w w' S' := by
  cases hp : geA S.ps o.proc with
  | some p =>
    have ga := World.grownBy_alloc w (.cells #[.int .i64 o.k, .int .i64 o.proc, .int .i64 o.addr, .int .i64 o.n, .int .i64 o.prot, .bool o.sh, .int .i64 o.file, .int .i64 o.off, .bool o.fixed, .int .i64 o.how, .int .i64 o.ati, .int .i64 o.v, .int .i64 o.hd, .int .i64 o.to] 34) none
    have hB := OpB.new w o
    generalize hwB : w.alloc (.cells #[.int .i64 o.k, .int .i64 o.proc, .int .i64 o.addr, .int .i64 o.n, .int .i64 o.prot, .bool o.sh, .int .i64 o.file, .int .i64 o.off, .bool o.fixed, .int .i64 o.how, .int .i64 o.ati, .int .i64 o.v, .int .i64 o.hd, .int .i64 o.to] 34) = wB at *
    have kB := k.grow ga
    have hB2 := hB.grow (grown_drew1 wB)
    have kE := kB.grow (grown_drew1 wB)
    have k0 := kB.hw.at.1
    have hlk := kE.pm.look (geA_ids hp) hi
    have HM := Lib.hid (isMade_ok k0)
    have HG := Lib.hid (grown_trans ga (grown_drew1 wB))
    have HC := Lib.hid (hD wB.drew (grown_trans ga (grown_drew1 wB)))
    obtain ⟨c0, c1, c2, c3, c4, c5, c6, c7, c8, c9, c10, c11, c12, c13⟩ := hB.at
    obtain ⟨d0, d1, d2, d3, d4, d5, d6, d7, d8, d9, d10, d11, d12, d13⟩ := hB2.at
    rw [hk] at c0 d0 HC
    clear k kB kE ga hB hB2 hD hi hp hk
    go_enter Tryz.func32, Tryz.ntmps32
    go_upto_region 1 with fail
    try simp only [hwB]
    clear hwB
    go_wp2_with fail
    refine HM.out.mono ?_
    rintro e wX ⟨rfl, eX⟩
    subst eX
    go_upto_region 3 with fail
    go_region
    clear k0 hlk c0 c1 c2 c3 c4 c5 c6 c7 c8 c9 c10 c11 c12 c13 HM
    go_wp2_with fail
    refine HC.out.mono ?_
    rintro e w5 ⟨rfl, hD5⟩
    have HD5 := Lib.hid (hD5.of_grown HG.out)
    clear hD5 d0 d1 d2 d3 d4 d5 d6 d7 d8 d9 d10 d11 d12 d13 HC HG
    go_wp2_with fail
    go_ret2
    exact ⟨rfl, HD5.out⟩
  | none =>
    have ga := World.grownBy_alloc w (.cells #[.int .i64 o.k, .int .i64 o.proc, .int .i64 o.addr, .int .i64 o.n, .int .i64 o.prot, .bool o.sh, .int .i64 o.file, .int .i64 o.off, .bool o.fixed, .int .i64 o.how, .int .i64 o.ati, .int .i64 o.v, .int .i64 o.hd, .int .i64 o.to] 34) none
    have hB := OpB.new w o
    generalize hwB : w.alloc (.cells #[.int .i64 o.k, .int .i64 o.proc, .int .i64 o.addr, .int .i64 o.n, .int .i64 o.prot, .bool o.sh, .int .i64 o.file, .int .i64 o.off, .bool o.fixed, .int .i64 o.how, .int .i64 o.ati, .int .i64 o.v, .int .i64 o.hd, .int .i64 o.to] 34) = wB at *
    have kB := k.grow ga
    have hB2 := hB.grow (grown_drew1 wB)
    have kE := kB.grow (grown_drew1 wB)
    have k0 := kB.hw.at.1
    have hlk := kE.pm.look0 (geA_noids hp) hi
    have HM := Lib.hid (isMade_ok k0)
    have HG := Lib.hid (grown_trans ga (grown_drew1 wB))
    have HC := Lib.hid (hD wB.drew (grown_trans ga (grown_drew1 wB)))
    have HN := Lib.hid (names_ok wB.drew 13 ⟨by decide, by decide⟩)
    rw [show namesB 13 = false from rfl] at HN
    obtain ⟨c0, c1, c2, c3, c4, c5, c6, c7, c8, c9, c10, c11, c12, c13⟩ := hB.at
    obtain ⟨d0, d1, d2, d3, d4, d5, d6, d7, d8, d9, d10, d11, d12, d13⟩ := hB2.at
    rw [hk] at c0 d0 HC
    clear k kB kE ga hB hB2 hD hi hp hk
    go_enter Tryz.func32, Tryz.ntmps32
    go_upto_region 1 with fail
    try simp only [hwB]
    clear hwB
    go_wp2_with fail
    refine HM.out.mono ?_
    rintro e wX ⟨rfl, eX⟩
    subst eX
    go_upto_region 3 with fail
    go_region
    clear k0 hlk c0 c1 c2 c3 c4 c5 c6 c7 c8 c9 c10 c11 c12 c13 HM
    go_wp2_with fail
    refine HN.out.mono ?_
    rintro e w4 ⟨rfl, e4⟩
    have e5 := e4.symm
    subst e5
    clear e4
    go_wp2_with fail
    refine HC.out.mono ?_
    rintro e w5 ⟨rfl, hD5⟩
    have HD5 := Lib.hid (hD5.of_grown HG.out)
    clear hD5 d0 d1 d2 d3 d4 d5 d6 d7 d8 d9 d10 d11 d12 d13 HC HG
    go_wp2_with fail
    go_ret2
    exact ⟨rfl, HD5.out⟩
set_option maxRecDepth 100000 in
set_option maxHeartbeats 8000000 in
theorem act_back (k : FW w kd t r h S) (o : FOp) (hk : o.k = 14) (hi : okI o.proc) {n er : Int}
    (hD : ∀ W, w.grownBy W none → Calls Tryz.prog 78 #[.pointer (some ⟨r, 0, none⟩), .agg #[.int .i64 o.k, .int .i64 o.proc, .int .i64 o.addr, .int .i64 o.n, .int .i64 o.prot, .bool o.sh, .int .i64 o.file, .int .i64 o.off, .bool o.fixed, .int .i64 o.how, .int .i64 o.ati, .int .i64 o.v, .int .i64 o.hd, .int .i64 o.to]] W fun e w' => e = .returned (.int .i64 er) ∧ Dn t r kd W w' S') :
    Calls Tryz.prog 32 #[.pointer (some ⟨r, 0, none⟩), .agg #[.int .i64 o.k, .int .i64 o.proc, .int .i64 o.addr, .int .i64 o.n, .int .i64 o.prot, .bool o.sh, .int .i64 o.file, .int .i64 o.off, .bool o.fixed, .int .i64 o.how, .int .i64 o.ati, .int .i64 o.v, .int .i64 o.hd, .int .i64 o.to]] w fun e w' => e = .returned (.tuple #[.int .i64 0, .int .i64 er]) ∧ Dn t r kd w w' S' := by
  cases hp : geA S.ps o.proc with
  | some p =>
    have ga := World.grownBy_alloc w (.cells #[.int .i64 o.k, .int .i64 o.proc, .int .i64 o.addr, .int .i64 o.n, .int .i64 o.prot, .bool o.sh, .int .i64 o.file, .int .i64 o.off, .bool o.fixed, .int .i64 o.how, .int .i64 o.ati, .int .i64 o.v, .int .i64 o.hd, .int .i64 o.to] 34) none
    have hB := OpB.new w o
    generalize hwB : w.alloc (.cells #[.int .i64 o.k, .int .i64 o.proc, .int .i64 o.addr, .int .i64 o.n, .int .i64 o.prot, .bool o.sh, .int .i64 o.file, .int .i64 o.off, .bool o.fixed, .int .i64 o.how, .int .i64 o.ati, .int .i64 o.v, .int .i64 o.hd, .int .i64 o.to] 34) = wB at *
    have kB := k.grow ga
    have hB2 := hB.grow (grown_drew1 wB)
    have kE := kB.grow (grown_drew1 wB)
    have k0 := kB.hw.at.1
    have hlk := kE.pm.look (geA_ids hp) hi
    have HM := Lib.hid (isMade_ok k0)
    have HG := Lib.hid (grown_trans ga (grown_drew1 wB))
    have HC := Lib.hid (hD wB.drew (grown_trans ga (grown_drew1 wB)))
    obtain ⟨c0, c1, c2, c3, c4, c5, c6, c7, c8, c9, c10, c11, c12, c13⟩ := hB.at
    obtain ⟨d0, d1, d2, d3, d4, d5, d6, d7, d8, d9, d10, d11, d12, d13⟩ := hB2.at
    rw [hk] at c0 d0 HC
    clear k kB kE ga hB hB2 hD hi hp hk
    go_enter Tryz.func32, Tryz.ntmps32
    go_upto_region 1 with fail
    try simp only [hwB]
    clear hwB
    go_wp2_with fail
    refine HM.out.mono ?_
    rintro e wX ⟨rfl, eX⟩
    subst eX
    go_upto_region 3 with fail
    go_region
    clear k0 hlk c0 c1 c2 c3 c4 c5 c6 c7 c8 c9 c10 c11 c12 c13 HM
    go_wp2_with fail
    refine HC.out.mono ?_
    rintro e w5 ⟨rfl, hD5⟩
    have HD5 := Lib.hid (hD5.of_grown HG.out)
    clear hD5 d0 d1 d2 d3 d4 d5 d6 d7 d8 d9 d10 d11 d12 d13 HC HG
    go_wp2_with fail
    go_ret2
    exact ⟨rfl, HD5.out⟩
  | none =>
    have ga := World.grownBy_alloc w (.cells #[.int .i64 o.k, .int .i64 o.proc, .int .i64 o.addr, .int .i64 o.n, .int .i64 o.prot, .bool o.sh, .int .i64 o.file, .int .i64 o.off, .bool o.fixed, .int .i64 o.how, .int .i64 o.ati, .int .i64 o.v, .int .i64 o.hd, .int .i64 o.to] 34) none
    have hB := OpB.new w o
    generalize hwB : w.alloc (.cells #[.int .i64 o.k, .int .i64 o.proc, .int .i64 o.addr, .int .i64 o.n, .int .i64 o.prot, .bool o.sh, .int .i64 o.file, .int .i64 o.off, .bool o.fixed, .int .i64 o.how, .int .i64 o.ati, .int .i64 o.v, .int .i64 o.hd, .int .i64 o.to] 34) = wB at *
    have kB := k.grow ga
    have hB2 := hB.grow (grown_drew1 wB)
    have kE := kB.grow (grown_drew1 wB)
    have k0 := kB.hw.at.1
    have hlk := kE.pm.look0 (geA_noids hp) hi
    have HM := Lib.hid (isMade_ok k0)
    have HG := Lib.hid (grown_trans ga (grown_drew1 wB))
    have HC := Lib.hid (hD wB.drew (grown_trans ga (grown_drew1 wB)))
    have HN := Lib.hid (names_ok wB.drew 14 ⟨by decide, by decide⟩)
    rw [show namesB 14 = false from rfl] at HN
    obtain ⟨c0, c1, c2, c3, c4, c5, c6, c7, c8, c9, c10, c11, c12, c13⟩ := hB.at
    obtain ⟨d0, d1, d2, d3, d4, d5, d6, d7, d8, d9, d10, d11, d12, d13⟩ := hB2.at
    rw [hk] at c0 d0 HC
    clear k kB kE ga hB hB2 hD hi hp hk
    go_enter Tryz.func32, Tryz.ntmps32
    go_upto_region 1 with fail
    try simp only [hwB]
    clear hwB
    go_wp2_with fail
    refine HM.out.mono ?_
    rintro e wX ⟨rfl, eX⟩
    subst eX
    go_upto_region 3 with fail
    go_region
    clear k0 hlk c0 c1 c2 c3 c4 c5 c6 c7 c8 c9 c10 c11 c12 c13 HM
    go_wp2_with fail
    refine HN.out.mono ?_
    rintro e w4 ⟨rfl, e4⟩
    have e5 := e4.symm
    subst e5
    clear e4
    go_wp2_with fail
    refine HC.out.mono ?_
    rintro e w5 ⟨rfl, hD5⟩
    have HD5 := Lib.hid (hD5.of_grown HG.out)
    clear hD5 d0 d1 d2 d3 d4 d5 d6 d7 d8 d9 d10 d11 d12 d13 HC HG
    go_wp2_with fail
    go_ret2
    exact ⟨rfl, HD5.out⟩
set_option maxRecDepth 100000 in
set_option maxHeartbeats 8000000 in
theorem act_put (k : FW w kd t r h S) (o : FOp) (hk : o.k = 15) (hi : okI o.proc) {n er : Int}
    (hD : ∀ W, w.grownBy W none → Calls Tryz.prog 79 #[.pointer (some ⟨r, 0, none⟩), .agg #[.int .i64 o.k, .int .i64 o.proc, .int .i64 o.addr, .int .i64 o.n, .int .i64 o.prot, .bool o.sh, .int .i64 o.file, .int .i64 o.off, .bool o.fixed, .int .i64 o.how, .int .i64 o.ati, .int .i64 o.v, .int .i64 o.hd, .int .i64 o.to]] W fun e w' => e = .returned (.int .i64 er) ∧ Dn t r kd W w' S') :
    Calls Tryz.prog 32 #[.pointer (some ⟨r, 0, none⟩), .agg #[.int .i64 o.k, .int .i64 o.proc, .int .i64 o.addr, .int .i64 o.n, .int .i64 o.prot, .bool o.sh, .int .i64 o.file, .int .i64 o.off, .bool o.fixed, .int .i64 o.how, .int .i64 o.ati, .int .i64 o.v, .int .i64 o.hd, .int .i64 o.to]] w fun e w' => e = .returned (.tuple #[.int .i64 0, .int .i64 er]) ∧ Dn t r kd w w' S' := by
  cases hp : geA S.ps o.proc with
  | some p =>
    have ga := World.grownBy_alloc w (.cells #[.int .i64 o.k, .int .i64 o.proc, .int .i64 o.addr, .int .i64 o.n, .int .i64 o.prot, .bool o.sh, .int .i64 o.file, .int .i64 o.off, .bool o.fixed, .int .i64 o.how, .int .i64 o.ati, .int .i64 o.v, .int .i64 o.hd, .int .i64 o.to] 34) none
    have hB := OpB.new w o
    generalize hwB : w.alloc (.cells #[.int .i64 o.k, .int .i64 o.proc, .int .i64 o.addr, .int .i64 o.n, .int .i64 o.prot, .bool o.sh, .int .i64 o.file, .int .i64 o.off, .bool o.fixed, .int .i64 o.how, .int .i64 o.ati, .int .i64 o.v, .int .i64 o.hd, .int .i64 o.to] 34) = wB at *
    have kB := k.grow ga
    have hB2 := hB.grow (grown_drew1 wB)
    have kE := kB.grow (grown_drew1 wB)
    have k0 := kB.hw.at.1
    have hlk := kE.pm.look (geA_ids hp) hi
    have HM := Lib.hid (isMade_ok k0)
    have HG := Lib.hid (grown_trans ga (grown_drew1 wB))
    have HC := Lib.hid (hD wB.drew (grown_trans ga (grown_drew1 wB)))
    obtain ⟨c0, c1, c2, c3, c4, c5, c6, c7, c8, c9, c10, c11, c12, c13⟩ := hB.at
    obtain ⟨d0, d1, d2, d3, d4, d5, d6, d7, d8, d9, d10, d11, d12, d13⟩ := hB2.at
    rw [hk] at c0 d0 HC
    clear k kB kE ga hB hB2 hD hi hp hk
    go_enter Tryz.func32, Tryz.ntmps32
    go_upto_region 1 with fail
    try simp only [hwB]
    clear hwB
    go_wp2_with fail
    refine HM.out.mono ?_
    rintro e wX ⟨rfl, eX⟩
    subst eX
    go_upto_region 3 with fail
    go_region
    clear k0 hlk c0 c1 c2 c3 c4 c5 c6 c7 c8 c9 c10 c11 c12 c13 HM
    go_wp2_with fail
    refine HC.out.mono ?_
    rintro e w5 ⟨rfl, hD5⟩
    have HD5 := Lib.hid (hD5.of_grown HG.out)
    clear hD5 d0 d1 d2 d3 d4 d5 d6 d7 d8 d9 d10 d11 d12 d13 HC HG
    go_wp2_with fail
    go_ret2
    exact ⟨rfl, HD5.out⟩
  | none =>
    have ga := World.grownBy_alloc w (.cells #[.int .i64 o.k, .int .i64 o.proc, .int .i64 o.addr, .int .i64 o.n, .int .i64 o.prot, .bool o.sh, .int .i64 o.file, .int .i64 o.off, .bool o.fixed, .int .i64 o.how, .int .i64 o.ati, .int .i64 o.v, .int .i64 o.hd, .int .i64 o.to] 34) none
    have hB := OpB.new w o
    generalize hwB : w.alloc (.cells #[.int .i64 o.k, .int .i64 o.proc, .int .i64 o.addr, .int .i64 o.n, .int .i64 o.prot, .bool o.sh, .int .i64 o.file, .int .i64 o.off, .bool o.fixed, .int .i64 o.how, .int .i64 o.ati, .int .i64 o.v, .int .i64 o.hd, .int .i64 o.to] 34) = wB at *
    have kB := k.grow ga
    have hB2 := hB.grow (grown_drew1 wB)
    have kE := kB.grow (grown_drew1 wB)
    have k0 := kB.hw.at.1
    have hlk := kE.pm.look0 (geA_noids hp) hi
    have HM := Lib.hid (isMade_ok k0)
    have HG := Lib.hid (grown_trans ga (grown_drew1 wB))
    have HC := Lib.hid (hD wB.drew (grown_trans ga (grown_drew1 wB)))
    have HN := Lib.hid (names_ok wB.drew 15 ⟨by decide, by decide⟩)
    rw [show namesB 15 = false from rfl] at HN
    obtain ⟨c0, c1, c2, c3, c4, c5, c6, c7, c8, c9, c10, c11, c12, c13⟩ := hB.at
    obtain ⟨d0, d1, d2, d3, d4, d5, d6, d7, d8, d9, d10, d11, d12, d13⟩ := hB2.at
    rw [hk] at c0 d0 HC
    clear k kB kE ga hB hB2 hD hi hp hk
    go_enter Tryz.func32, Tryz.ntmps32
    go_upto_region 1 with fail
    try simp only [hwB]
    clear hwB
    go_wp2_with fail
    refine HM.out.mono ?_
    rintro e wX ⟨rfl, eX⟩
    subst eX
    go_upto_region 3 with fail
    go_region
    clear k0 hlk c0 c1 c2 c3 c4 c5 c6 c7 c8 c9 c10 c11 c12 c13 HM
    go_wp2_with fail
    refine HN.out.mono ?_
    rintro e w4 ⟨rfl, e4⟩
    have e5 := e4.symm
    subst e5
    clear e4
    go_wp2_with fail
    refine HC.out.mono ?_
    rintro e w5 ⟨rfl, hD5⟩
    have HD5 := Lib.hid (hD5.of_grown HG.out)
    clear hD5 d0 d1 d2 d3 d4 d5 d6 d7 d8 d9 d10 d11 d12 d13 HC HG
    go_wp2_with fail
    go_ret2
    exact ⟨rfl, HD5.out⟩
set_option maxRecDepth 100000 in
set_option maxHeartbeats 8000000 in
theorem act_get (k : FW w kd t r h S) (o : FOp) (hk : o.k = 16) (hi : okI o.proc) {n er : Int}
    (hD : ∀ W, w.grownBy W none → Calls Tryz.prog 61 #[.pointer (some ⟨r, 0, none⟩), .agg #[.int .i64 o.k, .int .i64 o.proc, .int .i64 o.addr, .int .i64 o.n, .int .i64 o.prot, .bool o.sh, .int .i64 o.file, .int .i64 o.off, .bool o.fixed, .int .i64 o.how, .int .i64 o.ati, .int .i64 o.v, .int .i64 o.hd, .int .i64 o.to]] W fun e w' => e = .returned (.tuple #[.int .i64 n, .int .i64 er]) ∧ Dn t r kd W w' S') :
    Calls Tryz.prog 32 #[.pointer (some ⟨r, 0, none⟩), .agg #[.int .i64 o.k, .int .i64 o.proc, .int .i64 o.addr, .int .i64 o.n, .int .i64 o.prot, .bool o.sh, .int .i64 o.file, .int .i64 o.off, .bool o.fixed, .int .i64 o.how, .int .i64 o.ati, .int .i64 o.v, .int .i64 o.hd, .int .i64 o.to]] w fun e w' => e = .returned (.tuple #[.int .i64 n, .int .i64 er]) ∧ Dn t r kd w w' S' := by
  cases hp : geA S.ps o.proc with
  | some p =>
    have ga := World.grownBy_alloc w (.cells #[.int .i64 o.k, .int .i64 o.proc, .int .i64 o.addr, .int .i64 o.n, .int .i64 o.prot, .bool o.sh, .int .i64 o.file, .int .i64 o.off, .bool o.fixed, .int .i64 o.how, .int .i64 o.ati, .int .i64 o.v, .int .i64 o.hd, .int .i64 o.to] 34) none
    have hB := OpB.new w o
    generalize hwB : w.alloc (.cells #[.int .i64 o.k, .int .i64 o.proc, .int .i64 o.addr, .int .i64 o.n, .int .i64 o.prot, .bool o.sh, .int .i64 o.file, .int .i64 o.off, .bool o.fixed, .int .i64 o.how, .int .i64 o.ati, .int .i64 o.v, .int .i64 o.hd, .int .i64 o.to] 34) = wB at *
    have kB := k.grow ga
    have hB2 := hB.grow (grown_drew1 wB)
    have kE := kB.grow (grown_drew1 wB)
    have k0 := kB.hw.at.1
    have hlk := kE.pm.look (geA_ids hp) hi
    have HM := Lib.hid (isMade_ok k0)
    have HG := Lib.hid (grown_trans ga (grown_drew1 wB))
    have HC := Lib.hid (hD wB.drew (grown_trans ga (grown_drew1 wB)))
    obtain ⟨c0, c1, c2, c3, c4, c5, c6, c7, c8, c9, c10, c11, c12, c13⟩ := hB.at
    obtain ⟨d0, d1, d2, d3, d4, d5, d6, d7, d8, d9, d10, d11, d12, d13⟩ := hB2.at
    rw [hk] at c0 d0 HC
    clear k kB kE ga hB hB2 hD hi hp hk
    go_enter Tryz.func32, Tryz.ntmps32
    go_upto_region 1 with fail
    try simp only [hwB]
    clear hwB
    go_wp2_with fail
    refine HM.out.mono ?_
    rintro e wX ⟨rfl, eX⟩
    subst eX
    go_upto_region 3 with fail
    go_region
    clear k0 hlk c0 c1 c2 c3 c4 c5 c6 c7 c8 c9 c10 c11 c12 c13 HM
    go_wp2_with fail
    refine HC.out.mono ?_
    rintro e w5 ⟨rfl, hD5⟩
    have HD5 := Lib.hid (hD5.of_grown HG.out)
    clear hD5 d0 d1 d2 d3 d4 d5 d6 d7 d8 d9 d10 d11 d12 d13 HC HG
    go_wp2_with fail
    go_ret2
    exact ⟨rfl, HD5.out⟩
  | none =>
    have ga := World.grownBy_alloc w (.cells #[.int .i64 o.k, .int .i64 o.proc, .int .i64 o.addr, .int .i64 o.n, .int .i64 o.prot, .bool o.sh, .int .i64 o.file, .int .i64 o.off, .bool o.fixed, .int .i64 o.how, .int .i64 o.ati, .int .i64 o.v, .int .i64 o.hd, .int .i64 o.to] 34) none
    have hB := OpB.new w o
    generalize hwB : w.alloc (.cells #[.int .i64 o.k, .int .i64 o.proc, .int .i64 o.addr, .int .i64 o.n, .int .i64 o.prot, .bool o.sh, .int .i64 o.file, .int .i64 o.off, .bool o.fixed, .int .i64 o.how, .int .i64 o.ati, .int .i64 o.v, .int .i64 o.hd, .int .i64 o.to] 34) = wB at *
    have kB := k.grow ga
    have hB2 := hB.grow (grown_drew1 wB)
    have kE := kB.grow (grown_drew1 wB)
    have k0 := kB.hw.at.1
    have hlk := kE.pm.look0 (geA_noids hp) hi
    have HM := Lib.hid (isMade_ok k0)
    have HG := Lib.hid (grown_trans ga (grown_drew1 wB))
    have HC := Lib.hid (hD wB.drew (grown_trans ga (grown_drew1 wB)))
    have HN := Lib.hid (names_ok wB.drew 16 ⟨by decide, by decide⟩)
    rw [show namesB 16 = false from rfl] at HN
    obtain ⟨c0, c1, c2, c3, c4, c5, c6, c7, c8, c9, c10, c11, c12, c13⟩ := hB.at
    obtain ⟨d0, d1, d2, d3, d4, d5, d6, d7, d8, d9, d10, d11, d12, d13⟩ := hB2.at
    rw [hk] at c0 d0 HC
    clear k kB kE ga hB hB2 hD hi hp hk
    go_enter Tryz.func32, Tryz.ntmps32
    go_upto_region 1 with fail
    try simp only [hwB]
    clear hwB
    go_wp2_with fail
    refine HM.out.mono ?_
    rintro e wX ⟨rfl, eX⟩
    subst eX
    go_upto_region 3 with fail
    go_region
    clear k0 hlk c0 c1 c2 c3 c4 c5 c6 c7 c8 c9 c10 c11 c12 c13 HM
    go_wp2_with fail
    refine HN.out.mono ?_
    rintro e w4 ⟨rfl, e4⟩
    have e5 := e4.symm
    subst e5
    clear e4
    go_wp2_with fail
    refine HC.out.mono ?_
    rintro e w5 ⟨rfl, hD5⟩
    have HD5 := Lib.hid (hD5.of_grown HG.out)
    clear hD5 d0 d1 d2 d3 d4 d5 d6 d7 d8 d9 d10 d11 d12 d13 HC HG
    go_wp2_with fail
    go_ret2
    exact ⟨rfl, HD5.out⟩
set_option maxRecDepth 100000 in
set_option maxHeartbeats 8000000 in
theorem act_size (k : FW w kd t r h S) (o : FOp) (hk : o.k = 17) (hi : okI o.proc) {n er : Int}
    (hD : ∀ W, w.grownBy W none → Calls Tryz.prog 80 #[.pointer (some ⟨r, 0, none⟩), .agg #[.int .i64 o.k, .int .i64 o.proc, .int .i64 o.addr, .int .i64 o.n, .int .i64 o.prot, .bool o.sh, .int .i64 o.file, .int .i64 o.off, .bool o.fixed, .int .i64 o.how, .int .i64 o.ati, .int .i64 o.v, .int .i64 o.hd, .int .i64 o.to]] W fun e w' => e = .returned (.int .i64 er) ∧ Dn t r kd W w' S') :
    Calls Tryz.prog 32 #[.pointer (some ⟨r, 0, none⟩), .agg #[.int .i64 o.k, .int .i64 o.proc, .int .i64 o.addr, .int .i64 o.n, .int .i64 o.prot, .bool o.sh, .int .i64 o.file, .int .i64 o.off, .bool o.fixed, .int .i64 o.how, .int .i64 o.ati, .int .i64 o.v, .int .i64 o.hd, .int .i64 o.to]] w fun e w' => e = .returned (.tuple #[.int .i64 0, .int .i64 er]) ∧ Dn t r kd w w' S' := by
  cases hp : geA S.ps o.proc with
  | some p =>
    have ga := World.grownBy_alloc w (.cells #[.int .i64 o.k, .int .i64 o.proc, .int .i64 o.addr, .int .i64 o.n, .int .i64 o.prot, .bool o.sh, .int .i64 o.file, .int .i64 o.off, .bool o.fixed, .int .i64 o.how, .int .i64 o.ati, .int .i64 o.v, .int .i64 o.hd, .int .i64 o.to] 34) none
    have hB := OpB.new w o
    generalize hwB : w.alloc (.cells #[.int .i64 o.k, .int .i64 o.proc, .int .i64 o.addr, .int .i64 o.n, .int .i64 o.prot, .bool o.sh, .int .i64 o.file, .int .i64 o.off, .bool o.fixed, .int .i64 o.how, .int .i64 o.ati, .int .i64 o.v, .int .i64 o.hd, .int .i64 o.to] 34) = wB at *
    have kB := k.grow ga
    have hB2 := hB.grow (grown_drew1 wB)
    have kE := kB.grow (grown_drew1 wB)
    have k0 := kB.hw.at.1
    have hlk := kE.pm.look (geA_ids hp) hi
    have HM := Lib.hid (isMade_ok k0)
    have HG := Lib.hid (grown_trans ga (grown_drew1 wB))
    have HC := Lib.hid (hD wB.drew (grown_trans ga (grown_drew1 wB)))
    obtain ⟨c0, c1, c2, c3, c4, c5, c6, c7, c8, c9, c10, c11, c12, c13⟩ := hB.at
    obtain ⟨d0, d1, d2, d3, d4, d5, d6, d7, d8, d9, d10, d11, d12, d13⟩ := hB2.at
    rw [hk] at c0 d0 HC
    clear k kB kE ga hB hB2 hD hi hp hk
    go_enter Tryz.func32, Tryz.ntmps32
    go_upto_region 1 with fail
    try simp only [hwB]
    clear hwB
    go_wp2_with fail
    refine HM.out.mono ?_
    rintro e wX ⟨rfl, eX⟩
    subst eX
    go_upto_region 3 with fail
    go_region
    clear k0 hlk c0 c1 c2 c3 c4 c5 c6 c7 c8 c9 c10 c11 c12 c13 HM
    go_wp2_with fail
    refine HC.out.mono ?_
    rintro e w5 ⟨rfl, hD5⟩
    have HD5 := Lib.hid (hD5.of_grown HG.out)
    clear hD5 d0 d1 d2 d3 d4 d5 d6 d7 d8 d9 d10 d11 d12 d13 HC HG
    go_wp2_with fail
    go_ret2
    exact ⟨rfl, HD5.out⟩
  | none =>
    have ga := World.grownBy_alloc w (.cells #[.int .i64 o.k, .int .i64 o.proc, .int .i64 o.addr, .int .i64 o.n, .int .i64 o.prot, .bool o.sh, .int .i64 o.file, .int .i64 o.off, .bool o.fixed, .int .i64 o.how, .int .i64 o.ati, .int .i64 o.v, .int .i64 o.hd, .int .i64 o.to] 34) none
    have hB := OpB.new w o
    generalize hwB : w.alloc (.cells #[.int .i64 o.k, .int .i64 o.proc, .int .i64 o.addr, .int .i64 o.n, .int .i64 o.prot, .bool o.sh, .int .i64 o.file, .int .i64 o.off, .bool o.fixed, .int .i64 o.how, .int .i64 o.ati, .int .i64 o.v, .int .i64 o.hd, .int .i64 o.to] 34) = wB at *
    have kB := k.grow ga
    have hB2 := hB.grow (grown_drew1 wB)
    have kE := kB.grow (grown_drew1 wB)
    have k0 := kB.hw.at.1
    have hlk := kE.pm.look0 (geA_noids hp) hi
    have HM := Lib.hid (isMade_ok k0)
    have HG := Lib.hid (grown_trans ga (grown_drew1 wB))
    have HC := Lib.hid (hD wB.drew (grown_trans ga (grown_drew1 wB)))
    have HN := Lib.hid (names_ok wB.drew 17 ⟨by decide, by decide⟩)
    rw [show namesB 17 = false from rfl] at HN
    obtain ⟨c0, c1, c2, c3, c4, c5, c6, c7, c8, c9, c10, c11, c12, c13⟩ := hB.at
    obtain ⟨d0, d1, d2, d3, d4, d5, d6, d7, d8, d9, d10, d11, d12, d13⟩ := hB2.at
    rw [hk] at c0 d0 HC
    clear k kB kE ga hB hB2 hD hi hp hk
    go_enter Tryz.func32, Tryz.ntmps32
    go_upto_region 1 with fail
    try simp only [hwB]
    clear hwB
    go_wp2_with fail
    refine HM.out.mono ?_
    rintro e wX ⟨rfl, eX⟩
    subst eX
    go_upto_region 3 with fail
    go_region
    clear k0 hlk c0 c1 c2 c3 c4 c5 c6 c7 c8 c9 c10 c11 c12 c13 HM
    go_wp2_with fail
    refine HN.out.mono ?_
    rintro e w4 ⟨rfl, e4⟩
    have e5 := e4.symm
    subst e5
    clear e4
    go_wp2_with fail
    refine HC.out.mono ?_
    rintro e w5 ⟨rfl, hD5⟩
    have HD5 := Lib.hid (hD5.of_grown HG.out)
    clear hD5 d0 d1 d2 d3 d4 d5 d6 d7 d8 d9 d10 d11 d12 d13 HC HG
    go_wp2_with fail
    go_ret2
    exact ⟨rfl, HD5.out⟩
set_option maxRecDepth 100000 in
set_option maxHeartbeats 8000000 in
theorem act_sync (k : FW w kd t r h S) (o : FOp) (hk : o.k = 18) (hi : okI o.proc) {n er : Int}
    (hD : ∀ W, w.grownBy W none → Calls Tryz.prog 81 #[.pointer (some ⟨r, 0, none⟩), .agg #[.int .i64 o.k, .int .i64 o.proc, .int .i64 o.addr, .int .i64 o.n, .int .i64 o.prot, .bool o.sh, .int .i64 o.file, .int .i64 o.off, .bool o.fixed, .int .i64 o.how, .int .i64 o.ati, .int .i64 o.v, .int .i64 o.hd, .int .i64 o.to]] W fun e w' => e = .returned (.int .i64 er) ∧ Dn t r kd W w' S') :
    Calls Tryz.prog 32 #[.pointer (some ⟨r, 0, none⟩), .agg #[.int .i64 o.k, .int .i64 o.proc, .int .i64 o.addr, .int .i64 o.n, .int .i64 o.prot, .bool o.sh, .int .i64 o.file, .int .i64 o.off, .bool o.fixed, .int .i64 o.how, .int .i64 o.ati, .int .i64 o.v, .int .i64 o.hd, .int .i64 o.to]] w fun e w' => e = .returned (.tuple #[.int .i64 0, .int .i64 er]) ∧ Dn t r kd w w' S' := by
  cases hp : geA S.ps o.proc with
  | some p =>
    have ga := World.grownBy_alloc w (.cells #[.int .i64 o.k, .int .i64 o.proc, .int .i64 o.addr, .int .i64 o.n, .int .i64 o.prot, .bool o.sh, .int .i64 o.file, .int .i64 o.off, .bool o.fixed, .int .i64 o.how, .int .i64 o.ati, .int .i64 o.v, .int .i64 o.hd, .int .i64 o.to] 34) none
    have hB := OpB.new w o
    generalize hwB : w.alloc (.cells #[.int .i64 o.k, .int .i64 o.proc, .int .i64 o.addr, .int .i64 o.n, .int .i64 o.prot, .bool o.sh, .int .i64 o.file, .int .i64 o.off, .bool o.fixed, .int .i64 o.how, .int .i64 o.ati, .int .i64 o.v, .int .i64 o.hd, .int .i64 o.to] 34) = wB at *
    have kB := k.grow ga
    have hB2 := hB.grow (grown_drew1 wB)
    have kE := kB.grow (grown_drew1 wB)
    have k0 := kB.hw.at.1
    have hlk := kE.pm.look (geA_ids hp) hi
    have HM := Lib.hid (isMade_ok k0)
    have HG := Lib.hid (grown_trans ga (grown_drew1 wB))
    have HC := Lib.hid (hD wB.drew (grown_trans ga (grown_drew1 wB)))
    obtain ⟨c0, c1, c2, c3, c4, c5, c6, c7, c8, c9, c10, c11, c12, c13⟩ := hB.at
    obtain ⟨d0, d1, d2, d3, d4, d5, d6, d7, d8, d9, d10, d11, d12, d13⟩ := hB2.at
    rw [hk] at c0 d0 HC
    clear k kB kE ga hB hB2 hD hi hp hk
    go_enter Tryz.func32, Tryz.ntmps32
    go_upto_region 1 with fail
    try simp only [hwB]
    clear hwB
    go_wp2_with fail
    refine HM.out.mono ?_
    rintro e wX ⟨rfl, eX⟩
    subst eX
    go_upto_region 3 with fail
    go_region
    clear k0 hlk c0 c1 c2 c3 c4 c5 c6 c7 c8 c9 c10 c11 c12 c13 HM
    go_wp2_with fail
    refine HC.out.mono ?_
    rintro e w5 ⟨rfl, hD5⟩
    have HD5 := Lib.hid (hD5.of_grown HG.out)
    clear hD5 d0 d1 d2 d3 d4 d5 d6 d7 d8 d9 d10 d11 d12 d13 HC HG
    go_wp2_with fail
    go_ret2
    exact ⟨rfl, HD5.out⟩
  | none =>
    have ga := World.grownBy_alloc w (.cells #[.int .i64 o.k, .int .i64 o.proc, .int .i64 o.addr, .int .i64 o.n, .int .i64 o.prot, .bool o.sh, .int .i64 o.file, .int .i64 o.off, .bool o.fixed, .int .i64 o.how, .int .i64 o.ati, .int .i64 o.v, .int .i64 o.hd, .int .i64 o.to] 34) none
    have hB := OpB.new w o
    generalize hwB : w.alloc (.cells #[.int .i64 o.k, .int .i64 o.proc, .int .i64 o.addr, .int .i64 o.n, .int .i64 o.prot, .bool o.sh, .int .i64 o.file, .int .i64 o.off, .bool o.fixed, .int .i64 o.how, .int .i64 o.ati, .int .i64 o.v, .int .i64 o.hd, .int .i64 o.to] 34) = wB at *
    have kB := k.grow ga
    have hB2 := hB.grow (grown_drew1 wB)
    have kE := kB.grow (grown_drew1 wB)
    have k0 := kB.hw.at.1
    have hlk := kE.pm.look0 (geA_noids hp) hi
    have HM := Lib.hid (isMade_ok k0)
    have HG := Lib.hid (grown_trans ga (grown_drew1 wB))
    have HC := Lib.hid (hD wB.drew (grown_trans ga (grown_drew1 wB)))
    have HN := Lib.hid (names_ok wB.drew 18 ⟨by decide, by decide⟩)
    rw [show namesB 18 = false from rfl] at HN
    obtain ⟨c0, c1, c2, c3, c4, c5, c6, c7, c8, c9, c10, c11, c12, c13⟩ := hB.at
    obtain ⟨d0, d1, d2, d3, d4, d5, d6, d7, d8, d9, d10, d11, d12, d13⟩ := hB2.at
    rw [hk] at c0 d0 HC
    clear k kB kE ga hB hB2 hD hi hp hk
    go_enter Tryz.func32, Tryz.ntmps32
    go_upto_region 1 with fail
    try simp only [hwB]
    clear hwB
    go_wp2_with fail
    refine HM.out.mono ?_
    rintro e wX ⟨rfl, eX⟩
    subst eX
    go_upto_region 3 with fail
    go_region
    clear k0 hlk c0 c1 c2 c3 c4 c5 c6 c7 c8 c9 c10 c11 c12 c13 HM
    go_wp2_with fail
    refine HN.out.mono ?_
    rintro e w4 ⟨rfl, e4⟩
    have e5 := e4.symm
    subst e5
    clear e4
    go_wp2_with fail
    refine HC.out.mono ?_
    rintro e w5 ⟨rfl, hD5⟩
    have HD5 := Lib.hid (hD5.of_grown HG.out)
    clear hD5 d0 d1 d2 d3 d4 d5 d6 d7 d8 d9 d10 d11 d12 d13 HC HG
    go_wp2_with fail
    go_ret2
    exact ⟨rfl, HD5.out⟩
end
end Go.Proofs.YtefiiooibbkffaaGreat
