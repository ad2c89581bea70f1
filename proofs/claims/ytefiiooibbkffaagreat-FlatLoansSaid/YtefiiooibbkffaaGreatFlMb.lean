/- Layer 17 (landed): what stands at a spot. Layer 17 (landed): what a page means. Layer 17 (landed): a page's bytes; whether they may be reached; a byte that is loaded. Layer 17: an operation in memory. -/
import Derived.Test.YtefiiooibbkffaaGreatFlMa
import Derived.Test.YtefiiooibbkffaaGreatVmpFacts
import Derived.Deep.RegionHeld3
namespace Go.Proofs.YtefiiooibbkffaaGreat
open Go.ChangeShapes Go.WideShapes Go.ChangeAt Go.RowKit Go.Deep
open Extern.Stop (cell)
open Go.Sort
set_option linter.unusedVariables false
set_option linter.unusedSimpArgs false

section
variable {w : World} {kd : Nat → Ro} {t r : Nat} {h : Gh} {sz : List Int} {F : List ((Int × Int) × List UInt8)} {H : List (Int × Option (List UInt8))} {reg : Int}
theorem HW.grow (k : HW w kd t r h sz F H reg) {w' : World} (g : w.grownBy w' none) : HW w' kd t r h sz F H reg := k.ch (R := noRo) (Ch.grown g) id id id id id
/-- Files by value. -/
def flsV (h : Gh) : Value := .agg #[h.sv, .map (some h.fm)]
/-- 'f.sheets[s]': the pointer. -/
def shP (h : Gh) (F : List ((Int × Int) × List UInt8)) (k : Int × Int) : Value := ((geA F k).map fun _ => h.fv k).getD (.pointer none)
theorem HW.sheet (k : HW w kd t r h sz F H reg) (q : Int × Int) : Sh w kd (shP h F q) (geA F q) := by
  unfold shP
  cases e : geA F q with
  | none => exact Sh.none_ _ _
  | some l => exact k.fs _ (geA_some e)
theorem HW.look1 (k : HW w kd t r h sz F H reg) {f n : Int} (hf : okI f) (hn : okI n) : (Instr.lookup 53 (.map (some h.fm)) (.agg #[.int .i64 f, .int .i64 n]) false).run Tryz.prog w = .ok (shP h F (f, n)) w := by
  have h1 := k.fm.look lawsF (zd := .held (.pointer none)) (x := (f, n)) ⟨hf, hn⟩
  rw [lookV_map (fun q _ => h.fv q)] at h1
  exact h1
theorem HW.look2 (k : HW w kd t r h sz F H reg) {f n : Int} (hf : okI f) (hn : okI n) : (Instr.lookup 53 (.map (some h.fm)) (.agg #[.int .i64 f, .int .i64 n]) true).run Tryz.prog w = .ok (.tuple #[shP h F (f, n), .bool (geA F (f, n)).isSome]) w := by
  have h1 := k.fm.look2 lawsF (x := (f, n)) ⟨hf, hn⟩
  rw [lookV_map (fun q _ => h.fv q)] at h1
  have h2 : ((geA F (f, n)).map fun _ => h.fv (f, n)).isSome = (geA F (f, n)).isSome := by cases geA F (f, n) <;> rfl
  rw [← h2]
  exact h1
/-- What find tells. -/
def findV (h : Gh) (sz : List Int) (F : List ((Int × Int) × List UInt8)) (k : Int × Int) : Value := if (hasF sz k.1 && (decide (k.2 < 0) || decide (sz.getD (k.1 - 1).toNat 0 ≤ k.2))) = true then .pointer none else shP h F k
theorem HW.findV (k : HW w kd t r h sz F H reg) (q : Int × Int) : Sh w kd (findV h sz F q) ((findF sz F q).getD none) := by
  unfold Go.Proofs.YtefiiooibbkffaaGreat.findV findF
  split
  · exact Sh.none_ _ _
  · exact k.sheet q
set_option maxHeartbeats 1000000 in
theorem fl_find (k : HW w kd t r h sz F H reg) (hl : sz.length ≤ 16) (hz : ∀ n, n ∈ sz → okI n) (f n : Int) (hf : okI f) (hn : okI n) :
    Calls Tryz.prog 149 #[flsV h, .agg #[.int .i64 f, .int .i64 n]] w fun e w' => e = .returned (.tuple #[findV h sz F (f, n), .bool (findF sz F (f, n)).isSome]) ∧ w.grownBy w' none := by
  obtain ⟨a, cc, hsv⟩ := OwnOf.form k.sz
  have ga := World.grownBy_alloc w (.cells #[h.sv, .map (some h.fm)] 55 (0, 0)) none
  have gb := World.grownBy_alloc (w.alloc (.cells #[h.sv, .map (some h.fm)] 55 (0, 0))) (.cells #[.int .i64 f, .int .i64 n] 153 (0, 0)) none
  have g2 := grown_trans ga gb
  have kB := k.grow g2
  have b0 := gb.block w.heap.size (by simp) (by simp)
  rw [heap_alloc_new w (.cells #[h.sv, .map (some h.fm)] 55 (0, 0))] at b0
  have b1 := heap_second' w (.cells #[h.sv, .map (some h.fm)] 55 (0, 0)) (.cells #[.int .i64 f, .int .i64 n] 153 (0, 0))
  unfold flsV
  generalize hwB : (w.alloc (.cells #[h.sv, .map (some h.fm)] 55 (0, 0))).alloc (.cells #[.int .i64 f, .int .i64 n] 153 (0, 0)) = wB at *
  have k0 : wB.cell? ⟨w.heap.size, 0, none⟩ = some h.sv := by rw [cell_of_row _ _ _ _ _ _ b0]; rfl
  have k1 : wB.cell? ⟨w.heap.size, 1, none⟩ = some (.map (some h.fm)) := by rw [cell_of_row _ _ _ _ _ _ b0]; rfl
  have k2 : wB.cell? ⟨w.heap.size + 1, 0, none⟩ = some (.int .i64 f) := by rw [cell_of_row _ _ _ _ _ _ b1]; rfl
  have k3 : wB.cell? ⟨w.heap.size + 1, 1, none⟩ = some (.int .i64 n) := by rw [cell_of_row _ _ _ _ _ _ b1]; rfl
  have hlk := fun W (g : wB.grownBy W none) => (kB.grow g).look1 hf hn
  have HG := Lib.hid g2
  have hrow := kB.sz
  rw [hsv] at k0 hrow hwB ⊢
  have hc := Calls.regrown_g (w := wB) fun W _ => has_ok W a cc h.fm sz f hl
  unfold findF Go.Proofs.YtefiiooibbkffaaGreat.findV
  simp only
  obtain ⟨d, hd⟩ : ∃ d, hasF sz f = d := ⟨_, rfl⟩
  rw [hd] at hc ⊢
  cases d with
  | false =>
    simp only [Bool.false_and, Bool.false_eq_true, if_false, Option.isSome_some]
    have r0 := cell_regrown k0
    have r1 := cell_regrown k1
    have r2 := cell_regrown k2
    have r3 := cell_regrown k3
    have HL := Lib.hid hlk
    clear k kB hlk hrow hz hf hn ga gb g2 b0 b1 hd
    go_enter Tryz.func149, Tryz.ntmps149
    go_upto_region 1 with fail
    refine wp_region_quiet_below (by kernel_rfl) (by kernel_rfl) ?_
    repeat (go_big_quiet_step (first | exact hc _ _ | fail))
    refine wpQuiet_nil ?_
    intro _ hw'
    obtain ⟨⟨dq, osq⟩, hw''⟩ := hw'
    subst hw''
    have HQ := Lib.hid (regrown_grown wB dq osq)
    clear r0 r1 r2 r3 hc
    generalize grow (redrawn wB dq) osq = w3 at *
    have hl3 := HL.out w3 HQ.out
    have q1 := HQ.out.cell k1 (by simp)
    have q2 := HQ.out.cell k2 (by simp)
    have q3 := HQ.out.cell k3 (by simp)
    clear k0 k1 k2 k3
    go_wp2_with fail
    go_ret2
    exact ⟨rfl, grown_trans HG.out HQ.out⟩
  | true =>
    have hd2 := hd
    unfold hasF at hd2
    rw [Bool.and_eq_true, decide_eq_true_eq, decide_eq_true_eq] at hd2
    obtain ⟨i, rfl⟩ : ∃ i : Nat, f = (i : Int) + 1 := ⟨(f - 1).toNat, by omega⟩
    have hi : i < sz.length := by omega
    obtain ⟨m, hm⟩ : ∃ m, sz[i]? = some m := ⟨_, List.getElem?_eq_getElem hi⟩
    rw [show sz.getD ((i : Int) + 1 - 1).toNat 0 = m by rw [show ((i : Int) + 1 - 1).toNat = i by omega]; simp [hm]]
    obtain ⟨hgg, cc2, hsl⟩ := OwnOf.there hrow (by omega)
    injection hsl with e1 e2 e3
    subst e1 e3
    have kz := own_z hrow hm
    have hwr : IntKind.i64.wrap ((i : Int) + 1 - 1) = (i : Int) := by rw [IntKind.wrap_i64]; omega
    have hi0 : (0 : Int) ≤ (i : Int) := by omega
    have HZ := Lib.hid (hz m (List.mem_of_getElem? hm))
    by_cases n0 : n < 0
    · have b0 : decide (n < 0) = true := decide_eq_true n0
      simp only [b0, Bool.true_and, Bool.true_or, if_true, Option.isSome_none]
      have r0 := cell_regrown k0
      have r1 := cell_regrown k1
      have r2 := cell_regrown k2
      have r3 := cell_regrown k3
      clear k kB hlk hrow hz hf hn ga gb g2 b0 b1 hd hm hd2 kz hl
      have b0 : decide (n < 0) = true := decide_eq_true n0
      go_enter Tryz.func149, Tryz.ntmps149
      go_upto_region 1 with fail
      refine wp_region_quiet_below (by kernel_rfl) (by kernel_rfl) ?_
      repeat (go_big_quiet_step (first | exact hc _ _ | fail))
      refine wpQuiet_nil ?_
      intro _ hw'
      obtain ⟨⟨dq, osq⟩, hw''⟩ := hw'
      subst hw''
      have HQ := Lib.hid (regrown_grown wB dq osq)
      clear r0 r1 r2 r3 hc
      generalize grow (redrawn wB dq) osq = w3 at *
      clear k0 k1 k2 k3
      go_wp2_with fail
      go_ret2
      exact ⟨rfl, grown_trans HG.out HQ.out⟩
    · have n0 : decide (n < 0) = false := decide_eq_false n0
      obtain ⟨d2, hd3⟩ : ∃ d2, decide (n ≥ m) = d2 := ⟨_, rfl⟩
      have hd4 : decide (m ≤ n) = d2 := hd3
      simp only [n0, hd4, Bool.false_or, Bool.true_and]
      have r0 := cell_regrown k0
      have r1 := cell_regrown k1
      have r2 := cell_regrown k2
      have r3 := cell_regrown k3
      have r4 := cell_regrown kz
      have HL := Lib.hid hlk
      clear k kB hlk hrow hz hf hn ga gb g2 b0 b1 hd hm hd2 kz
      cases d2 with
      | true =>
        simp only [if_true, Option.isSome_none]
        go_enter Tryz.func149, Tryz.ntmps149
        go_upto_region 1 with fail
        refine wp_region_quiet_below (by kernel_rfl) (by kernel_rfl) ?_
        repeat (go_big_quiet_step (first | exact hc _ _ | fail))
        refine wpQuiet_nil ?_
        intro _ hw'
        obtain ⟨⟨dq, osq⟩, hw''⟩ := hw'
        subst hw''
        have HQ := Lib.hid (regrown_grown wB dq osq)
        clear r0 r1 r2 r3 r4 hc
        generalize grow (redrawn wB dq) osq = w3 at *
        clear k0 k1 k2 k3
        go_wp2_with fail
        go_ret2
        exact ⟨rfl, grown_trans HG.out HQ.out⟩
      | false =>
        simp only [Bool.false_eq_true, if_false, Option.isSome_some]
        go_enter Tryz.func149, Tryz.ntmps149
        go_upto_region 1 with fail
        refine wp_region_quiet_below (by kernel_rfl) (by kernel_rfl) ?_
        repeat (go_big_quiet_step (first | exact hc _ _ | fail))
        refine wpQuiet_nil ?_
        intro _ hw'
        obtain ⟨⟨dq, osq⟩, hw''⟩ := hw'
        subst hw''
        have HQ := Lib.hid (regrown_grown wB dq osq)
        clear r0 r1 r2 r3 r4 hc
        generalize grow (redrawn wB dq) osq = w3 at *
        have hl3 := HL.out w3 HQ.out
        have q1 := HQ.out.cell k1 (by simp)
        have q2 := HQ.out.cell k2 (by simp)
        have q3 := HQ.out.cell k3 (by simp)
        clear k0 k1 k2 k3
        go_wp2_with fail
        go_ret2
        exact ⟨rfl, grown_trans HG.out HQ.out⟩
end
end Go.Proofs.YtefiiooibbkffaaGreat

namespace Go.Proofs.YtefiiooibbkffaaGreat
open Go.ChangeShapes Go.WideShapes Go.ChangeAt Go.RowKit Go.Deep Go.Sort
open Extern.Stop (cell)
set_option linter.unusedVariables false
set_option linter.unusedSimpArgs false

theorem no_ro (x : Ro) : ¬ noRo x := fun e => e
/-- An entry and a page of it, within what may be. -/
structure PgE (x : En) (pg : Int) : Prop where
  good : GoodE x
  f1 : x.f ≤ 1000000000
  lo : x.s ≤ pg
  hi : pg < x.e
theorem PgE.spot {x : En} {pg : Int} (h : PgE x pg) : okI (spotF x pg).1 ∧ okI (spotF x pg).2 ∧ 0 ≤ x.s ∧ x.s ≤ 1000000000 ∧ 0 ≤ x.o ∧ x.o ≤ 1000000000 ∧ 0 ≤ pg ∧ pg ≤ 1000000000 := by
  obtain ⟨⟨g1, g2, g3, g4, g5, g6, g7, g8, g9, g10, g11, g12⟩, h1, h2, h3⟩ := h
  have ho : x.o ≤ 4096 := by
    by_cases hf : x.f = 0
    · rw [g11 hf]; decide
    · have := g12 (by omega); omega
  unfold spotF
  simp only
  exact ⟨⟨by omega, by omega⟩, ⟨by omega, by omega⟩, g1, by omega, g5, by omega, by omega, by omega⟩
section
variable {w : World} {kd : Nat → Ro} {t r : Nat} {h : Gh} {sz : List Int} {F : List ((Int × Int) × List UInt8)} {H : List (Int × Option (List UInt8))} {reg : Int} {G : PG} {id : Int} {ι : Nat → Nat} {p : Pr} {sp : Nat → Value} {c : Nat → Option (List UInt8)}
def meansF (sz : List Int) (F : List ((Int × Int) × List UInt8)) (c : Nat → Option (List UInt8)) (p : Pr) (x : En) (pg : Int) : Option (Option (List UInt8)) := match ownF c p pg with | some b => some (some b) | none => findF sz F (spotF x pg)
/-- What means tells. -/
def meansV (h : Gh) (sp : Nat → Value) (sz : List Int) (F : List ((Int × Int) × List UInt8)) (c : Nat → Option (List UInt8)) (p : Pr) (x : En) (pg : Int) : Value := match ownF c p pg with | some _ => ownV sp c p pg | none => findV h sz F (spotF x pg)
theorem meansV_sh (k : HW w kd t r h sz F H reg) (hs : ∀ a, a ∈ p.A → SlA w kd t (ι a.2) a.2 (sp a.2) (c a.2)) (x : En) (pg : Int) : Sh w kd (meansV h sp sz F c p x pg) ((meansF sz F c p x pg).getD none) := by
  have h1 := ownV_sh hs pg
  unfold meansV meansF
  cases e : ownF c p pg with
  | some b => rw [e] at h1; exact h1
  | none => exact k.findV _
set_option maxHeartbeats 2000000 in
theorem means_ok (k : HW w kd t r h sz F H reg) (hl : sz.length ≤ 16) (hz : ∀ n, n ∈ sz → okI n) (hp : PAt w kd t G id ι p) (hs : ∀ a, a ∈ p.A → SlA w kd t (ι a.2) a.2 (sp a.2) (c a.2)) (x : En) (pg : Int) (hx : PgE x pg) :
    Calls Tryz.prog 110 #[.pointer (some ⟨r, 0, none⟩), .pointer (some ⟨G.b, 0, none⟩), .agg #[.int .i64 x.s, .int .i64 x.e, .int .i64 x.f, .int .i64 x.o, .bool x.sh, .int .i64 x.p, .int .i64 x.m, .int .i64 x.i, .int .i64 x.a, .bool x.wi], .int .i64 pg] w fun e w' => e = .returned (.tuple #[meansV h sp sz F c p x pg, .bool (meansF sz F c p x pg).isSome]) ∧ w.grownBy w' none := by
  obtain ⟨x1, x2, x3, x4, x5, x6, x7, x8⟩ := hx.spot
  have hpg : okI pg := ⟨by omega, by omega⟩
  have ga := World.grownBy_alloc w (.cells #[.int .i64 x.s, .int .i64 x.e, .int .i64 x.f, .int .i64 x.o, .bool x.sh, .int .i64 x.p, .int .i64 x.m, .int .i64 x.i, .int .i64 x.a, .bool x.wi] 50) none
  have hB := EnB.new w x
  generalize hwB : w.alloc (.cells #[.int .i64 x.s, .int .i64 x.e, .int .i64 x.f, .int .i64 x.o, .bool x.sh, .int .i64 x.p, .int .i64 x.m, .int .i64 x.i, .int .i64 x.a, .bool x.wi] 50) = wB at *
  have kB := k.grow ga
  have pB := hp.ch (R := noRo) (Ch.grown ga) (no_ro _) (no_ro _) (no_ro _) (no_ro _)
  have sB := fun a ha => (hs a ha).ch (R := noRo) (Ch.grown ga) (no_ro _) (no_ro _)
  have HO := Lib.hid (own_ok (sp := sp) (c := c) pB sB hpg)
  have HG := Lib.hid ga
  unfold meansF meansV
  cases hown : ownF c p pg with
  | some b =>
    rw [hown] at HO
    simp only [Option.isSome_some] at HO ⊢
    generalize ownV sp c p pg = u at *
    clear k hp hs ga hB kB pB sB x1 x2 x3 x4 x5 x6 x7 x8 hpg hown hx
    go_enter Tryz.func110, Tryz.ntmps110
    go_wp2_with fail
    refine HO.out.mono ?_
    rintro e w2 ⟨rfl, e2⟩
    subst e2
    go_wp2_with fail
    go_ret2
    exact ⟨rfl, HG.out⟩
  | none =>
    rw [hown] at HO
    simp only [Option.isSome_none] at HO ⊢
    obtain ⟨k0, k1, k2, k3, k4⟩ := kB.at
    obtain ⟨c0, c1, c2, c3, c4, c5, c6, c7, c8, c9⟩ := hB.at
    simp only [Nat.zero_add] at c0 c1 c2 c3 c4 c5 c6 c7 c8 c9
    have hc1 := Calls.regrown_g (w := wB) fun W _ => spotOf_ok W x pg x3 x4 x5 x6 x7 x8
    have hc2 := Calls.regrown_g (w := wB) fun W g => fl_find (kB.grow g) hl hz (spotF x pg).1 (spotF x pg).2 x1 x2
    unfold flsV at hc2
    obtain ⟨d, hd⟩ : ∃ d, (findF sz F (spotF x pg)).isSome = d := ⟨_, rfl⟩
    obtain ⟨u, hu⟩ : ∃ u, findV h sz F (spotF x pg) = u := ⟨_, rfl⟩
    have hu2 : findV h sz F ((spotF x pg).1, (spotF x pg).2) = u := hu
    have hd2 : (findF sz F ((spotF x pg).1, (spotF x pg).2)).isSome = d := hd
    rw [hu2, hd2] at hc2
    rw [hd, hu]
    generalize ownV sp c p pg = u9 at *
    generalize (spotF x pg).1 = f at *
    generalize (spotF x pg).2 = n at *
    generalize h.pm = pm at *
    generalize h.sv = sv at *
    generalize h.fm = fm at *
    generalize h.lm = lm at *
    clear k hp hs ga hB kB pB sB x1 x2 x3 x4 x5 x6 x7 x8 hpg hown hu hd hu2 hd2 hx
    go_enter Tryz.func110, Tryz.ntmps110
    go_wp2_with fail
    refine HO.out.mono ?_
    rintro e w2 ⟨rfl, e2⟩
    subst e2
    go_upto_region 4 with fail
    have r1 := cell_regrown k1
    have r2 := cell_regrown k2
    have q0 := cell_regrown c0
    have q1 := cell_regrown c1
    have q2 := cell_regrown c2
    have q3 := cell_regrown c3
    have q4 := cell_regrown c4
    have q5 := cell_regrown c5
    have q6 := cell_regrown c6
    have q7 := cell_regrown c7
    have q8 := cell_regrown c8
    have q9 := cell_regrown c9
    refine wp_region_quiet_below (by kernel_rfl) (by kernel_rfl) ?_
    repeat (go_big_quiet_step (first | exact hc1 _ _ | exact hc2 _ _ | fail))
    refine wpQuiet_nil ?_
    intro _ hw'
    obtain ⟨⟨dq, osq⟩, hw''⟩ := hw'
    subst hw''
    have HQ := Lib.hid (regrown_grown w2 dq osq)
    clear r1 r2 q0 q1 q2 q3 q4 q5 q6 q7 q8 q9 hc1 hc2
    generalize grow (redrawn w2 dq) osq = w3 at *
    clear k0 k1 k2 k3 k4 c0 c1 c2 c3 c4 c5 c6 c7 c8 c9
    go_wp2_with fail
    go_ret2
    exact ⟨rfl, grown_trans HG.out HQ.out⟩
end
end Go.Proofs.YtefiiooibbkffaaGreat

namespace Go.Proofs.YtefiiooibbkffaaGreat
open Go.ChangeShapes Go.WideShapes Go.ChangeAt Go.RowKit Go.Deep Go.Sort
open Extern.Stop (cell)
set_option linter.unusedVariables false
set_option linter.unusedSimpArgs false

/-- What a call that reads a process finds. -/
structure Vw (w : World) (kd : Nat → Ro) (t r : Nat) (h : Gh) (S : Fl) (G : PG) (id : Int) (p : Pr) : Prop where
  hw : HW w kd t r h S.sz S.F S.H S.reg
  pa : PAt w kd t G id h.ι p
  sl : ∀ a, a ∈ p.A → SlA w kd t (h.ι a.2) a.2 (h.sp a.2) (S.c a.2)
  hl : S.sz.length ≤ 16
  hz : ∀ n, n ∈ S.sz → okI n
  mp : MapL p.L
  ln : p.L.length ≤ 800
  fb : ∀ x, x ∈ p.L → x.f ≤ 1000000000
section
variable {w w' : World} {kd : Nat → Ro} {t r : Nat} {h : Gh} {S : Fl} {G : PG} {id : Int} {p : Pr}
theorem Vw.grow (k : Vw w kd t r h S G id p) (g : w.grownBy w' none) : Vw w' kd t r h S G id p :=
  ⟨k.hw.grow g, k.pa.ch (R := noRo) (Ch.grown g) (no_ro _) (no_ro _) (no_ro _) (no_ro _), fun a ha => (k.sl a ha).ch (R := noRo) (Ch.grown g) (no_ro _) (no_ro _), k.hl, k.hz, k.mp, k.ln, k.fb⟩
theorem Vw.pg (k : Vw w kd t r h S G id p) {pg : Int} {x : En} (hx : atV p.L pg = some x) : PgE x pg := by
  obtain ⟨h1, h2, h3⟩ := at_mem hx
  have hm := List.mem_of_getElem? h1
  exact ⟨(rf_good k.mp.rf x hm).1, k.fb x hm, h2, h3⟩
theorem Vw.at_ok (k : Vw w kd t r h S G id p) (pg : Int) (x : En) (hx : atE p.L pg = x) (d : Bool) (hd : (atV p.L pg).isSome = d) :
    Calls Tryz.prog 109 #[.pointer (some ⟨G.m, 0, none⟩), .int .i64 pg] w fun e w' => e = .returned (.tuple #[.agg #[.int .i64 x.s, .int .i64 x.e, .int .i64 x.f, .int .i64 x.o, .bool x.sh, .int .i64 x.p, .int .i64 x.m, .int .i64 x.i, .int .i64 x.a, .bool x.wi], .bool d]) ∧ w.grownBy w' none :=
  Go.Proofs.YtefiiooibbkffaaGreat.at_ok k.pa.vm k.mp.rf (by have := k.ln; omega) pg x hx d hd
def lookU (h : Gh) (S : Fl) (p : Pr) (pg : Int) : Value := match atV p.L pg with | some e => (match S.means p e pg with | some _ => meansV h h.sp S.sz S.F S.c p e pg | none => .pointer none) | none => .pointer none
theorem Vw.lookU (k : Vw w kd t r h S G id p) (pg : Int) : Sh w kd (lookU h S p pg) (S.look p pg).1 := by
  unfold Go.Proofs.YtefiiooibbkffaaGreat.lookU Fl.look
  cases e : atV p.L pg with
  | none => exact Sh.none_ _ _
  | some x =>
    have h1 := meansV_sh k.hw k.sl x pg
    rw [show meansF S.sz S.F S.c p x pg = S.means p x pg from rfl] at h1
    simp only
    cases e2 : S.means p x pg with
    | none => exact Sh.none_ _ _
    | some b => rw [e2] at h1; exact h1
set_option maxHeartbeats 1000000 in
theorem look_ok17 (k : Vw w kd t r h S G id p) (pg : Int) :
    Calls Tryz.prog 58 #[.pointer (some ⟨r, 0, none⟩), .pointer (some ⟨G.b, 0, none⟩), .int .i64 pg] w fun e w' => e = .returned (.tuple #[lookU h S p pg, .int .i64 (S.look p pg).2]) ∧ w.grownBy w' none := by
  have c0 := k.pa.at0
  unfold Fl.look lookU
  cases hat : atV p.L pg with
  | none =>
    obtain ⟨x, hx⟩ : ∃ x, atE p.L pg = x := ⟨_, rfl⟩
    have HA := Lib.hid (k.at_ok pg x hx false (by rw [hat]; rfl))
    simp only
    clear k hat hx
    go_enter Tryz.func58, Tryz.ntmps58
    go_wp2_with fail
    refine HA.out.mono ?_
    rintro e w2 ⟨rfl, g2⟩
    have HG := Lib.hid g2
    clear g2
    go_wp2_with fail
    go_ret2
    exact ⟨rfl, grown_trans HG.out (World.grownBy_alloc _ _ _)⟩
  | some x =>
    have hx : atE p.L pg = x := by unfold atE; rw [hat]; rfl
    have HA := Lib.hid (k.at_ok pg x hx true (by rw [hat]; rfl))
    have HM := Lib.hid (fun W (g : w.grownBy W none) => means_ok (k.grow g).hw k.hl k.hz (k.grow g).pa (k.grow g).sl x pg (k.pg hat))
    rw [show meansF S.sz S.F S.c p x pg = S.means p x pg from rfl] at HM
    simp only
    cases hm : S.means p x pg with
    | none =>
      rw [hm] at HM
      simp only [Option.isSome_none] at HM ⊢
      generalize meansV h h.sp S.sz S.F S.c p x pg = u at *
      clear k hat hx hm
      go_enter Tryz.func58, Tryz.ntmps58
      go_wp2_with fail
      refine HA.out.mono ?_
      rintro e w2 ⟨rfl, g2⟩
      have HG := Lib.hid g2
      have HM2 := Lib.hid (HM.out (w2.alloc (.cells #[.int .i64 x.s, .int .i64 x.e, .int .i64 x.f, .int .i64 x.o, .bool x.sh, .int .i64 x.p, .int .i64 x.m, .int .i64 x.i, .int .i64 x.a, .bool x.wi] 50)) (grown_trans g2 (World.grownBy_alloc _ _ _)))
      clear g2
      go_wp2_with fail
      refine HM2.out.mono ?_
      rintro e w3 ⟨rfl, g3⟩
      have HG3 := Lib.hid (grown_trans HG.out (grown_trans (World.grownBy_alloc _ _ _) g3))
      clear g3
      go_wp2_with fail
      go_ret2
      exact ⟨rfl, HG3.out⟩
    | some b =>
      rw [hm] at HM
      simp only [Option.isSome_some] at HM ⊢
      generalize meansV h h.sp S.sz S.F S.c p x pg = u at *
      clear k hat hx hm
      go_enter Tryz.func58, Tryz.ntmps58
      go_wp2_with fail
      refine HA.out.mono ?_
      rintro e w2 ⟨rfl, g2⟩
      have HG := Lib.hid g2
      have HM2 := Lib.hid (HM.out (w2.alloc (.cells #[.int .i64 x.s, .int .i64 x.e, .int .i64 x.f, .int .i64 x.o, .bool x.sh, .int .i64 x.p, .int .i64 x.m, .int .i64 x.i, .int .i64 x.a, .bool x.wi] 50)) (grown_trans g2 (World.grownBy_alloc _ _ _)))
      clear g2
      go_wp2_with fail
      refine HM2.out.mono ?_
      rintro e w3 ⟨rfl, g3⟩
      have HG3 := Lib.hid (grown_trans HG.out (grown_trans (World.grownBy_alloc _ _ _) g3))
      clear g3
      go_wp2_with fail
      go_ret2
      exact ⟨rfl, HG3.out⟩
end
end Go.Proofs.YtefiiooibbkffaaGreat

namespace Go.Proofs.YtefiiooibbkffaaGreat
open Go.ChangeShapes Go.WideShapes Go.ChangeAt Go.RowKit Go.Deep Go.Sort
set_option linter.unusedVariables false

/-- An operation's fourteen cells. -/
structure OAt (w : World) (g : Nat) (o : FOp) : Prop where
  c0 : w.cell? ⟨g, 0, none⟩ = some (.int .i64 o.k)
  c1 : w.cell? ⟨g, 1, none⟩ = some (.int .i64 o.proc)
  c2 : w.cell? ⟨g, 2, none⟩ = some (.int .i64 o.addr)
  c3 : w.cell? ⟨g, 3, none⟩ = some (.int .i64 o.n)
  c4 : w.cell? ⟨g, 4, none⟩ = some (.int .i64 o.prot)
  c5 : w.cell? ⟨g, 5, none⟩ = some (.bool o.sh)
  c6 : w.cell? ⟨g, 6, none⟩ = some (.int .i64 o.file)
  c7 : w.cell? ⟨g, 7, none⟩ = some (.int .i64 o.off)
  c8 : w.cell? ⟨g, 8, none⟩ = some (.bool o.fixed)
  c9 : w.cell? ⟨g, 9, none⟩ = some (.int .i64 o.how)
  c10 : w.cell? ⟨g, 10, none⟩ = some (.int .i64 o.ati)
  c11 : w.cell? ⟨g, 11, none⟩ = some (.int .i64 o.v)
  c12 : w.cell? ⟨g, 12, none⟩ = some (.int .i64 o.hd)
  c13 : w.cell? ⟨g, 13, none⟩ = some (.int .i64 o.to)
/-- A boxed operation. -/
def OpB (w : World) (y : Nat) (o : FOp) : Prop := w.heap[y]? = some (.cells #[.int .i64 o.k, .int .i64 o.proc, .int .i64 o.addr, .int .i64 o.n, .int .i64 o.prot, .bool o.sh, .int .i64 o.file, .int .i64 o.off, .bool o.fixed, .int .i64 o.how, .int .i64 o.ati, .int .i64 o.v, .int .i64 o.hd, .int .i64 o.to] 34 (0, 0))
section
variable {w w' : World} {y : Nat} {o : FOp}
theorem OpB.at (h : OpB w y o) : OAt w y o := by
  constructor <;> (rw [cell_of_row _ _ _ _ _ _ h]; rfl)
theorem OpB.lt (h : OpB w y o) : y < w.heap.size := (Array.getElem?_eq_some_iff.1 h).1
theorem OpB.grow (h : OpB w y o) (g : w.grownBy w' none) : OpB w' y o := (g.block _ h.lt (by simp)).trans h
theorem OpB.new (w : World) (o : FOp) : OpB (w.alloc (.cells #[.int .i64 o.k, .int .i64 o.proc, .int .i64 o.addr, .int .i64 o.n, .int .i64 o.prot, .bool o.sh, .int .i64 o.file, .int .i64 o.off, .bool o.fixed, .int .i64 o.how, .int .i64 o.ati, .int .i64 o.v, .int .i64 o.hd, .int .i64 o.to] 34 (0, 0))) w.heap.size o := heap_alloc_new w _
end
structure OkO (o : FOp) : Prop where
  k : okI o.k
  proc : okI o.proc
  addr : okI o.addr
  n : okI o.n
  prot : okI o.prot
  file : okI o.file
  off : okI o.off
  how : okI o.how
  ati : okI o.ati
  v : okI o.v
  hd : okI o.hd
  tt : okI o.to
end Go.Proofs.YtefiiooibbkffaaGreat
