/- Layer 17 (landed): put. Layer 17 (landed): size. Layer 17 (landed): advise. -/
import Derived.Test.YtefiiooibbkffaaGreatFlMn
namespace Go.Proofs.YtefiiooibbkffaaGreat
open Go.ChangeShapes Go.WideShapes Go.ChangeAt Go.RowKit Go.Deep Go.Sort
set_option linter.unusedVariables false
set_option linter.unusedSimpArgs false

section
variable {w w' : World} {kd kd' : Nat → Ro} {t r : Nat} {h : Gh} {S S' : Fl} {id : Int} {p : Pr}
set_option maxHeartbeats 2000000 in
theorem put_no (k : FW w kd t r h S) (hok : SOk S) (o : FOp) (ho : OkO o) (hne : (S.ofFile o.file o.off (isAtB o.ati && isByB o.v)).2 ≠ 0) :
    Calls Tryz.prog 79 #[.pointer (some ⟨r, 0, none⟩), .agg #[.int .i64 o.k, .int .i64 o.proc, .int .i64 o.addr, .int .i64 o.n, .int .i64 o.prot, .bool o.sh, .int .i64 o.file, .int .i64 o.off, .bool o.fixed, .int .i64 o.how, .int .i64 o.ati, .int .i64 o.v, .int .i64 o.hd, .int .i64 o.to]] w fun e w' => e = .returned (.int .i64 (S.put o).e) ∧ Dn t r kd w w' (S.put o).S := by
  have hst : S.put o = S.no (S.ofFile o.file o.off (isAtB o.ati && isByB o.v)).2 := by unfold Fl.put; rw [if_neg hne]
  rw [hst]
  show Calls _ _ _ _ fun e w' => e = .returned (.int .i64 (S.ofFile o.file o.off (isAtB o.ati && isByB o.v)).2) ∧ Dn t r kd w w' S
  have ga := World.grownBy_alloc w (.cells #[.int .i64 o.k, .int .i64 o.proc, .int .i64 o.addr, .int .i64 o.n, .int .i64 o.prot, .bool o.sh, .int .i64 o.file, .int .i64 o.off, .bool o.fixed, .int .i64 o.how, .int .i64 o.ati, .int .i64 o.v, .int .i64 o.hd, .int .i64 o.to] 34) none
  have hB := OpB.new w o
  generalize hwB : w.alloc (.cells #[.int .i64 o.k, .int .i64 o.proc, .int .i64 o.addr, .int .i64 o.n, .int .i64 o.prot, .bool o.sh, .int .i64 o.file, .int .i64 o.off, .bool o.fixed, .int .i64 o.how, .int .i64 o.ati, .int .i64 o.v, .int .i64 o.hd, .int .i64 o.to] 34) = wB at *
  have kB := k.grow ga
  obtain ⟨c0, c1, c2, c3, c4, c5, c6, c7, c8, c9, c10, c11, c12, c13⟩ := hB.at
  have hc1 := Calls.regrown_g (w := wB) fun W _ => (isAt_ok W o.ati).mono fun e w' ⟨he, hw⟩ => ⟨he, by rw [hw]; exact grown_refl _ _⟩
  have hc3 := Calls.regrown_g (w := wB) fun W _ => (isByte_ok W o.v).mono fun e w' ⟨he, hw⟩ => ⟨he, by rw [hw]; exact grown_refl _ _⟩
  have hc2 := Calls.regrown_g (w := wB) fun W g => ofFile_ok (kB.grow g) hok o ho (isAtB o.ati && isByB o.v)
  have HG := Lib.hid ga
  have HD := Lib.hid (fun W (g : w.grownBy W none) => Dn.grown k g)
  generalize (S.ofFile o.file o.off (isAtB o.ati && isByB o.v)).2 = er at *
  generalize ofU h S o.file o.off (isAtB o.ati && isByB o.v) = u at *
  have bne : decide (er ≠ 0) = true := decide_eq_true hne
  have bne2 : (er != 0) = true := by simpa using hne
  have bne3 : (er == 0) = false := by simpa using hne
  generalize isAtB o.ati = d at *
  generalize isByB o.v = d2 at *
  have r0 := cell_regrown c0
  have r1 := cell_regrown c1
  have r2 := cell_regrown c2
  have r3 := cell_regrown c3
  have r4 := cell_regrown c4
  have r5 := cell_regrown c5
  have r6 := cell_regrown c6
  have r7 := cell_regrown c7
  have r8 := cell_regrown c8
  have r9 := cell_regrown c9
  have r10 := cell_regrown c10
  have r11 := cell_regrown c11
  have r12 := cell_regrown c12
  have r13 := cell_regrown c13
  clear k kB ga hB c0 c1 c2 c3 c4 c5 c6 c7 c8 c9 c10 c11 c12 c13 hst hne hok ho
  cases d with
  | true =>
    rw [Bool.true_and] at hc2
    go_enter Tryz.func79, Tryz.ntmps79
    go_upto_region 1 with fail
    refine wp_region_quiet_below (by kernel_rfl) (by kernel_rfl) ?_
    repeat (go_big_quiet_step (first | exact hc1 _ _ | exact hc2 _ _ | exact hc3 _ _ | fail))
    refine wpQuiet_nil ?_
    intro _ hw'
    obtain ⟨⟨dq, osq⟩, hw''⟩ := hw'
    subst hw''
    have HQ := Lib.hid (regrown_grown wB dq osq)
    clear r0 r1 r2 r3 r4 r5 r6 r7 r8 r9 r10 r11 r12 r13 hc1 hc2 hc3
    generalize grow (redrawn wB dq) osq = w3 at *
    go_wp2_with fail
    go_ret
    exact ⟨rfl, HD.out _ (grown_trans HG.out HQ.out)⟩
  | false =>
    rw [Bool.false_and] at hc2
    go_enter Tryz.func79, Tryz.ntmps79
    go_upto_region 1 with fail
    refine wp_region_quiet_below (by kernel_rfl) (by kernel_rfl) ?_
    repeat (go_big_quiet_step (first | exact hc1 _ _ | exact hc2 _ _ | exact hc3 _ _ | fail))
    refine wpQuiet_nil ?_
    intro _ hw'
    obtain ⟨⟨dq, osq⟩, hw''⟩ := hw'
    subst hw''
    have HQ := Lib.hid (regrown_grown wB dq osq)
    clear r0 r1 r2 r3 r4 r5 r6 r7 r8 r9 r10 r11 r12 r13 hc1 hc2 hc3
    generalize grow (redrawn wB dq) osq = w3 at *
    go_wp2_with fail
    go_ret
    exact ⟨rfl, HD.out _ (grown_trans HG.out HQ.out)⟩
theorem ofFile_may {S : Fl} {f n : Int} {may : Bool} (h : (S.ofFile f n may).2 = 0) : may = true := by
  cases may with
  | true => rfl
  | false => unfold Fl.ofFile at h; split at h <;> simp at h
theorem FW.fput (k : FW w kd t r h S) {q : Int × Int} {u : Value} {l : List UInt8} (hS : Sh w kd u (some l)) (hg : w.grownBy w' (some h.fm))
    (hm : MapV Tryz.prog 153 spotL okK w' h.fm ((q, u) :: dropV (S.F.map fun n => (n.1, h.fv n.1)) q)) : FW w' kd t r { h with fv := fun x => if x = q then u else h.fv x } { S with F := puA S.F q l } ∧ Ch (own t) kd kd w w' := by
  have hch : Ch (fun ρ => ρ = .w t .fm) kd kd w w' := Ch.one hg k.hw.kf
  obtain ⟨h1, h2⟩ := k.hw.sheet_put (hS.ch hch (by simp)) hg hm
  exact ⟨⟨h1, ⟨(k.pm.ch h2 (by simp)).pm, (k.pm.ch h2 (by simp)).kp⟩, k.bw.ch h2 (by simp) (by simp) (by simp) (by simp) (by simp) (by simp)⟩, h2.mono own_mono⟩
set_option maxHeartbeats 4000000 in
theorem put_yes (k : FW w kd t r h S) (hok : SOk S) (o : FOp) (ho : OkO o) (h0 : (S.ofFile o.file o.off (isAtB o.ati && isByB o.v)).2 = 0) :
    Calls Tryz.prog 79 #[.pointer (some ⟨r, 0, none⟩), .agg #[.int .i64 o.k, .int .i64 o.proc, .int .i64 o.addr, .int .i64 o.n, .int .i64 o.prot, .bool o.sh, .int .i64 o.file, .int .i64 o.off, .bool o.fixed, .int .i64 o.how, .int .i64 o.ati, .int .i64 o.v, .int .i64 o.hd, .int .i64 o.to]] w fun e w' => e = .returned (.int .i64 (S.put o).e) ∧ Dn t r kd w w' (S.put o).S := by
  have hmay := ofFile_may h0
  rw [Bool.and_eq_true] at hmay
  obtain ⟨l, hl⟩ : ∃ l, withB (S.ofFile o.file o.off (isAtB o.ati && isByB o.v)).1 o.ati o.v = l := ⟨_, rfl⟩
  have hst : S.put o = ⟨{ S with F := puA S.F (o.file, o.off) l }, 0, 0⟩ := by unfold Fl.put; rw [if_pos h0, hl]
  rw [hst]
  have ga := World.grownBy_alloc w (.cells #[.int .i64 o.k, .int .i64 o.proc, .int .i64 o.addr, .int .i64 o.n, .int .i64 o.prot, .bool o.sh, .int .i64 o.file, .int .i64 o.off, .bool o.fixed, .int .i64 o.how, .int .i64 o.ati, .int .i64 o.v, .int .i64 o.hd, .int .i64 o.to] 34) none
  have hB := OpB.new w o
  generalize hwB : w.alloc (.cells #[.int .i64 o.k, .int .i64 o.proc, .int .i64 o.addr, .int .i64 o.n, .int .i64 o.prot, .bool o.sh, .int .i64 o.file, .int .i64 o.off, .bool o.fixed, .int .i64 o.how, .int .i64 o.ati, .int .i64 o.v, .int .i64 o.hd, .int .i64 o.to] 34) = wB at *
  have kB := k.grow ga
  obtain ⟨c0, c1, c2, c3, c4, c5, c6, c7, c8, c9, c10, c11, c12, c13⟩ := hB.at
  have hc1 := Calls.regrown_g (w := wB) fun W _ => (isAt_ok W o.ati).mono fun e w' ⟨he, hw⟩ => ⟨he, by rw [hw]; exact grown_refl _ _⟩
  have hc3 := Calls.regrown_g (w := wB) fun W _ => (isByte_ok W o.v).mono fun e w' ⟨he, hw⟩ => ⟨he, by rw [hw]; exact grown_refl _ _⟩
  have hc2 := Calls.regrown_g (w := wB) fun W g => ofFile_ok (kB.grow g) hok o ho (isAtB o.ati && isByB o.v)
  have HSu := Lib.hid (fun W (g : wB.grownBy W none) => ofU_sh (kB.grow g) o.file o.off (isAtB o.ati && isByB o.v))
  have HK := Lib.hid (fun W (g : wB.grownBy W none) => kB.grow g)
  have HOp := Lib.hid (fun W (g : wB.grownBy W none) => (hB.grow g))
  have HG := Lib.hid ga
  rw [h0] at hc2
  generalize (S.ofFile o.file o.off (isAtB o.ati && isByB o.v)).1 = b at *
  generalize ofU h S o.file o.off (isAtB o.ati && isByB o.v) = u at *
  rw [hmay.1] at hc1 hc2
  rw [hmay.2] at hc2 hc3
  simp only [Bool.and_self] at hc2
  have HLl := Lib.hid hl
  have HM := Lib.hid hmay
  have HOk := Lib.hid hok
  have HO := Lib.hid ho
  have r0 := cell_regrown c0
  have r1 := cell_regrown c1
  have r2 := cell_regrown c2
  have r3 := cell_regrown c3
  have r4 := cell_regrown c4
  have r5 := cell_regrown c5
  have r6 := cell_regrown c6
  have r7 := cell_regrown c7
  have r8 := cell_regrown c8
  have r9 := cell_regrown c9
  have r10 := cell_regrown c10
  have r11 := cell_regrown c11
  have r12 := cell_regrown c12
  have r13 := cell_regrown c13
  clear k kB ga hB c0 c1 c2 c3 c4 c5 c6 c7 c8 c9 c10 c11 c12 c13 hst hok ho hl h0 hmay
  go_enter Tryz.func79, Tryz.ntmps79
  go_upto_region 1 with fail
  refine wp_region_quiet_below (by kernel_rfl) (by kernel_rfl) ?_
  repeat (go_big_quiet_step (first | exact hc1 _ _ | exact hc2 _ _ | exact hc3 _ _ | fail))
  refine wpQuiet_nil ?_
  intro _ hw'
  obtain ⟨⟨dq, osq⟩, hw''⟩ := hw'
  subst hw''
  have HQ := Lib.hid (regrown_grown wB dq osq)
  clear r0 r1 r2 r3 r4 r5 r6 r7 r8 r9 r10 r11 r12 r13 hc1 hc2 hc3
  generalize grow (redrawn wB dq) osq = w3 at *
  have gD := grown_trans HQ.out (grown_drew1 w3)
  have kD := HK.out w3.drew gD
  have hOD := HOp.out w3.drew gD
  have hW := with_ok (HSu.out w3.drew gD) o.ati o.v HM.out.1 HM.out.2
  rw [HLl.out] at hW
  have hlen : l.length = 4096 := by rw [← HLl.out]; exact withB_length (HSu.out w3.drew gD).len o.ati o.v
  have hS5 := Sh.new hlen w3.drew kd
  have k5 := kD.chNo (Ch.new noRo kd w3.drew (.cells (pgC l) 207) .sh)
  have hO5 := hOD.grow (World.grownBy_alloc w3.drew (.cells (pgC l) 207) none)
  have hC5 : Ch noRo kd (upd kd w3.drew.heap.size .sh) w (w3.drew.alloc (.cells (pgC l) 207)) := (Ch.grown (grown_trans HG.out gD)).trans (Ch.new noRo kd w3.drew _ .sh)
  generalize w3.drew.alloc (.cells (pgC l) 207) = w5 at *
  generalize upd kd w3.drew.heap.size .sh = kd5 at *
  obtain ⟨u5, hu5⟩ : ∃ u5 : Value, .pointer (some ⟨w3.drew.heap.size, 0, none⟩) = u5 := ⟨_, rfl⟩
  rw [hu5] at hS5
  simp only [hu5] at hW
  clear hu5
  obtain ⟨w9, hup, h9, t9⟩ := k5.hw.fm.put lawsF (by rw [List.length_map]; have := HOk.out.fl; unfold maxLen; omega) u5 (x := (o.file, o.off)) ⟨HO.out.file, HO.out.off⟩
  rw [show spotV (o.file, o.off) = .agg #[.int .i64 o.file, .int .i64 o.off] from rfl] at hup
  obtain ⟨k9, c9⟩ := k5.fput hS5 t9.grown h9
  have hO9 : OpB w9 w.heap.size o := (t9.grown.block _ hO5.lt fun e => by
    have h1 := ne_map hO5 k5.hw.fm
    exact h1 (Option.some.inj e)).trans hO5
  have HD := Lib.hid (show Dn t r kd w w9 { S with F := puA S.F (o.file, o.off) l } from ⟨kd5, _, k9, (hC5.mono fun _ e => (no_ro _ e).elim).trans c9⟩)
  have hk0 : w3.cell? ⟨r, 2, none⟩ = some (.map (some h.fm)) ∧ w3.cell? ⟨w.heap.size, 6, none⟩ = some (.int .i64 o.file) ∧ w3.cell? ⟨w.heap.size, 7, none⟩ = some (.int .i64 o.off) ∧ w3.cell? ⟨w.heap.size, 10, none⟩ = some (.int .i64 o.ati) ∧ w3.cell? ⟨w.heap.size, 11, none⟩ = some (.int .i64 o.v) := by have c := (HOp.out w3 HQ.out).at; exact ⟨(HK.out w3 HQ.out).hw.at.2.2.1, c.c6, c.c7, c.c10, c.c11⟩
  have hkd : w3.drew.cell? ⟨r, 2, none⟩ = some (.map (some h.fm)) ∧ w3.drew.cell? ⟨w.heap.size, 6, none⟩ = some (.int .i64 o.file) ∧ w3.drew.cell? ⟨w.heap.size, 7, none⟩ = some (.int .i64 o.off) ∧ w3.drew.cell? ⟨w.heap.size, 10, none⟩ = some (.int .i64 o.ati) ∧ w3.drew.cell? ⟨w.heap.size, 11, none⟩ = some (.int .i64 o.v) := by have c := hOD.at; exact ⟨kD.hw.at.2.2.1, c.c6, c.c7, c.c10, c.c11⟩
  have hk1 : w5.cell? ⟨r, 2, none⟩ = some (.map (some h.fm)) ∧ w5.cell? ⟨w.heap.size, 6, none⟩ = some (.int .i64 o.file) ∧ w5.cell? ⟨w.heap.size, 7, none⟩ = some (.int .i64 o.off) ∧ w5.cell? ⟨w.heap.size, 10, none⟩ = some (.int .i64 o.ati) ∧ w5.cell? ⟨w.heap.size, 11, none⟩ = some (.int .i64 o.v) := by have c := hO5.at; exact ⟨k5.hw.at.2.2.1, c.c6, c.c7, c.c10, c.c11⟩
  have hk9 : w9.cell? ⟨r, 2, none⟩ = some (.map (some h.fm)) ∧ w9.cell? ⟨w.heap.size, 6, none⟩ = some (.int .i64 o.file) ∧ w9.cell? ⟨w.heap.size, 7, none⟩ = some (.int .i64 o.off) ∧ w9.cell? ⟨w.heap.size, 10, none⟩ = some (.int .i64 o.ati) ∧ w9.cell? ⟨w.heap.size, 11, none⟩ = some (.int .i64 o.v) := by have c := hO9.at; exact ⟨k9.hw.at.2.2.1, c.c6, c.c7, c.c10, c.c11⟩
  have HW := Lib.hid hW
  clear gD kD hOD hW hlen hS5 k5 hO5 hC5 h9 t9 k9 c9 hO9 HSu HK HOp HLl HM HOk HO HG HQ
  go_upto_region 3 with fail
  go_region_held3 (fun w7 => w7.cell? ⟨r, 2, none⟩ = some (.map (some h.fm)) ∧ w7.cell? ⟨w.heap.size, 6, none⟩ = some (.int .i64 o.file) ∧ w7.cell? ⟨w.heap.size, 7, none⟩ = some (.int .i64 o.off) ∧ w7.cell? ⟨w.heap.size, 10, none⟩ = some (.int .i64 o.ati) ∧ w7.cell? ⟨w.heap.size, 11, none⟩ = some (.int .i64 o.v)) (first | with_reducible exact hk0 | with_reducible exact hkd | with_reducible exact hk1 | with_reducible exact hk9 | fail)
    (first
      | (go_at_call 127; (first | with_reducible refine HW.out.mono ?_ | refine HW.out.mono ?_); rintro e wX ⟨rfl, hwX⟩; subst hwX)
      | fail)
  go_wp2_with fail
  go_ret
  exact ⟨rfl, HD.out⟩
theorem fput_ok (k : FW w kd t r h S) (hok : SOk S) (o : FOp) (ho : OkO o) :
    Calls Tryz.prog 79 #[.pointer (some ⟨r, 0, none⟩), .agg #[.int .i64 o.k, .int .i64 o.proc, .int .i64 o.addr, .int .i64 o.n, .int .i64 o.prot, .bool o.sh, .int .i64 o.file, .int .i64 o.off, .bool o.fixed, .int .i64 o.how, .int .i64 o.ati, .int .i64 o.v, .int .i64 o.hd, .int .i64 o.to]] w fun e w' => e = .returned (.int .i64 (S.put o).e) ∧ Dn t r kd w w' (S.put o).S := by
  by_cases h0 : (S.ofFile o.file o.off (isAtB o.ati && isByB o.v)).2 = 0
  · exact put_yes k hok o ho h0
  · exact put_no k hok o ho h0
end
end Go.Proofs.YtefiiooibbkffaaGreat

namespace Go.Proofs.YtefiiooibbkffaaGreat
open Go.ChangeShapes Go.WideShapes Go.ChangeAt Go.RowKit Go.Deep Go.Sort
set_option linter.unusedVariables false
set_option linter.unusedSimpArgs false

section
variable {w w' : World} {kd kd' : Nat → Ro} {t r : Nat} {h : Gh} {S S' : Fl} {id : Int} {p : Pr}
theorem cutF_none (F : List ((Int × Int) × List UInt8)) (f lo hi : Int) (h : hi ≤ lo) : cutF F f lo hi = F := List.filter_eq_self.2 fun n _ => by
  rw [decide_eq_false (by omega)]
  rfl
theorem cutF_next (F : List ((Int × Int) × List UInt8)) {f lo q : Int} (h : lo ≤ q) : cutF F f lo (q + 1) = drA (cutF F f lo q) (f, q) := by
  unfold cutF drA
  rw [List.filter_filter]
  refine List.filter_congr fun n _ => ?_
  by_cases e : n.1 = (f, q)
  · have e1 : n.1.1 = f := by rw [e]
    have e2 : n.1.2 = q := by rw [e]
    rw [decide_eq_true (show n.1.1 = f ∧ lo ≤ n.1.2 ∧ n.1.2 < q + 1 by omega), decide_eq_false (show ¬ n.1 ≠ (f, q) from fun k => k e)]
    rfl
  · rw [decide_eq_true (show n.1 ≠ (f, q) from e), Bool.true_and]
    congr 1
    rw [decide_eq_decide]
    constructor
    · rintro ⟨a, b, c⟩
      refine ⟨a, b, ?_⟩
      by_cases e2 : n.1.2 = q
      · exact (e (Prod.ext a e2)).elim
      · omega
    · rintro ⟨a, b, c⟩
      exact ⟨a, b, by omega⟩
theorem cutF_sub {F : List ((Int × Int) × List UInt8)} {f lo hi : Int} : ∀ n, n ∈ cutF F f lo hi → n ∈ F := fun n hn => (List.mem_filter.1 hn).1
/-- A file's number of pages turns. -/
theorem FW.zset (k : FW w kd t r h S) {g c i : Nat} (hsv : h.sv = .slice (some ⟨g, 0, none⟩) S.sz.length c) (n : Int) :
    FW (w.setCell ⟨g, i, none⟩ (.int .i64 n)) kd t r h { S with sz := S.sz.set i n } ∧ Ch (own t) kd kd w (w.setCell ⟨g, i, none⟩ (.int .i64 n)) := by
  have hg := grown_set w g i (.int .i64 n)
  have hkg : kd g = .w t .sz := k.hw.kz g (by rw [hsv]; rfl)
  have hch : Ch (fun ρ => ρ = .w t .sz) kd kd w (w.setCell ⟨g, i, none⟩ (.int .i64 n)) := Ch.one hg hkg
  have hz : ZOwn (w.setCell ⟨g, i, none⟩ (.int .i64 n)) 0 h.sv (S.sz.set i n) := by
    have h1 := k.hw.sz
    rw [hsv] at h1 ⊢
    exact h1.set i n
  have hne : ∀ b, kd b ≠ .w t .sz → some b ≠ some g := fun b hb e => hb (by rw [Option.some.inj e]; exact hkg)
  refine ⟨⟨⟨(hg.block _ (heap_lt k.hw.head) (hne _ (by rw [k.hw.kr]; simp))).trans k.hw.head, k.hw.kr, hz, k.hw.kz, k.hw.fm.kept (hg.block _ k.hw.fm.lt (hne _ (by rw [k.hw.kf]; simp))), k.hw.kf, fun n hn => (k.hw.fs n hn).ch hch (by simp), k.hw.lm.kept (hg.block _ k.hw.lm.lt (hne _ (by rw [k.hw.kl]; simp))), k.hw.kl, fun n hn => (k.hw.ls n hn).ch hch (by simp)⟩, k.pm.ch hch (by simp), k.bw.ch hch (by simp) (by simp) (by simp) (by simp) (by simp) (by simp)⟩, hch.mono own_mono⟩
set_option maxRecDepth 100000 in
set_option maxHeartbeats 4000000 in
theorem resize_ok (k : FW w kd t r h S) (hok : SOk S) (f n : Int) (hf : hasF S.sz f = true) (hn : maySzB n = true) :
    Calls Tryz.prog 134 #[.agg #[h.sv, .map (some h.fm)], .int .i64 f, .int .i64 n] w fun e w' => e = .returned (.tuple #[]) ∧ FW w' kd t r h { S with F := cutF S.F f n (S.sz.getD (f - 1).toNat 0), sz := S.sz.set (f - 1).toNat n } ∧ Ch (own t) kd kd w w' := by
  unfold hasF at hf
  rw [Bool.and_eq_true, decide_eq_true_eq, decide_eq_true_eq] at hf
  have hn2 := of_decide_eq_true hn
  obtain ⟨i, rfl⟩ : ∃ i : Nat, f = (i : Int) + 1 := ⟨(f - 1).toNat, by omega⟩
  have hi : i < S.sz.length := by omega
  obtain ⟨m, hm⟩ : ∃ m, S.sz[i]? = some m := ⟨_, List.getElem?_eq_getElem hi⟩
  have hmok := hok.hz m (List.mem_of_getElem? hm)
  rw [show S.sz.getD ((i : Int) + 1 - 1).toNat 0 = m by rw [show ((i : Int) + 1 - 1).toNat = i by omega]; simp [hm], show ((i : Int) + 1 - 1).toNat = i by omega]
  obtain ⟨a, c, hsv⟩ := OwnOf.form k.hw.sz
  have hrow := k.hw.sz
  rw [hsv] at hrow
  obtain ⟨g, c2, hsl⟩ := OwnOf.there hrow (by omega)
  injection hsl with e1 e2 e3
  subst e1
  subst e3
  have hl16 := hok.hl
  have hwr : IntKind.i64.wrap ((i : Int) + 1 - 1) = (i : Int) := by rw [IntKind.wrap_i64]; omega
  have hi0 : (0 : Int) ≤ (i : Int) := by omega
  have hi1 : (i : Int) < (S.sz.length : Int) := by omega
  have ga := World.grownBy_alloc w (.cells #[h.sv, .map (some h.fm)] 55 (0, 0)) none
  have hb := heap_alloc_new w (.cells #[h.sv, .map (some h.fm)] 55 (0, 0))
  have HNe := Lib.hid (show w.heap.size ≠ h.fm from Nat.ne_of_gt k.hw.fm.lt)
  have HK0 := Lib.hid (show FW (w.alloc (.cells #[h.sv, .map (some h.fm)] 55 (0, 0))) kd t r h (S.withF (cutF S.F ((i : Int) + 1) n n)) by rw [cutF_none _ _ _ _ (Int.le_refl _)]; exact k.grow ga)
  have HC0 := Lib.hid (show Ch (own t) kd kd w (w.alloc (.cells #[h.sv, .map (some h.fm)] 55 (0, 0))) from Ch.grown ga)
  rw [hsv] at hb HK0 HC0 ⊢
  have HB0 := Lib.hid hb
  have HSv := Lib.hid hsv
  have HM := Lib.hid hm
  clear k hok hf hn hm hrow ga hb hsv hi
  generalize hlen : S.sz.length = len at *
  have HLen := Lib.hid hlen
  clear hlen
  go_enter Tryz.func134, Tryz.ntmps134
  go_wp2_with fail
  go_loopw [6] (fun qv wr => ∃ q : Int, n ≤ q ∧ (q = n ∨ q ≤ m) ∧ qv = .int .i64 q ∧ Hid (FW wr kd t r h (S.withF (cutF S.F ((i : Int) + 1) n q))) ∧ Hid (Ch (own t) kd kd w wr) ∧ Hid (wr.heap[w.heap.size]? = some (.cells #[.slice (some ⟨g, 0, none⟩) len c, .map (some h.fm)] 55 (0, 0)))) (fun qv _ => (m - intOf qv).toNat)
  case atStart => exact ⟨n, by omega, .inl rfl, rfl, HK0, HC0, HB0⟩
  case round =>
    obtain ⟨q, h0, h1, rfl, HK, HC, HB⟩ := hrel
    clear HK0 HC0 HB0
    have b0 : wr.cell? ⟨w.heap.size, 0, none⟩ = some (.slice (some ⟨g, 0, none⟩) len c) := by rw [cell_of_row _ _ _ _ _ _ HB.out]; rfl
    have b1 : wr.cell? ⟨w.heap.size, 1, none⟩ = some (.map (some h.fm)) := by rw [cell_of_row _ _ _ _ _ _ HB.out]; rfl
    have hrow : ZOwn wr 0 (.slice (some ⟨g, 0, none⟩) S.sz.length c) S.sz := by
      have h1 := HK.out.hw.sz
      rw [HSv.out] at h1
      rw [HLen.out]
      exact h1
    have kz := own_z hrow HM.out
    have fz := OwnOf.frozen hrow i
    clear hrow
    by_cases hlt : q < m
    · have hbq : decide (q < m) = true := decide_eq_true hlt
      obtain ⟨w9, hdel, h9, t9⟩ := HK.out.hw.fm.del lawsF (x := ((i : Int) + 1, q)) ⟨⟨by omega, by omega⟩, ⟨by have := hmok.1; omega, by have := hmok.2; omega⟩⟩ 0
      rw [drop_map (fun k _ => h.fv k)] at h9
      rw [show spotV ((i : Int) + 1, q) = .agg #[.int .i64 ((i : Int) + 1), .int .i64 q] from rfl] at hdel
      have k9 := HK.out.less (F' := drA (cutF S.F ((i : Int) + 1) n q) ((i : Int) + 1, q)) (fun m hm => (List.mem_filter.1 hm).1) t9.grown h9
      have HK9 := Lib.hid (show FW w9 kd t r h (S.withF (cutF S.F ((i : Int) + 1) n (q + 1))) by rw [cutF_next _ h0]; exact k9)
      have HC9 := Lib.hid (HC.out.trans (Ch.one t9.grown ⟨_, HK.out.hw.kf⟩))
      have HB9 := Lib.hid ((t9.grown.block _ (heap_lt HB.out) (fun e => HNe.out (Option.some.inj e))).trans HB.out)
      have hq1 : q + 1 ≤ 9223372036854775807 := by have := hmok.2; omega
      have hq0 : -9223372036854775808 ≤ q + 1 := by omega
      clear h9 t9 k9 HK HC HB fz
      go_wp2_with fail
      go_roundw
      case rel => exact ⟨q + 1, by omega, .inr (by omega), by go_num, HK9, HC9, HB9⟩
      case measure => simp [intOf]; omega
    · have hbq : decide (q < m) = false := decide_eq_false hlt
      have HK9 := Lib.hid (show FW wr kd t r h (S.withF (cutF S.F ((i : Int) + 1) n m)) by
        have h2 : cutF S.F ((i : Int) + 1) n q = cutF S.F ((i : Int) + 1) n m := by
          by_cases e : q = m
          · rw [e]
          · rw [cutF_none _ _ _ _ (by omega), cutF_none _ _ _ _ (by omega)]
        rw [← h2]
        exact HK.out)
      obtain ⟨k9, c9⟩ := HK9.out.zset (g := g) (c := c) (i := i) (by rw [HSv.out]; show _ = Value.slice _ (S.sz.length) _; rw [HLen.out]) n
      have HD := Lib.hid (show FW (wr.setCell ⟨g, i, none⟩ (.int .i64 n)) kd t r h { S with F := cutF S.F ((i : Int) + 1) n m, sz := S.sz.set i n } ∧ Ch (own t) kd kd w (wr.setCell ⟨g, i, none⟩ (.int .i64 n)) from ⟨k9, HC.out.trans c9⟩)
      clear HK9 HK HC HB k9 c9
      go_wp2_with fail
      go_end0
      exact ⟨rfl, HD.out⟩
theorem own_no17 {t : Nat} : ¬ own t .no := fun ⟨_, e⟩ => by cases e
set_option maxHeartbeats 4000000 in
theorem fsize_ok (k : FW w kd t r h S) (hok : SOk S) (o : FOp) :
    Calls Tryz.prog 80 #[.pointer (some ⟨r, 0, none⟩), .agg #[.int .i64 o.k, .int .i64 o.proc, .int .i64 o.addr, .int .i64 o.n, .int .i64 o.prot, .bool o.sh, .int .i64 o.file, .int .i64 o.off, .bool o.fixed, .int .i64 o.how, .int .i64 o.ati, .int .i64 o.v, .int .i64 o.hd, .int .i64 o.to]] w fun e w' => e = .returned (.int .i64 (S.size o).e) ∧ Dn t r kd w w' (S.size o).S := by
  have ga := World.grownBy_alloc w (.cells #[.int .i64 o.k, .int .i64 o.proc, .int .i64 o.addr, .int .i64 o.n, .int .i64 o.prot, .bool o.sh, .int .i64 o.file, .int .i64 o.off, .bool o.fixed, .int .i64 o.how, .int .i64 o.ati, .int .i64 o.v, .int .i64 o.hd, .int .i64 o.to] 34) none
  have hB := OpB.new w o
  have hcB := Ch.new noRo kd w (.cells #[.int .i64 o.k, .int .i64 o.proc, .int .i64 o.addr, .int .i64 o.n, .int .i64 o.prot, .bool o.sh, .int .i64 o.file, .int .i64 o.off, .bool o.fixed, .int .i64 o.how, .int .i64 o.ati, .int .i64 o.v, .int .i64 o.hd, .int .i64 o.to] 34) .no
  generalize hwB : w.alloc (.cells #[.int .i64 o.k, .int .i64 o.proc, .int .i64 o.addr, .int .i64 o.n, .int .i64 o.prot, .bool o.sh, .int .i64 o.file, .int .i64 o.off, .bool o.fixed, .int .i64 o.how, .int .i64 o.ati, .int .i64 o.v, .int .i64 o.hd, .int .i64 o.to] 34) = wB at *
  have kB := k.chNo hcB
  have hk : upd kd w.heap.size .no w.heap.size = .no := upd_same _ _ _
  obtain ⟨kdB, hkB⟩ : ∃ f, upd kd w.heap.size .no = f := ⟨_, rfl⟩
  rw [hkB] at hcB kB hk
  have c6 := hB.at.c6
  obtain ⟨k0, k1, k2, k3, k4⟩ := kB.hw.at
  have hc1 := Calls.regrown_g (w := wB) fun W _ => has_at k hok o.file W
  have r6 := cell_regrown c6
  have r1 := cell_regrown k1
  have r2 := cell_regrown k2
  have HK := Lib.hid (fun W (g : wB.grownBy W none) => kB.grow g)
  have HB := Lib.hid (fun W (g : wB.grownBy W none) => hB.grow g)
  have HOk := Lib.hid hok
  have HCB := Lib.hid hcB
  have Hk := Lib.hid hk
  have HSe := Lib.hid (show S.size o = if hasF S.sz o.file = true then (if maySzB o.n = true then ⟨{ S with F := cutF S.F o.file o.n (S.sz.getD (o.file - 1).toNat 0), sz := S.sz.set (o.file - 1).toNat o.n }, 0, 0⟩ else S.no 2) else S.no 7 from rfl)
  obtain ⟨R, hR⟩ : ∃ R, S.size o = R := ⟨_, rfl⟩
  rw [hR] at HSe ⊢
  clear hR
  have HHas := Lib.hid (show ∀ d, hasF S.sz o.file = d → hasF S.sz o.file = d from fun _ e => e)
  obtain ⟨d, hd⟩ : ∃ d, hasF S.sz o.file = d := ⟨_, rfl⟩
  have HD0 := Lib.hid hd
  rw [hd] at hc1 HSe
  clear k hok kB ga hB k0 k3 k4 hcB hk hkB HHas hd c6
  go_enter Tryz.func80, Tryz.ntmps80
  go_upto_region 1 with fail
  refine wp_region_quiet_below (by kernel_rfl) (by kernel_rfl) ?_
  repeat (go_big_quiet_step (first | exact hc1 _ _ | fail))
  refine wpQuiet_nil ?_
  intro _ hw'
  obtain ⟨⟨dq, osq⟩, hw''⟩ := hw'
  subst hw''
  have HQ := Lib.hid (regrown_grown wB dq osq)
  clear r1 r2 r6 hc1
  generalize grow (redrawn wB dq) osq = w3 at *
  cases d with
  | false =>
    have HR := Lib.hid (show R = S.no 7 from HSe.out)
    have HD := Lib.hid (show Dn t r kd w w3 S from ⟨kdB, h, HK.out w3 HQ.out, (HCB.out.mono fun _ e => (no_ro _ e).elim).trans (Ch.grown HQ.out)⟩)
    clear HSe
    go_wp2_with fail
    go_ret
    exact ⟨by rw [HR.out]; rfl, by rw [HR.out]; exact HD.out⟩
  | true =>
    have HSe2 := Lib.hid (show R = if maySzB o.n = true then ⟨{ S with F := cutF S.F o.file o.n (S.sz.getD (o.file - 1).toNat 0), sz := S.sz.set (o.file - 1).toNat o.n }, 0, 0⟩ else S.no 2 from HSe.out)
    have q3 := (HB.out w3 HQ.out).at.c3
    have HM := Lib.hid (maySize_ok w3 o.n)
    obtain ⟨d2, hd2⟩ : ∃ d, maySzB o.n = d := ⟨_, rfl⟩
    rw [hd2] at HM HSe2
    have HM2 := Lib.hid hd2
    clear hd2 HSe
    go_wp2_with fail
    refine HM.out.mono ?_
    rintro e w4 ⟨rfl, e4⟩
    have e5 := e4.symm
    subst e5
    clear q3 e4
    cases d2 with
    | false =>
      have HR := Lib.hid (show R = S.no 2 from HSe2.out)
      have HD := Lib.hid (show Dn t r kd w w3 S from ⟨kdB, h, HK.out w3 HQ.out, (HCB.out.mono fun _ e => (no_ro _ e).elim).trans (Ch.grown HQ.out)⟩)
      clear HSe2
      go_wp2_with fail
      go_ret
      exact ⟨by rw [HR.out]; rfl, by rw [HR.out]; exact HD.out⟩
    | true =>
      have HR := Lib.hid (show R = ⟨{ S with F := cutF S.F o.file o.n (S.sz.getD (o.file - 1).toNat 0), sz := S.sz.set (o.file - 1).toNat o.n }, 0, 0⟩ from HSe2.out)
      have gD := grown_trans HQ.out (grown_drew1 w3)
      have HRz := Lib.hid (resize_ok (HK.out _ gD) HOk.out o.file o.n HD0.out HM2.out)
      have hk0 : w3.cell? ⟨r, 1, none⟩ = some h.sv ∧ w3.cell? ⟨r, 2, none⟩ = some (.map (some h.fm)) ∧ w3.cell? ⟨w.heap.size, 6, none⟩ = some (.int .i64 o.file) ∧ w3.cell? ⟨w.heap.size, 3, none⟩ = some (.int .i64 o.n) := ⟨(HK.out w3 HQ.out).hw.at.2.1, (HK.out w3 HQ.out).hw.at.2.2.1, (HB.out w3 HQ.out).at.c6, (HB.out w3 HQ.out).at.c3⟩
      have hkd : w3.drew.cell? ⟨r, 1, none⟩ = some h.sv ∧ w3.drew.cell? ⟨r, 2, none⟩ = some (.map (some h.fm)) ∧ w3.drew.cell? ⟨w.heap.size, 6, none⟩ = some (.int .i64 o.file) ∧ w3.drew.cell? ⟨w.heap.size, 3, none⟩ = some (.int .i64 o.n) := ⟨(HK.out _ gD).hw.at.2.1, (HK.out _ gD).hw.at.2.2.1, (HB.out _ gD).at.c6, (HB.out _ gD).at.c3⟩
      have HFin := Lib.hid (show ∀ w5, FW w5 kdB t r h { S with F := cutF S.F o.file o.n (S.sz.getD (o.file - 1).toNat 0), sz := S.sz.set (o.file - 1).toNat o.n } → Ch (own t) kdB kdB w3.drew w5 → (w5.cell? ⟨r, 1, none⟩ = some h.sv ∧ w5.cell? ⟨r, 2, none⟩ = some (.map (some h.fm)) ∧ w5.cell? ⟨w.heap.size, 6, none⟩ = some (.int .i64 o.file) ∧ w5.cell? ⟨w.heap.size, 3, none⟩ = some (.int .i64 o.n)) ∧ Dn t r kd w w5 { S with F := cutF S.F o.file o.n (S.sz.getD (o.file - 1).toNat 0), sz := S.sz.set (o.file - 1).toNat o.n } from fun w5 k5 c5 => by
        have hb5 : OpB w5 w.heap.size o := (c5.block _ (HB.out _ gD).lt (by rw [Hk.out]; exact own_no17)).trans (HB.out _ gD)
        exact ⟨⟨k5.hw.at.2.1, k5.hw.at.2.2.1, hb5.at.c6, hb5.at.c3⟩, kdB, h, k5, ((HCB.out.mono fun _ e => (no_ro _ e).elim).trans (Ch.grown gD)).trans c5⟩)
      clear HSe2 gD HM HM2 HD0 HK HB HCB Hk HOk HQ
      go_upto_region 5 with fail
      go_region_held3 (fun w7 => w7.cell? ⟨r, 1, none⟩ = some h.sv ∧ w7.cell? ⟨r, 2, none⟩ = some (.map (some h.fm)) ∧ w7.cell? ⟨w.heap.size, 6, none⟩ = some (.int .i64 o.file) ∧ w7.cell? ⟨w.heap.size, 3, none⟩ = some (.int .i64 o.n)) (first | with_reducible exact hk0 | with_reducible exact hkd | with_reducible exact hk1 | fail)
        (first
          | (go_at_call 134; (first | with_reducible refine HRz.out.mono ?_ | refine HRz.out.mono ?_); rintro e w5 ⟨rfl, k5, c5⟩; obtain ⟨hk1, hD⟩ := HFin.out _ k5 c5; have HD := Lib.hid hD; clear hD k5 c5)
          | fail)
      go_wp2_with fail
      go_ret
      exact ⟨by rw [HR.out]; rfl, by rw [HR.out]; exact HD.out⟩
end
end Go.Proofs.YtefiiooibbkffaaGreat

namespace Go.Proofs.YtefiiooibbkffaaGreat
open Go.ChangeShapes Go.WideShapes Go.ChangeAt Go.RowKit Go.Deep Go.Sort
set_option linter.unusedVariables false
set_option linter.unusedSimpArgs false

theorem wipe_none (A : List (Int × Nat)) (c : Nat → Option (List UInt8)) (lo : Int) : wipeF A c lo lo = c := by
  funext s
  unfold wipeF
  rw [if_neg]
  intro h
  obtain ⟨a, -, h2⟩ := List.any_eq_true.1 h
  have := of_decide_eq_true h2
  omega
theorem wipe_next {A : List (Int × Nat)} (hn : (A.map (·.1)).Nodup) (c : Nat → Option (List UInt8)) {lo q : Int} (h : lo ≤ q) :
    wipeF A c lo (q + 1) = (match geA A q with | some s => upd (wipeF A c lo q) s none | none => wipeF A c lo q) := by
  cases e : geA A q with
  | none =>
    simp only
    funext s
    unfold wipeF
    congr 1
    rw [eq_iff_iff, List.any_eq_true, List.any_eq_true]
    constructor
    · rintro ⟨a, ha, h2⟩
      have h3 := of_decide_eq_true h2
      refine ⟨a, ha, decide_eq_true ⟨h3.1, h3.2.1, ?_⟩⟩
      have := geA_none e a ha
      omega
    · rintro ⟨a, ha, h2⟩
      have h3 := of_decide_eq_true h2
      exact ⟨a, ha, decide_eq_true ⟨h3.1, h3.2.1, by omega⟩⟩
  | some s0 =>
    simp only
    funext s
    unfold upd wipeF
    by_cases es : s = s0
    · rw [if_pos es, if_pos]
      rw [List.any_eq_true]
      exact ⟨_, geA_some e, decide_eq_true ⟨es.symm, h, by show q < q + 1; omega⟩⟩
    · rw [if_neg es]
      congr 1
      rw [eq_iff_iff, List.any_eq_true, List.any_eq_true]
      constructor
      · rintro ⟨a, ha, h2⟩
        have h3 := of_decide_eq_true h2
        refine ⟨a, ha, decide_eq_true ⟨h3.1, h3.2.1, ?_⟩⟩
        by_cases e2 : a.1 = q
        · have := geA_mem hn (x := a.1) (a := a.2) ha
          rw [e2, e] at this
          have := Option.some.inj this
          omega
        · omega
      · rintro ⟨a, ha, h2⟩
        have h3 := of_decide_eq_true h2
        exact ⟨a, ha, decide_eq_true ⟨h3.1, h3.2.1, by omega⟩⟩
section
variable {w w' : World} {kd kd' : Nat → Ro} {t r : Nat} {h : Gh} {S S' : Fl} {id : Int} {p : Pr}
theorem PAt.keys {G : PG} {ι : Nat → Nat} (k : PAt w kd t G id ι p) : (p.A.map (·.1)).Nodup := by
  have h1 := k.sm.nd
  rw [List.map_map] at h1
  exact h1
/-- A slot loses its bytes. -/
theorem FW.wipe (k : FW w kd t r h S) {s : Nat} (hs : SlA w kd t (h.ι s) s (h.sp s) (S.c s)) :
    FW (w.setCell ⟨h.ι s, 0, none⟩ (.pointer none)) kd t r { h with sp := upd h.sp s (.pointer none) } { S with c := upd S.c s none } ∧ Ch (own t) kd kd w (w.setCell ⟨h.ι s, 0, none⟩ (.pointer none)) := by
  have hhp := heap_setCell_same w (h.ι s) 0 _ _ (.pointer none) hs.hb
  obtain ⟨hb, hc⟩ := k.bw.slot_set (u := .pointer none) (b := none) hhp hs.ks (Sh.none_ _ _) (grown_set w _ 0 (.pointer none))
  have hw := k.hw.ch hc (by simp) (by simp) (by simp) (by simp) (by simp)
  have hpm := k.pm.ch hc (by simp)
  exact ⟨⟨⟨hw.head, hw.kr, hw.sz, hw.kz, hw.fm, hw.kf, hw.fs, hw.lm, hw.kl, hw.ls⟩, ⟨hpm.pm, hpm.kp⟩, hb⟩, hc.mono own_mono⟩
def Fl.withC (S : Fl) (c : Nat → Option (List UInt8)) : Fl := { S with c := c }
theorem other_range {l : List En} {lo n k v most : Int} {on : Bool} (h : (otherV l lo n k v most on).err = 0) : rangeV lo n = true := by
  unfold otherV at h
  by_cases e : rangeV lo n = true
  · exact e
  · simp [e] at h
set_option maxRecDepth 100000 in
set_option maxHeartbeats 8000000 in
theorem fadvise_ok (k : FW w kd t r h S) (hok : SOk S) (o : FOp) (ho : OkO o) (hp : geA S.ps o.proc = some p) :
    Calls Tryz.prog 70 #[.pointer (some ⟨(h.g o.proc).b, 0, none⟩), .agg #[.int .i64 o.k, .int .i64 o.proc, .int .i64 o.addr, .int .i64 o.n, .int .i64 o.prot, .bool o.sh, .int .i64 o.file, .int .i64 o.off, .bool o.fixed, .int .i64 o.how, .int .i64 o.ati, .int .i64 o.v, .int .i64 o.hd, .int .i64 o.to]] w fun e w' => e = .returned (.int .i64 (S.advise p o).e) ∧ Dn t r kd w w' (S.advise p o).S := by
  have ga := World.grownBy_alloc w (.cells #[.int .i64 o.k, .int .i64 o.proc, .int .i64 o.addr, .int .i64 o.n, .int .i64 o.prot, .bool o.sh, .int .i64 o.file, .int .i64 o.off, .bool o.fixed, .int .i64 o.how, .int .i64 o.ati, .int .i64 o.v, .int .i64 o.hd, .int .i64 o.to] 34) none
  have hB := OpB.new w o
  have hcB := Ch.new noRo kd w (.cells #[.int .i64 o.k, .int .i64 o.proc, .int .i64 o.addr, .int .i64 o.n, .int .i64 o.prot, .bool o.sh, .int .i64 o.file, .int .i64 o.off, .bool o.fixed, .int .i64 o.how, .int .i64 o.ati, .int .i64 o.v, .int .i64 o.hd, .int .i64 o.to] 34) .no
  have hnv : ∀ b, (h.g o.proc).v.ownBlock = some b → b < w.heap.size := fun b hb => (OwnOf.lt (k.bw.get hp).vm.own hb).2
  generalize hwB : w.alloc (.cells #[.int .i64 o.k, .int .i64 o.proc, .int .i64 o.addr, .int .i64 o.n, .int .i64 o.prot, .bool o.sh, .int .i64 o.file, .int .i64 o.off, .bool o.fixed, .int .i64 o.how, .int .i64 o.ati, .int .i64 o.v, .int .i64 o.hd, .int .i64 o.to] 34) = wB at *
  have kB := k.chNo hcB
  have hk : upd kd w.heap.size .no w.heap.size = .no := upd_same _ _ _
  obtain ⟨kdB, hkB⟩ : ∃ f, upd kd w.heap.size .no = f := ⟨_, rfl⟩
  rw [hkB] at hcB kB hk
  have kE := kB.grow (grown_drew1 wB)
  have hBE := hB.grow (grown_drew1 wB)
  have hPI := hok.pi _ (geA_some hp)
  have HC := Lib.hid (advise_ok (kE.bw.get hp).vm hPI.mp (Nat.le_trans hPI.ln (by decide)) o.addr o.n o.how ho.addr ho.n)
  have HSe := Lib.hid (show S.advise p o = if (otherV p.L o.addr o.n 4 o.how 4 false).err = 0 ∧ o.how = 4 then ⟨{ S with ps := setP S.ps o.proc ⟨(otherV p.L o.addr o.n 4 o.how 4 false).l, p.A⟩, c := wipeF p.A S.c o.addr (o.addr + o.n) }, 0, 0⟩
    else ⟨{ S with ps := setP S.ps o.proc ⟨(otherV p.L o.addr o.n 4 o.how 4 false).l, p.A⟩ }, 0, (otherV p.L o.addr o.n 4 o.how 4 false).err⟩ from rfl)
  have HRg := Lib.hid (fun (h0 : (otherV p.L o.addr o.n 4 o.how 4 false).err = 0) => range_iff.1 (other_range h0))
  obtain ⟨R, hR⟩ : ∃ R, S.advise p o = R := ⟨_, rfl⟩
  rw [hR] at HSe ⊢
  clear hR
  generalize (otherV p.L o.addr o.n 4 o.how 4 false) = d at *
  have HS := Lib.hid (show ∀ w5 v', VM w5 (h.g o.proc).m v' d.l → New wB.drew (h.g o.proc).v v' → Turn ((h.g o.proc).m :: blkL (h.g o.proc).v) wB.drew w5 → (w5.cell? ⟨(h.g o.proc).b, 0, none⟩ = some (.pointer (some ⟨(h.g o.proc).m, 0, none⟩)) ∧ w5.cell? ⟨w.heap.size, 2, none⟩ = some (.int .i64 o.addr) ∧ w5.cell? ⟨w.heap.size, 3, none⟩ = some (.int .i64 o.n) ∧ w5.cell? ⟨w.heap.size, 9, none⟩ = some (.int .i64 o.how)) ∧ OpB w5 w.heap.size o ∧ kdV kdB t o.proc v' w.heap.size = .no ∧
      FW w5 (kdV kdB t o.proc v') t r { h with g := gV h.g o.proc v' } { S with ps := setP S.ps o.proc ⟨d.l, p.A⟩ } ∧ Ch (own t) kd (kdV kdB t o.proc v') w w5 from fun w5 v' hV hN hT => by
    obtain ⟨k5, c5⟩ := kE.mapped hp hV hN hT
    have hO' := hBE.turn hT (k.apart hp (Nat.le_refl _))
    exact ⟨⟨turn_cell hT (kE.bw.get hp).at0 (heap_lt (kE.bw.get hp).hb) (kE.apartR hp (kE.bw.get hp).kb (by simp) (by simp)), hO'.at.c2, hO'.at.c3, hO'.at.c9⟩, hO', (c5.kd _ hBE.lt).trans hk, k5, ((hcB.mono fun _ e => (no_ro _ e).elim).trans (Ch.grown (grown_drew1 wB))).trans c5⟩)
  have hk0 : wB.cell? ⟨(h.g o.proc).b, 0, none⟩ = some (.pointer (some ⟨(h.g o.proc).m, 0, none⟩)) ∧ wB.cell? ⟨w.heap.size, 2, none⟩ = some (.int .i64 o.addr) ∧ wB.cell? ⟨w.heap.size, 3, none⟩ = some (.int .i64 o.n) ∧ wB.cell? ⟨w.heap.size, 9, none⟩ = some (.int .i64 o.how) := ⟨(kB.bw.get hp).at0, hB.at.c2, hB.at.c3, hB.at.c9⟩
  have hkd : wB.drew.cell? ⟨(h.g o.proc).b, 0, none⟩ = some (.pointer (some ⟨(h.g o.proc).m, 0, none⟩)) ∧ wB.drew.cell? ⟨w.heap.size, 2, none⟩ = some (.int .i64 o.addr) ∧ wB.drew.cell? ⟨w.heap.size, 3, none⟩ = some (.int .i64 o.n) ∧ wB.drew.cell? ⟨w.heap.size, 9, none⟩ = some (.int .i64 o.how) := ⟨(kE.bw.get hp).at0, hBE.at.c2, hBE.at.c3, hBE.at.c9⟩
  have HP5 := Lib.hid (show geA (setP S.ps o.proc ⟨d.l, p.A⟩) o.proc = some ⟨d.l, p.A⟩ by rw [geA_setP, if_pos rfl, hp]; rfl)
  have HNd := Lib.hid (k.bw.get hp).keys
  clear k kB kE ga hB hBE hp ho hok hPI hcB hnv hk hkB
  go_enter Tryz.func70, Tryz.ntmps70
  go_upto_region 1 with fail
  try simp only [hwB]
  clear hwB
  go_region_held3 (fun w7 => w7.cell? ⟨(h.g o.proc).b, 0, none⟩ = some (.pointer (some ⟨(h.g o.proc).m, 0, none⟩)) ∧ w7.cell? ⟨w.heap.size, 2, none⟩ = some (.int .i64 o.addr) ∧ w7.cell? ⟨w.heap.size, 3, none⟩ = some (.int .i64 o.n) ∧ w7.cell? ⟨w.heap.size, 9, none⟩ = some (.int .i64 o.how)) (first | with_reducible exact hk0 | with_reducible exact hkd | with_reducible exact hk1 | fail)
    (first
      | (go_at_call 123; (first | with_reducible refine HC.out.mono ?_ | refine HC.out.mono ?_); rintro e w5 ⟨rfl, v', hV, hN, hT⟩; obtain ⟨hk1, hOb, hky, hK5, hC5⟩ := HS.out _ _ hV hN hT; have HOb := Lib.hid hOb; have Hky := Lib.hid hky; have HK5 := Lib.hid hK5; have HC5 := Lib.hid hC5; clear hOb hky hK5 hC5 hV hN hT)
      | fail)
  obtain ⟨e0, e2, e3, e9⟩ := hk1
  clear hk0 hkd HC HS
  by_cases he : d.err = 0
  · have b9 : (d.err != 0) = false := by simpa using he
    by_cases hw4 : o.how = 4
    · have b4 : (o.how != 4) = false := by simpa using hw4
      have HR := Lib.hid (show R = ⟨{ S with ps := setP S.ps o.proc ⟨d.l, p.A⟩, c := wipeF p.A S.c o.addr (o.addr + o.n) }, 0, 0⟩ by have := HSe.out; rw [if_pos ⟨he, hw4⟩] at this; exact this)
      obtain ⟨g0, g1, g2, g3⟩ := HRg.out he
      clear HSe HRg he hw4
      generalize kdV kdB t o.proc v' = kd5 at *
      have hw1 : o.addr + o.n ≤ 67108864 := by omega
      go_wp2_with fail
      clear e0 e2 e3 e9
      go_loopw [6] (fun qv wr => ∃ q : Int, o.addr ≤ q ∧ q ≤ o.addr + o.n ∧ qv = .int .i64 q ∧ Hid (∃ sp', FW wr kd5 t r { h with g := gV h.g o.proc v', sp := sp' } ({ S with ps := setP S.ps o.proc ⟨d.l, p.A⟩, c := wipeF p.A S.c o.addr q } : Fl)) ∧ Hid (Ch (own t) kd kd5 w wr) ∧ Hid (OpB wr w.heap.size o)) (fun qv _ => (o.addr + o.n - intOf qv).toNat)
      case atStart => exact ⟨o.addr, by omega, by omega, rfl, Lib.hid ⟨h.sp, by rw [wipe_none]; exact HK5.out⟩, HC5, HOb⟩
      case round =>
        obtain ⟨q, h0, h1, rfl, HK, HCh, HO⟩ := hrel
        clear HK5 HC5 HOb
        have c2 := HO.out.at.c2
        have c3 := HO.out.at.c3
        by_cases hlt : q < o.addr + o.n
        · obtain ⟨sp', kq⟩ := HK.out
          have hP := kq.bw.get HP5.out
          have a1 := hP.at1
          have hl2 := hP.slot2 (pg := q) ⟨by omega, by omega⟩
          rw [show ({ h with g := gV h.g o.proc v', sp := sp' } : Gh).g o.proc = gV h.g o.proc v' o.proc from rfl, (gV_b h.g o.proc v' o.proc).1, (gV_b h.g o.proc v' o.proc).2.2] at a1
          rw [show ({ h with g := gV h.g o.proc v', sp := sp' } : Gh).g o.proc = gV h.g o.proc v' o.proc from rfl, (gV_b h.g o.proc v' o.proc).2.2] at hl2
          have HNx := Lib.hid (wipe_next HNd.out S.c h0)
          cases e : geA p.A q with
          | none =>
            rw [show (⟨d.l, p.A⟩ : Pr).A = p.A from rfl, e] at hl2
            rw [e] at HNx
            simp only [Option.map_none, Option.isSome_none] at hl2
            have HK9 := Lib.hid (show ∃ sp', FW wr kd5 t r { h with g := gV h.g o.proc v', sp := sp' } ({ S with ps := setP S.ps o.proc ⟨d.l, p.A⟩, c := wipeF p.A S.c o.addr (q + 1) } : Fl) from ⟨sp', by rw [HNx.out]; exact kq⟩)
            clear kq hP HNx HK
            go_wp2_with fail
            go_roundw
            case rel => exact ⟨q + 1, by omega, by omega, by go_num, HK9, HCh, HO⟩
            case measure => simp [intOf]; omega
          | some s =>
            rw [show (⟨d.l, p.A⟩ : Pr).A = p.A from rfl, e] at hl2
            rw [e] at HNx
            simp only [Option.map_some, Option.isSome_some] at hl2
            have hS := kq.bw.sl _ (geA_some HP5.out) _ (geA_some e)
            have hsl : wr.cell? ⟨h.ι s, 0, none⟩ = some (sp' s) := by rw [cell_of_row _ _ _ _ _ _ hS.hb]; rfl
            have hfr : wr.frozen? ⟨h.ι s, 0, none⟩ = false := frozen_of_row _ _ _ _ _ hS.hb
            obtain ⟨k9, c9⟩ := kq.wipe hS
            have HK9 := Lib.hid (show ∃ sp2, FW (wr.setCell ⟨h.ι s, 0, none⟩ (.pointer none)) kd5 t r { h with g := gV h.g o.proc v', sp := sp2 } ({ S with ps := setP S.ps o.proc ⟨d.l, p.A⟩, c := wipeF p.A S.c o.addr (q + 1) } : Fl) from ⟨_, by rw [HNx.out]; exact k9⟩)
            have HCh9 := Lib.hid (HCh.out.trans c9)
            have HO9 := Lib.hid (show OpB (wr.setCell ⟨h.ι s, 0, none⟩ (.pointer none)) w.heap.size o from (c9.block _ HO.out.lt (by rw [Hky.out]; exact own_no17)).trans HO.out)
            obtain ⟨us, hus⟩ : ∃ us, sp' s = us := ⟨_, rfl⟩
            rw [hus] at hsl
            obtain ⟨gs, hgs⟩ : ∃ gs, h.ι s = gs := ⟨_, rfl⟩
            rw [show ({ h with g := gV h.g o.proc v', sp := sp' } : Gh).ι s = h.ι s from rfl] at hl2
            rw [hgs] at hl2 hsl hfr HK9 HCh9 HO9
            clear kq hP HNx HK HCh HO hS k9 c9 hus hgs
            go_wp2_with fail
            go_roundw
            case rel => exact ⟨q + 1, by omega, by omega, by go_num, HK9, HCh9, HO9⟩
            case measure => simp [intOf]; omega
        · obtain rfl : q = o.addr + o.n := by omega
          obtain ⟨sp', kq⟩ := HK.out
          have HD := Lib.hid (show Dn t r kd w wr { S with ps := setP S.ps o.proc ⟨d.l, p.A⟩, c := wipeF p.A S.c o.addr (o.addr + o.n) } from ⟨_, _, kq, HCh.out⟩)
          clear kq HK HCh HO
          go_wp2_with fail
          go_ret
          exact ⟨by rw [HR.out]; rfl, by rw [HR.out]; exact HD.out⟩
    · have b4 : (o.how != 4) = true := by simpa using hw4
      have HR := Lib.hid (show R = ⟨{ S with ps := setP S.ps o.proc ⟨d.l, p.A⟩ }, 0, d.err⟩ by have := HSe.out; rw [if_neg (fun e => hw4 e.2)] at this; exact this)
      have HD := Lib.hid (show Dn t r kd w w5 { S with ps := setP S.ps o.proc ⟨d.l, p.A⟩ } from ⟨_, _, HK5.out, HC5.out⟩)
      have HE := Lib.hid he
      clear HSe hw4 he
      go_wp2_with fail
      go_ret
      exact ⟨by rw [HR.out]; rfl, by rw [HR.out]; exact HD.out⟩
  · have b9 : (d.err != 0) = true := by simpa using he
    have HR := Lib.hid (show R = ⟨{ S with ps := setP S.ps o.proc ⟨d.l, p.A⟩ }, 0, d.err⟩ by have := HSe.out; rw [if_neg (fun e => he e.1)] at this; exact this)
    have HD := Lib.hid (show Dn t r kd w w5 { S with ps := setP S.ps o.proc ⟨d.l, p.A⟩ } from ⟨_, _, HK5.out, HC5.out⟩)
    clear HSe he
    go_wp2_with fail
    go_ret
    exact ⟨by rw [HR.out]; rfl, by rw [HR.out]; exact HD.out⟩
end
end Go.Proofs.YtefiiooibbkffaaGreat
