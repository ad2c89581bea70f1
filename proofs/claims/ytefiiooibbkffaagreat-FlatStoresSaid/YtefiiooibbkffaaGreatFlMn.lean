/- Layer 17 (landed): sync, get, peek, takeBack. Layer 17 (landed): takeBack, lend. Layer 17 (landed): act: entries turn. Written by wip/genflturn.py. Layer 17 (landed): exit. Layer 17 (landed): unmap. -/
import Derived.Test.YtefiiooibbkffaaGreatFlMk
namespace Go.Proofs.YtefiiooibbkffaaGreat
open Go.ChangeShapes Go.WideShapes Go.ChangeAt Go.RowKit Go.Deep Go.Sort
set_option linter.unusedVariables false
set_option linter.unusedSimpArgs false

section
variable {w w' : World} {kd kd' : Nat → Ro} {t r : Nat} {h : Gh} {S : Fl} {id : Int} {p : Pr}
set_option maxHeartbeats 2000000 in
theorem sync_ok (k : FW w kd t r h S) (hok : SOk S) (o : FOp) :
    Calls Tryz.prog 81 #[.pointer (some ⟨r, 0, none⟩), .agg #[.int .i64 o.k, .int .i64 o.proc, .int .i64 o.addr, .int .i64 o.n, .int .i64 o.prot, .bool o.sh, .int .i64 o.file, .int .i64 o.off, .bool o.fixed, .int .i64 o.how, .int .i64 o.ati, .int .i64 o.v, .int .i64 o.hd, .int .i64 o.to]] w fun e w' => e = .returned (.int .i64 (S.sync o).e) ∧ w.grownBy w' none := by
  have ga := World.grownBy_alloc w (.cells #[.int .i64 o.k, .int .i64 o.proc, .int .i64 o.addr, .int .i64 o.n, .int .i64 o.prot, .bool o.sh, .int .i64 o.file, .int .i64 o.off, .bool o.fixed, .int .i64 o.how, .int .i64 o.ati, .int .i64 o.v, .int .i64 o.hd, .int .i64 o.to] 34) none
  have hB := OpB.new w o
  generalize hwB : w.alloc (.cells #[.int .i64 o.k, .int .i64 o.proc, .int .i64 o.addr, .int .i64 o.n, .int .i64 o.prot, .bool o.sh, .int .i64 o.file, .int .i64 o.off, .bool o.fixed, .int .i64 o.how, .int .i64 o.ati, .int .i64 o.v, .int .i64 o.hd, .int .i64 o.to] 34) = wB at *
  have c6 := hB.at.c6
  have kB := k.grow ga
  obtain ⟨k0, k1, k2, k3, k4⟩ := kB.hw.at
  have hc1 := Calls.regrown_g (w := wB) fun W _ => has_at k hok o.file W
  have HG := Lib.hid ga
  have r6 := cell_regrown c6
  have r1 := cell_regrown k1
  have r2 := cell_regrown k2
  have HS := Lib.hid (show (S.sync o).e = if hasF S.sz o.file = true then 0 else 7 by unfold Fl.sync; split <;> rfl)
  generalize hasF S.sz o.file = d at *
  rw [HS.out]
  clear k hok kB ga hB HS
  go_enter Tryz.func81, Tryz.ntmps81
  go_upto_region 1 with fail
  refine wp_region_quiet_below (by kernel_rfl) (by kernel_rfl) ?_
  repeat (go_big_quiet_step (first | exact hc1 _ _ | fail))
  refine wpQuiet_nil ?_
  intro _ hw'
  obtain ⟨⟨dq, osq⟩, hw''⟩ := hw'
  subst hw''
  have HQ := Lib.hid (regrown_grown wB dq osq)
  clear r1 r2 r6 hc1
  generalize grow (redrawn wB dq) osq = w3 at *
  cases d with
  | true =>
    go_wp2_with fail
    go_ret
    exact ⟨rfl, grown_trans HG.out HQ.out⟩
  | false =>
    go_wp2_with fail
    go_ret
    exact ⟨rfl, grown_trans HG.out HQ.out⟩
/-- What stands at a file's page that an operation names. -/
def ofU (h : Gh) (S : Fl) (f n : Int) (may : Bool) : Value := if hasF S.sz f = true then (if may = true then findV h S.sz S.F (f, n) else .pointer none) else .pointer none
theorem ofU_sh (k : FW w kd t r h S) (f n : Int) (may : Bool) : Sh w kd (ofU h S f n may) (S.ofFile f n may).1 := by
  unfold ofU Fl.ofFile
  by_cases h0 : hasF S.sz f = true
  · rw [if_pos h0, if_pos h0]
    by_cases h1 : may = true
    · rw [if_pos h1, if_pos h1]
      have h2 := k.hw.findV (f, n)
      cases e : findF S.sz S.F (f, n) with
      | none => rw [e] at h2; exact h2
      | some b => rw [e] at h2; exact h2
    · rw [if_neg h1, if_neg h1]
      exact Sh.none_ _ _
  · rw [if_neg h0, if_neg h0]
    exact Sh.none_ _ _
set_option maxHeartbeats 4000000 in
theorem ofFile_ok (k : FW w kd t r h S) (hok : SOk S) (o : FOp) (ho : OkO o) (may : Bool) :
    Calls Tryz.prog 113 #[.pointer (some ⟨r, 0, none⟩), .agg #[.int .i64 o.k, .int .i64 o.proc, .int .i64 o.addr, .int .i64 o.n, .int .i64 o.prot, .bool o.sh, .int .i64 o.file, .int .i64 o.off, .bool o.fixed, .int .i64 o.how, .int .i64 o.ati, .int .i64 o.v, .int .i64 o.hd, .int .i64 o.to], .bool may] w fun e w' => e = .returned (.tuple #[ofU h S o.file o.off may, .int .i64 (S.ofFile o.file o.off may).2]) ∧ w.grownBy w' none := by
  have ga := World.grownBy_alloc w (.cells #[.int .i64 o.k, .int .i64 o.proc, .int .i64 o.addr, .int .i64 o.n, .int .i64 o.prot, .bool o.sh, .int .i64 o.file, .int .i64 o.off, .bool o.fixed, .int .i64 o.how, .int .i64 o.ati, .int .i64 o.v, .int .i64 o.hd, .int .i64 o.to] 34) none
  have hB := OpB.new w o
  generalize hwB : w.alloc (.cells #[.int .i64 o.k, .int .i64 o.proc, .int .i64 o.addr, .int .i64 o.n, .int .i64 o.prot, .bool o.sh, .int .i64 o.file, .int .i64 o.off, .bool o.fixed, .int .i64 o.how, .int .i64 o.ati, .int .i64 o.v, .int .i64 o.hd, .int .i64 o.to] 34) = wB at *
  have c6 := hB.at.c6
  have c7 := hB.at.c7
  have kB := k.grow ga
  obtain ⟨k0, k1, k2, k3, k4⟩ := kB.hw.at
  have hc1 := Calls.regrown_g (w := wB) fun W _ => has_at k hok o.file W
  have HFd := Lib.hid (fun W (g : wB.grownBy W none) => fl_find (kB.grow g).hw hok.hl hok.hz o.file o.off ho.file ho.off)
  have HAt := Lib.hid (fun W (g : wB.grownBy W none) => (kB.grow g).hw.at)
  have HOp := Lib.hid (fun W (g : wB.grownBy W none) => (hB.grow g).at)
  have HG := Lib.hid ga
  have r6 := cell_regrown c6
  have r1 := cell_regrown k1
  have r2 := cell_regrown k2
  have HU := Lib.hid (show ofU h S o.file o.off may = if hasF S.sz o.file = true then (if may = true then findV h S.sz S.F (o.file, o.off) else .pointer none) else .pointer none from rfl)
  have HS := Lib.hid (show (S.ofFile o.file o.off may).2 = if hasF S.sz o.file = true then (if may = true then (if (findF S.sz S.F (o.file, o.off)).isSome = true then 0 else 4) else 2) else 7 by
    unfold Fl.ofFile
    split
    · split
      · cases findF S.sz S.F (o.file, o.off) <;> rfl
      · rfl
    · rfl)
  have HNo := Lib.hid (show hasF S.sz o.file = true → (findF S.sz S.F (o.file, o.off)).isSome = false → findV h S.sz S.F (o.file, o.off) = .pointer none by
    intro _ h1
    unfold findV
    unfold findF at h1
    split at h1
    · next e => rw [if_pos e]
    · cases h1)
  rw [HU.out, HS.out]
  unfold flsV at HFd
  generalize hasF S.sz o.file = d at *
  generalize (findF S.sz S.F (o.file, o.off)).isSome = d2 at *
  generalize findV h S.sz S.F (o.file, o.off) = u at *
  clear k hok kB ga hB HU HS k0 k3 k4 c6 c7
  go_enter Tryz.func113, Tryz.ntmps113
  go_upto_region 1 with fail
  refine wp_region_quiet_below (by kernel_rfl) (by kernel_rfl) ?_
  repeat (go_big_quiet_step (first | exact hc1 _ _ | fail))
  refine wpQuiet_nil ?_
  intro _ hw'
  obtain ⟨⟨dq, osq⟩, hw''⟩ := hw'
  subst hw''
  have HQ := Lib.hid (regrown_grown wB dq osq)
  clear r1 r2 r6 hc1
  generalize grow (redrawn wB dq) osq = w3 at *
  cases d with
  | false =>
    go_wp2_with fail
    go_ret2
    exact ⟨rfl, grown_trans HG.out HQ.out⟩
  | true =>
    cases may with
    | false =>
      go_wp2_with fail
      go_ret2
      exact ⟨rfl, grown_trans HG.out HQ.out⟩
    | true =>
      obtain ⟨-, k1, k2, -, -⟩ := HAt.out w3 HQ.out
      have hop := HOp.out w3 HQ.out
      have q6 := hop.c6
      have q7 := hop.c7
      have hc2 := Calls.regrown_g (w := w3) fun W g => HFd.out W (grown_trans HQ.out g)
      have HG3 := Lib.hid (grown_trans HG.out HQ.out)
      have r1 := cell_regrown k1
      have r2 := cell_regrown k2
      have r6 := cell_regrown q6
      have r7 := cell_regrown q7
      clear hop k1 k2 q6 q7 HQ HFd HAt HOp HG
      go_upto_region 5 with fail
      refine wp_region_quiet_below (by kernel_rfl) (by kernel_rfl) ?_
      repeat (go_big_quiet_step (first | exact hc2 _ _ | fail))
      refine wpQuiet_nil ?_
      intro _ hw'
      obtain ⟨⟨dq, osq⟩, hw''⟩ := hw'
      subst hw''
      have HQ := Lib.hid (regrown_grown w3 dq osq)
      clear r1 r2 r6 r7 hc2
      generalize grow (redrawn w3 dq) osq = w4 at *
      cases d2 with
      | true =>
        go_wp2_with fail
        go_ret2
        exact ⟨rfl, grown_trans HG3.out HQ.out⟩
      | false =>
        have hu := HNo.out rfl rfl
        subst hu
        go_wp2_with fail
        go_ret2
        exact ⟨rfl, grown_trans HG3.out HQ.out⟩
set_option maxHeartbeats 2000000 in
theorem get_ok (k : FW w kd t r h S) (hok : SOk S) (o : FOp) (ho : OkO o) :
    Calls Tryz.prog 61 #[.pointer (some ⟨r, 0, none⟩), .agg #[.int .i64 o.k, .int .i64 o.proc, .int .i64 o.addr, .int .i64 o.n, .int .i64 o.prot, .bool o.sh, .int .i64 o.file, .int .i64 o.off, .bool o.fixed, .int .i64 o.how, .int .i64 o.ati, .int .i64 o.v, .int .i64 o.hd, .int .i64 o.to]] w fun e w' => e = .returned (.tuple #[.int .i64 (S.get o).n, .int .i64 (S.get o).e]) ∧ w.grownBy w' none := by
  have ga := World.grownBy_alloc w (.cells #[.int .i64 o.k, .int .i64 o.proc, .int .i64 o.addr, .int .i64 o.n, .int .i64 o.prot, .bool o.sh, .int .i64 o.file, .int .i64 o.off, .bool o.fixed, .int .i64 o.how, .int .i64 o.ati, .int .i64 o.v, .int .i64 o.hd, .int .i64 o.to] 34) none
  have hB := OpB.new w o
  generalize hwB : w.alloc (.cells #[.int .i64 o.k, .int .i64 o.proc, .int .i64 o.addr, .int .i64 o.n, .int .i64 o.prot, .bool o.sh, .int .i64 o.file, .int .i64 o.off, .bool o.fixed, .int .i64 o.how, .int .i64 o.ati, .int .i64 o.v, .int .i64 o.hd, .int .i64 o.to] 34) = wB at *
  have kB := k.grow ga
  obtain ⟨c0, c1, c2, c3, c4, c5, c6, c7, c8, c9, c10, c11, c12, c13⟩ := hB.at
  have hc1 := Calls.regrown_g (w := wB) fun W _ => (isAt_ok W o.ati).mono fun e w' ⟨he, hw⟩ => ⟨he, by rw [hw]; exact grown_refl _ _⟩
  have hc2 := Calls.regrown_g (w := wB) fun W g => ofFile_ok (kB.grow g) hok o ho (isAtB o.ati)
  have HSh := Lib.hid (fun W (g : wB.grownBy W none) => sheetAt_any (ofU_sh (kB.grow g) o.file o.off (isAtB o.ati)) o.ati fun hn => by
    cases e : isAtB o.ati with
    | true => rfl
    | false => rw [e] at hn; unfold Fl.ofFile at hn; split at hn <;> simp at hn)
  have HG := Lib.hid ga
  show Calls _ _ _ _ fun e w' => e = .returned (.tuple #[.int .i64 (atB (S.ofFile o.file o.off (isAtB o.ati)).1 o.ati), .int .i64 (S.ofFile o.file o.off (isAtB o.ati)).2]) ∧ w.grownBy w' none
  generalize atB (S.ofFile o.file o.off (isAtB o.ati)).1 o.ati = n at *
  generalize (S.ofFile o.file o.off (isAtB o.ati)).2 = er at *
  generalize ofU h S o.file o.off (isAtB o.ati) = u at *
  generalize isAtB o.ati = d at *
  have r0 := cell_regrown c0
  have r1 := cell_regrown c1
  have r2 := cell_regrown c2
  have r3 := cell_regrown c3
  have r4 := cell_regrown c4
  have r5 := cell_regrown c5
  have r6 := cell_regrown c6
  have r7 := cell_regrown c7
  have r8 := cell_regrown c8
  have r9 := cell_regrown c9
  have r10 := cell_regrown c10
  have r11 := cell_regrown c11
  have r12 := cell_regrown c12
  have r13 := cell_regrown c13
  have HC := Lib.hid c10
  clear k kB ga hB c0 c1 c2 c3 c4 c5 c6 c7 c8 c9 c10 c11 c12 c13 hok ho
  go_enter Tryz.func61, Tryz.ntmps61
  go_upto_region 1 with fail
  refine wp_region_quiet_below (by kernel_rfl) (by kernel_rfl) ?_
  repeat (go_big_quiet_step (first | exact hc1 _ _ | exact hc2 _ _ | fail))
  refine wpQuiet_nil ?_
  intro _ hw'
  obtain ⟨⟨dq, osq⟩, hw''⟩ := hw'
  subst hw''
  have HQ := Lib.hid (regrown_grown wB dq osq)
  clear r0 r1 r2 r3 r4 r5 r6 r7 r8 r9 r10 r11 r12 r13 hc1 hc2
  generalize grow (redrawn wB dq) osq = w3 at *
  have HS3 := Lib.hid (HSh.out w3 HQ.out)
  have q10 := HQ.out.cell HC.out (by simp)
  clear HSh HC
  go_wp2_with fail
  refine HS3.out.mono ?_
  rintro e w4 ⟨rfl, e4⟩
  subst e4
  go_wp2_with fail
  go_ret2
  exact ⟨rfl, grown_trans HG.out HQ.out⟩
def loU (h : Gh) (H : List (Int × Option (List UInt8))) (x : Int) : Value := ((geA H x).map fun _ => h.hv x).getD (.pointer none)
theorem HW.loan2 {sz : List Int} {F : List ((Int × Int) × List UInt8)} {H : List (Int × Option (List UInt8))} {reg : Int} (k : HW w kd t r h sz F H reg) {x : Int} (hx : okI x) : (Instr.lookup 56 (.map (some h.lm)) (.int .i64 x) true).run Tryz.prog w = .ok (.tuple #[loU h H x, .bool (geA H x).isSome]) w := by
  have h1 := k.lm.look2 lawsH (x := x) (okW_of hx)
  rw [lookV_map (fun q _ => h.hv q)] at h1
  have h4 : ((geA H x).map fun _ => h.hv x).isSome = (geA H x).isSome := by cases geA H x <;> rfl
  rw [h4] at h1
  exact h1
theorem HW.loan_sh {sz : List Int} {F : List ((Int × Int) × List UInt8)} {H : List (Int × Option (List UInt8))} {reg : Int} (k : HW w kd t r h sz F H reg) (x : Int) : Sh w kd (loU h H x) ((geA H x).getD none) := by
  unfold loU
  cases e : geA H x with
  | none => exact Sh.none_ _ _
  | some b => exact k.ls _ (geA_some e)
set_option maxHeartbeats 2000000 in
theorem peek_ok (k : FW w kd t r h S) (o : FOp) (ho : OkO o) :
    Calls Tryz.prog 77 #[.pointer (some ⟨r, 0, none⟩), .agg #[.int .i64 o.k, .int .i64 o.proc, .int .i64 o.addr, .int .i64 o.n, .int .i64 o.prot, .bool o.sh, .int .i64 o.file, .int .i64 o.off, .bool o.fixed, .int .i64 o.how, .int .i64 o.ati, .int .i64 o.v, .int .i64 o.hd, .int .i64 o.to]] w fun e w' => e = .returned (.tuple #[.int .i64 (S.peek o).n, .int .i64 (S.peek o).e]) ∧ w.grownBy w' none := by
  have ga := World.grownBy_alloc w (.cells #[.int .i64 o.k, .int .i64 o.proc, .int .i64 o.addr, .int .i64 o.n, .int .i64 o.prot, .bool o.sh, .int .i64 o.file, .int .i64 o.off, .bool o.fixed, .int .i64 o.how, .int .i64 o.ati, .int .i64 o.v, .int .i64 o.hd, .int .i64 o.to] 34) none
  have hB := OpB.new w o
  generalize hwB : w.alloc (.cells #[.int .i64 o.k, .int .i64 o.proc, .int .i64 o.addr, .int .i64 o.n, .int .i64 o.prot, .bool o.sh, .int .i64 o.file, .int .i64 o.off, .bool o.fixed, .int .i64 o.how, .int .i64 o.ati, .int .i64 o.v, .int .i64 o.hd, .int .i64 o.to] 34) = wB at *
  have kB := k.grow ga
  have kD := kB.grow (grown_drew1 wB)
  obtain ⟨-, -, -, k3, -⟩ := kB.hw.at
  have hlk := kD.hw.loan2 ho.hd
  have c12 := hB.at.c12
  have d10 := (hB.grow (grown_drew1 wB)).at.c10
  have HSh := Lib.hid (kD.hw.loan_sh o.hd)
  have HA := Lib.hid (isAt_ok wB.drew o.ati)
  have HG := Lib.hid (grown_trans ga (grown_drew1 wB))
  have HSe := Lib.hid (show (S.peek o).n = (if (geA S.H o.hd).isSome = true then (if isAtB o.ati = true then atB ((geA S.H o.hd).getD none) o.ati else 0) else 0) ∧ (S.peek o).e = (if (geA S.H o.hd).isSome = true then (if isAtB o.ati = true then 0 else 2) else 7) by
    unfold Fl.peek
    cases geA S.H o.hd with
    | none => exact ⟨rfl, rfl⟩
    | some b => by_cases e : isAtB o.ati = true <;> simp only [e, Option.isSome_some, if_true, Option.getD_some] <;> exact ⟨rfl, rfl⟩)
  have HAny := Lib.hid (fun hi => sheetAt_any (kD.hw.loan_sh o.hd) o.ati fun _ => hi)
  rw [HSe.out.1, HSe.out.2]
  generalize atB ((geA S.H o.hd).getD none) o.ati = n at *
  generalize (geA S.H o.hd).isSome = d at *
  generalize loU h S.H o.hd = u at *
  generalize isAtB o.ati = d2 at *
  clear k kB kD ga hB HSe HSh
  go_enter Tryz.func77, Tryz.ntmps77
  go_upto_region 1 with fail
  try simp only [hwB]
  clear hwB
  go_region
  clear hlk k3 c12
  cases d with
  | false =>
    go_wp2_with fail
    go_ret2
    exact ⟨rfl, HG.out⟩
  | true =>
    go_wp2_with fail
    refine HA.out.mono ?_
    rintro e w4 ⟨rfl, e4⟩
    subst e4
    cases d2 with
    | false =>
      go_wp2_with fail
      go_ret2
      exact ⟨rfl, HG.out⟩
    | true =>
      go_wp2_with fail
      refine (HAny.out (by first | trivial | rfl)).mono ?_
      rintro e w5 ⟨rfl, e5⟩
      subst e5
      go_wp2_with fail
      go_ret2
      exact ⟨rfl, HG.out⟩
end
end Go.Proofs.YtefiiooibbkffaaGreat

namespace Go.Proofs.YtefiiooibbkffaaGreat
open Go.ChangeShapes Go.WideShapes Go.ChangeAt Go.RowKit Go.Deep Go.Sort
set_option linter.unusedVariables false
set_option linter.unusedSimpArgs false

section
variable {w w' : World} {kd kd' : Nat → Ro} {t r : Nat} {h : Gh} {S : Fl} {id : Int} {p : Pr}
theorem FW.hless (k : FW w kd t r h S) {H' : List (Int × Option (List UInt8))} (hs : ∀ n, n ∈ H' → n ∈ S.H) (hg : w.grownBy w' (some h.lm))
    (hm : MapV Tryz.prog 3 klI okW w' h.lm (H'.map fun n => (n.1, h.hv n.1))) : FW w' kd t r h { S with H := H' } ∧ Ch (own t) kd kd w w' := by
  obtain ⟨h1, h2⟩ := k.hw.loans_less hs hg hm
  exact ⟨⟨h1, k.pm.ch h2 (by simp), k.bw.ch h2 (by simp) (by simp) (by simp) (by simp) (by simp) (by simp)⟩, h2.mono own_mono⟩
theorem FW.hput (k : FW w kd t r h S) {q : Int} {u : Value} {b : Option (List UInt8)} (hS : Sh w kd u b) (hg : w.grownBy w' (some h.lm))
    (hm : MapV Tryz.prog 3 klI okW w' h.lm ((q, u) :: dropV (S.H.map fun n => (n.1, h.hv n.1)) q)) : FW w' kd t r { h with hv := fun x => if x = q then u else h.hv x } { S with H := puA S.H q b } ∧ Ch (own t) kd kd w w' := by
  have hch : Ch (fun ρ => ρ = .w t .lm) kd kd w w' := Ch.one hg k.hw.kl
  obtain ⟨h1, h2⟩ := k.hw.loan_put (hS.ch hch (by simp)) hg hm
  exact ⟨⟨h1, ⟨(k.pm.ch h2 (by simp)).pm, (k.pm.ch h2 (by simp)).kp⟩, k.bw.ch h2 (by simp) (by simp) (by simp) (by simp) (by simp) (by simp)⟩, h2.mono own_mono⟩
set_option maxHeartbeats 2000000 in
theorem back_ok (k : FW w kd t r h S) (o : FOp) (ho : OkO o) :
    Calls Tryz.prog 78 #[.pointer (some ⟨r, 0, none⟩), .agg #[.int .i64 o.k, .int .i64 o.proc, .int .i64 o.addr, .int .i64 o.n, .int .i64 o.prot, .bool o.sh, .int .i64 o.file, .int .i64 o.off, .bool o.fixed, .int .i64 o.how, .int .i64 o.ati, .int .i64 o.v, .int .i64 o.hd, .int .i64 o.to]] w fun e w' => e = .returned (.int .i64 (S.back o).e) ∧ Dn t r kd w w' (S.back o).S := by
  have ga := World.grownBy_alloc w (.cells #[.int .i64 o.k, .int .i64 o.proc, .int .i64 o.addr, .int .i64 o.n, .int .i64 o.prot, .bool o.sh, .int .i64 o.file, .int .i64 o.off, .bool o.fixed, .int .i64 o.how, .int .i64 o.ati, .int .i64 o.v, .int .i64 o.hd, .int .i64 o.to] 34) none
  have hB := OpB.new w o
  generalize hwB : w.alloc (.cells #[.int .i64 o.k, .int .i64 o.proc, .int .i64 o.addr, .int .i64 o.n, .int .i64 o.prot, .bool o.sh, .int .i64 o.file, .int .i64 o.off, .bool o.fixed, .int .i64 o.how, .int .i64 o.ati, .int .i64 o.v, .int .i64 o.hd, .int .i64 o.to] 34) = wB at *
  have kB := k.grow ga
  have kD := kB.grow (grown_drew1 wB)
  obtain ⟨-, -, -, k3, -⟩ := kB.hw.at
  have hlk := kD.hw.loan2 ho.hd
  have c12 := hB.at.c12
  have HK := Lib.hid kD
  have HO := Lib.hid (hB.grow (grown_drew1 wB))
  have HG := Lib.hid (grown_trans ga (grown_drew1 wB))
  have HHd := Lib.hid ho.hd
  generalize loU h S.H o.hd = u at *
  cases hd : geA S.H o.hd with
  | none =>
    have HSe := Lib.hid (show S.back o = S.no 7 by unfold Fl.back; rw [hd])
    rw [HSe.out]
    rw [hd] at hlk
    simp only [Option.isSome_none] at hlk
    clear k kB kD ga hB hd
    go_enter Tryz.func78, Tryz.ntmps78
    go_upto_region 1 with fail
    try simp only [hwB]
    clear hwB
    go_region
    clear hlk k3 c12
    go_wp2_with fail
    go_ret
    exact ⟨rfl, kd, h, HK.out, Ch.grown HG.out⟩
  | some b =>
    have HSe := Lib.hid (show S.back o = ({ S with H := drA S.H o.hd } : Fl).ok 0 by unfold Fl.back; rw [hd])
    rw [HSe.out]
    rw [hd] at hlk
    simp only [Option.isSome_some] at hlk
    obtain ⟨-, -, -, d3, -⟩ := kD.hw.at
    have d12 := (hB.grow (grown_drew1 wB)).at.c12
    have kE := kD.grow (grown_drew1 wB.drew)
    have hOE := (hB.grow (grown_drew1 wB)).grow (grown_drew1 wB.drew)
    obtain ⟨w9, hdel, h9, t9⟩ := kE.hw.lm.del lawsH (x := o.hd) (okW_of ho.hd) 0
    rw [show kvI o.hd = Value.int .i64 o.hd from rfl] at hdel
    rw [drop_map (fun k _ => h.hv k)] at h9
    obtain ⟨k9, c9⟩ := kE.hless (H' := drA S.H o.hd) (fun m hm => (List.mem_filter.1 hm).1) t9.grown h9
    have hne : some w.heap.size ≠ some h.lm := fun e => by have := k.hw.lm.lt; have := Option.some.inj e; omega
    have hO9 : OpB w9 w.heap.size o := (t9.grown.block _ hOE.lt hne).trans hOE
    have hk0 : wB.drew.drew.cell? ⟨r, 3, none⟩ = some (.map (some h.lm)) ∧ wB.drew.drew.cell? ⟨w.heap.size, 12, none⟩ = some (.int .i64 o.hd) := ⟨kE.hw.at.2.2.2.1, hOE.at.c12⟩
    have hk9 : w9.cell? ⟨r, 3, none⟩ = some (.map (some h.lm)) ∧ w9.cell? ⟨w.heap.size, 12, none⟩ = some (.int .i64 o.hd) := ⟨k9.hw.at.2.2.2.1, hO9.at.c12⟩
    have HD := Lib.hid (show Dn t r kd w w9 { S with H := drA S.H o.hd } from ⟨kd, h, k9, (Ch.grown (grown_trans HG.out (grown_drew1 wB.drew))).trans c9⟩)
    clear k kB kD kE ga hB hd hOE hO9 h9 t9 k9 c9 hne
    go_enter Tryz.func78, Tryz.ntmps78
    go_upto_region 1 with fail
    try simp only [hwB]
    clear hwB
    go_region
    clear hlk k3 c12
    go_upto_region 4 with fail
    go_region_held3 (fun w7 => w7.cell? ⟨r, 3, none⟩ = some (.map (some h.lm)) ∧ w7.cell? ⟨w.heap.size, 12, none⟩ = some (.int .i64 o.hd)) (first | with_reducible exact hk0 | with_reducible exact hk9 | fail) (fail)
    go_wp2_with fail
    go_ret
    exact ⟨rfl, HD.out⟩
theorem FW.hlen (k : FW w kd t r h S) (ty : TypeId) : (Builtin.len_ #[56] ty #[.map (some h.lm)]).run Tryz.prog w = .ok (.int .i64 (S.H.length : Int)) w := by
  have h1 := k.hw.lm.len lawsH ty
  simp only [List.length_map] at h1
  exact h1
set_option maxHeartbeats 4000000 in
theorem lend_ok (k : FW w kd t r h S) (hok : SOk S) (o : FOp) (ho : OkO o) (hp : geA S.ps id = some p) :
    Calls Tryz.prog 76 #[.pointer (some ⟨r, 0, none⟩), .pointer (some ⟨(h.g id).b, 0, none⟩), .agg #[.int .i64 o.k, .int .i64 o.proc, .int .i64 o.addr, .int .i64 o.n, .int .i64 o.prot, .bool o.sh, .int .i64 o.file, .int .i64 o.off, .bool o.fixed, .int .i64 o.how, .int .i64 o.ati, .int .i64 o.v, .int .i64 o.hd, .int .i64 o.to]] w fun e w' => e = .returned (.tuple #[.int .i64 (S.lend p o).n, .int .i64 (S.lend p o).e]) ∧ Dn t r kd w w' (S.lend p o).S := by
  have ga := World.grownBy_alloc w (.cells #[.int .i64 o.k, .int .i64 o.proc, .int .i64 o.addr, .int .i64 o.n, .int .i64 o.prot, .bool o.sh, .int .i64 o.file, .int .i64 o.off, .bool o.fixed, .int .i64 o.how, .int .i64 o.ati, .int .i64 o.v, .int .i64 o.hd, .int .i64 o.to] 34) none
  have hB := OpB.new w o
  generalize hwB : w.alloc (.cells #[.int .i64 o.k, .int .i64 o.proc, .int .i64 o.addr, .int .i64 o.n, .int .i64 o.prot, .bool o.sh, .int .i64 o.file, .int .i64 o.off, .bool o.fixed, .int .i64 o.how, .int .i64 o.ati, .int .i64 o.v, .int .i64 o.hd, .int .i64 o.to] 34) = wB at *
  have kB := k.grow ga
  obtain ⟨c0, c1, c2, c3, c4, c5, c6, c7, c8, c9, c10, c11, c12, c13⟩ := hB.at
  have HR := Lib.hid (reach_ok (kB.vw hok hp) o 1 (.inl rfl) true)
  have HSh := Lib.hid (fun W (g : wB.grownBy W none) => ((kB.grow g).vw hok hp).reachU o.addr 1 true)
  have HK := Lib.hid kB
  have HOk := Lib.hid hok
  have HG := Lib.hid ga
  have HSe := Lib.hid (show S.lend p o = (if (S.reach p o.addr 1 true).2 = 0 then (if S.H.length < 64 then ⟨{ S with H := puA S.H (lowA S.H) (S.reach p o.addr 1 true).1 }, lowA S.H, 0⟩ else S.no 5) else S.no (S.reach p o.addr 1 true).2) from rfl)
  obtain ⟨R, hR⟩ : ∃ R, S.lend p o = R := ⟨_, rfl⟩
  rw [hR] at HSe ⊢
  clear hR
  generalize (S.reach p o.addr 1 true).1 = b at *
  generalize (S.reach p o.addr 1 true).2 = er at *
  generalize reachU h S p o.addr 1 true = u at *
  clear k kB ga hB hok ho hp
  go_enter Tryz.func76, Tryz.ntmps76
  go_upto_region 1 with fail
  try simp only [hwB]
  clear hwB
  go_wp2_with fail
  refine HR.out.mono ?_
  rintro e w3 ⟨rfl, g3⟩
  have HK3 := Lib.hid (HK.out.grow g3)
  have HG3 := Lib.hid (grown_trans HG.out g3)
  have HS3 := Lib.hid (HSh.out w3 g3)
  clear g3 HR HSh HK HG c0 c1 c2 c3 c4 c5 c6 c7 c8 c9 c10 c11 c12 c13
  by_cases he : er = 0
  · have hR := HSe.out
    rw [if_pos he] at hR
    subst he
    obtain ⟨-, -, -, k3, -⟩ := HK3.out.hw.at
    have hlen := fun ty => HK3.out.hlen ty
    by_cases hl : S.H.length < 64
    · rw [if_pos hl] at hR
      have HR2 := Lib.hid hR
      clear hR
      have bl : decide ((S.H.length : Int) ≥ 64) = false := decide_eq_false (by omega)
      have HLw := Lib.hid (lowH_ok S.H (fun x _ => h.hv x) HK3.out.hw.lm (by omega))
      obtain ⟨i0, e0, e1, e2, -⟩ := lowA_spec S.H
      have hni : okI (lowA S.H) := by rw [e0]; exact ⟨by omega, by omega⟩
      obtain ⟨w9, hup, h9, t9⟩ := HK3.out.hw.lm.put lawsH (x := lowA S.H) (by rw [List.length_map]; unfold maxLen; omega) u (okW_of hni)
      rw [show kvI (lowA S.H) = Value.int .i64 (lowA S.H) from rfl] at hup
      obtain ⟨k9, c9⟩ := HK3.out.hput HS3.out t9.grown h9
      have HD := Lib.hid (show Dn t r kd w w9 { S with H := puA S.H (lowA S.H) b } from ⟨kd, _, k9, (Ch.grown HG3.out).trans c9⟩)
      clear e0 e1 e2 hl h9 t9 k9 c9 hni
      generalize S.H.length = m at *
      generalize lowA S.H = q at *
      go_wp2_with fail
      refine HLw.out.mono ?_
      rintro e w5 ⟨rfl, rfl⟩
      go_wp2_with fail
      go_ret2
      exact ⟨by rw [HR2.out]; rfl, by rw [HR2.out]; exact HD.out⟩
    · rw [if_neg hl] at hR
      have HR2 := Lib.hid hR
      clear hR
      have bl : decide ((S.H.length : Int) ≥ 64) = true := decide_eq_true (by omega)
      have HD := Lib.hid (show Dn t r kd w w3 S from ⟨kd, h, HK3.out, Ch.grown HG3.out⟩)
      clear hl
      generalize S.H.length = m at *
      go_wp2_with fail
      go_ret2
      exact ⟨by rw [HR2.out]; rfl, by rw [HR2.out]; exact HD.out⟩
  · have hR := HSe.out
    rw [if_neg he] at hR
    have HR2 := Lib.hid hR
    clear hR
    have b9 : (er != 0) = true := by simpa using he
    have HD := Lib.hid (show Dn t r kd w w3 S from ⟨kd, h, HK3.out, Ch.grown HG3.out⟩)
    clear he
    go_wp2_with fail
    go_ret2
    exact ⟨by rw [HR2.out]; rfl, by rw [HR2.out]; exact HD.out⟩
end
end Go.Proofs.YtefiiooibbkffaaGreat

namespace Go.Proofs.YtefiiooibbkffaaGreat
open Go.ChangeShapes Go.WideShapes Go.ChangeAt Go.RowKit Go.Deep Go.Sort
set_option linter.unusedVariables false
set_option linter.unusedSimpArgs false

section
variable {w w' : World} {kd kd' : Nat → Ro} {t r : Nat} {h : Gh} {S S' : Fl} {id : Int} {p : Pr}
set_option maxRecDepth 100000 in
set_option maxHeartbeats 8000000 in
theorem act_prot (k : FW w kd t r h S) (hok : SOk S) (o : FOp) (ho : OkO o) (hk : o.k = 3) (hp : geA S.ps o.proc = some p) :
    Calls Tryz.prog 32 #[.pointer (some ⟨r, 0, none⟩), .agg #[.int .i64 o.k, .int .i64 o.proc, .int .i64 o.addr, .int .i64 o.n, .int .i64 o.prot, .bool o.sh, .int .i64 o.file, .int .i64 o.off, .bool o.fixed, .int .i64 o.how, .int .i64 o.ati, .int .i64 o.v, .int .i64 o.hd, .int .i64 o.to]] w fun e w' => e = .returned (.tuple #[.int .i64 0, .int .i64 (protV p.L o.addr o.n o.prot).err]) ∧ Dn t r kd w w' (S.turned o.proc p (protV p.L o.addr o.n o.prot)).S := by
  have ga := World.grownBy_alloc w (.cells #[.int .i64 o.k, .int .i64 o.proc, .int .i64 o.addr, .int .i64 o.n, .int .i64 o.prot, .bool o.sh, .int .i64 o.file, .int .i64 o.off, .bool o.fixed, .int .i64 o.how, .int .i64 o.ati, .int .i64 o.v, .int .i64 o.hd, .int .i64 o.to] 34) none
  have hB := OpB.new w o
  generalize hwB : w.alloc (.cells #[.int .i64 o.k, .int .i64 o.proc, .int .i64 o.addr, .int .i64 o.n, .int .i64 o.prot, .bool o.sh, .int .i64 o.file, .int .i64 o.off, .bool o.fixed, .int .i64 o.how, .int .i64 o.ati, .int .i64 o.v, .int .i64 o.hd, .int .i64 o.to] 34) = wB at *
  have kB := k.grow ga
  have kD := kB.grow (grown_drew1 wB)
  have hBD := hB.grow (grown_drew1 wB)
  have kE := kD.grow (grown_drew1 wB.drew)
  have hBE := hBD.grow (grown_drew1 wB.drew)
  have hPI := hok.pi _ (geA_some hp)
  have k0 := kB.hw.at.1
  have hlk := kD.pm.look (geA_ids hp) ho.proc
  have HM := Lib.hid (isMade_ok k0)
  have HC := Lib.hid (protect_ok (kE.bw.get hp).vm hPI.mp (Nat.le_trans hPI.ln (by decide)) o.addr o.n o.prot ho.addr ho.n ho.prot)
  have HFin := Lib.hid (show ∀ w5 v', VM w5 (h.g o.proc).m v' (protV p.L o.addr o.n o.prot).l → New wB.drew.drew (h.g o.proc).v v' → Turn ((h.g o.proc).m :: blkL (h.g o.proc).v) wB.drew.drew w5 → Dn t r kd w w5 (S.turned o.proc p (protV p.L o.addr o.n o.prot)).S from fun w5 v' hV hN hT => by
    obtain ⟨k5, c5⟩ := kE.mapped hp hV hN hT
    exact ⟨_, _, k5, (Ch.grown (grown_trans ga (grown_trans (grown_drew1 wB) (grown_drew1 wB.drew)))).trans c5⟩)
  generalize (protV p.L o.addr o.n o.prot) = d at *
  have HS := Lib.hid (show ∀ W', Turn ((h.g o.proc).m :: blkL (h.g o.proc).v) wB.drew.drew W' → W'.cell? ⟨(h.g o.proc).b, 0, none⟩ = some (.pointer (some ⟨(h.g o.proc).m, 0, none⟩)) ∧ W'.cell? ⟨w.heap.size, 2, none⟩ = some (.int .i64 o.addr) ∧ W'.cell? ⟨w.heap.size, 3, none⟩ = some (.int .i64 o.n) ∧ W'.cell? ⟨w.heap.size, 4, none⟩ = some (.int .i64 o.prot) from fun W' hT => by
    have hO' := hBE.turn hT (k.apart hp (Nat.le_refl _))
    have c := hO'.at
    exact ⟨turn_cell hT (kE.bw.get hp).at0 (heap_lt (kE.bw.get hp).hb) (kE.apartR hp (kE.bw.get hp).kb (by simp) (by simp)), c.c2, c.c3, c.c4⟩)
  have hk0 : wB.drew.cell? ⟨(h.g o.proc).b, 0, none⟩ = some (.pointer (some ⟨(h.g o.proc).m, 0, none⟩)) ∧ wB.drew.cell? ⟨w.heap.size, 2, none⟩ = some (.int .i64 o.addr) ∧ wB.drew.cell? ⟨w.heap.size, 3, none⟩ = some (.int .i64 o.n) ∧ wB.drew.cell? ⟨w.heap.size, 4, none⟩ = some (.int .i64 o.prot) := by have c := hBD.at; exact ⟨(kD.bw.get hp).at0, c.c2, c.c3, c.c4⟩
  have hkd : wB.drew.drew.cell? ⟨(h.g o.proc).b, 0, none⟩ = some (.pointer (some ⟨(h.g o.proc).m, 0, none⟩)) ∧ wB.drew.drew.cell? ⟨w.heap.size, 2, none⟩ = some (.int .i64 o.addr) ∧ wB.drew.drew.cell? ⟨w.heap.size, 3, none⟩ = some (.int .i64 o.n) ∧ wB.drew.drew.cell? ⟨w.heap.size, 4, none⟩ = some (.int .i64 o.prot) := by have c := hBE.at; exact ⟨(kE.bw.get hp).at0, c.c2, c.c3, c.c4⟩
  obtain ⟨c0, c1, c2, c3, c4, c5, c6, c7, c8, c9, c10, c11, c12, c13⟩ := hB.at
  have d0 := hBD.at.c0
  rw [hk] at c0 d0
  clear k kB kD kE ga hB hBD hBE hp ho hok hPI hk
  go_enter Tryz.func32, Tryz.ntmps32
  go_upto_region 1 with fail
  try simp only [hwB]
  clear hwB
  go_wp2_with fail
  refine HM.out.mono ?_
  rintro e wX ⟨rfl, eX⟩
  subst eX
  go_upto_region 3 with fail
  go_region
  clear k0 hlk c0 c1 c2 c3 c4 c5 c6 c7 c8 c9 c10 c11 c12 c13 HM
  go_upto_region 12 with fail
  clear d0
  go_region_held3 (fun w7 => w7.cell? ⟨(h.g o.proc).b, 0, none⟩ = some (.pointer (some ⟨(h.g o.proc).m, 0, none⟩)) ∧ w7.cell? ⟨w.heap.size, 2, none⟩ = some (.int .i64 o.addr) ∧ w7.cell? ⟨w.heap.size, 3, none⟩ = some (.int .i64 o.n) ∧ w7.cell? ⟨w.heap.size, 4, none⟩ = some (.int .i64 o.prot)) (first | with_reducible exact hk0 | with_reducible exact hkd | with_reducible exact hk1 | fail)
    (first
      | (go_at_call 68; (first | with_reducible refine HC.out.mono ?_ | refine HC.out.mono ?_); rintro e w5 ⟨rfl, v', hV, hN, hT⟩; have hk1 := HS.out _ hT; have HD := Lib.hid (HFin.out _ _ hV hN hT); clear hV hN hT)
      | fail)
  go_wp2_with fail
  go_ret2
  exact ⟨rfl, HD.out⟩
set_option maxRecDepth 100000 in
set_option maxHeartbeats 8000000 in
theorem act_inherit (k : FW w kd t r h S) (hok : SOk S) (o : FOp) (ho : OkO o) (hk : o.k = 4) (hp : geA S.ps o.proc = some p) :
    Calls Tryz.prog 32 #[.pointer (some ⟨r, 0, none⟩), .agg #[.int .i64 o.k, .int .i64 o.proc, .int .i64 o.addr, .int .i64 o.n, .int .i64 o.prot, .bool o.sh, .int .i64 o.file, .int .i64 o.off, .bool o.fixed, .int .i64 o.how, .int .i64 o.ati, .int .i64 o.v, .int .i64 o.hd, .int .i64 o.to]] w fun e w' => e = .returned (.tuple #[.int .i64 0, .int .i64 (otherV p.L o.addr o.n 3 o.how 2 false).err]) ∧ Dn t r kd w w' (S.turned o.proc p (otherV p.L o.addr o.n 3 o.how 2 false)).S := by
  have ga := World.grownBy_alloc w (.cells #[.int .i64 o.k, .int .i64 o.proc, .int .i64 o.addr, .int .i64 o.n, .int .i64 o.prot, .bool o.sh, .int .i64 o.file, .int .i64 o.off, .bool o.fixed, .int .i64 o.how, .int .i64 o.ati, .int .i64 o.v, .int .i64 o.hd, .int .i64 o.to] 34) none
  have hB := OpB.new w o
  generalize hwB : w.alloc (.cells #[.int .i64 o.k, .int .i64 o.proc, .int .i64 o.addr, .int .i64 o.n, .int .i64 o.prot, .bool o.sh, .int .i64 o.file, .int .i64 o.off, .bool o.fixed, .int .i64 o.how, .int .i64 o.ati, .int .i64 o.v, .int .i64 o.hd, .int .i64 o.to] 34) = wB at *
  have kB := k.grow ga
  have kD := kB.grow (grown_drew1 wB)
  have hBD := hB.grow (grown_drew1 wB)
  have kE := kD.grow (grown_drew1 wB.drew)
  have hBE := hBD.grow (grown_drew1 wB.drew)
  have hPI := hok.pi _ (geA_some hp)
  have k0 := kB.hw.at.1
  have hlk := kD.pm.look (geA_ids hp) ho.proc
  have HM := Lib.hid (isMade_ok k0)
  have HC := Lib.hid (inherit_ok (kE.bw.get hp).vm hPI.mp (Nat.le_trans hPI.ln (by decide)) o.addr o.n o.how ho.addr ho.n)
  have HFin := Lib.hid (show ∀ w5 v', VM w5 (h.g o.proc).m v' (otherV p.L o.addr o.n 3 o.how 2 false).l → New wB.drew.drew (h.g o.proc).v v' → Turn ((h.g o.proc).m :: blkL (h.g o.proc).v) wB.drew.drew w5 → Dn t r kd w w5 (S.turned o.proc p (otherV p.L o.addr o.n 3 o.how 2 false)).S from fun w5 v' hV hN hT => by
    obtain ⟨k5, c5⟩ := kE.mapped hp hV hN hT
    exact ⟨_, _, k5, (Ch.grown (grown_trans ga (grown_trans (grown_drew1 wB) (grown_drew1 wB.drew)))).trans c5⟩)
  generalize (otherV p.L o.addr o.n 3 o.how 2 false) = d at *
  have HS := Lib.hid (show ∀ W', Turn ((h.g o.proc).m :: blkL (h.g o.proc).v) wB.drew.drew W' → W'.cell? ⟨(h.g o.proc).b, 0, none⟩ = some (.pointer (some ⟨(h.g o.proc).m, 0, none⟩)) ∧ W'.cell? ⟨w.heap.size, 2, none⟩ = some (.int .i64 o.addr) ∧ W'.cell? ⟨w.heap.size, 3, none⟩ = some (.int .i64 o.n) ∧ W'.cell? ⟨w.heap.size, 9, none⟩ = some (.int .i64 o.how) from fun W' hT => by
    have hO' := hBE.turn hT (k.apart hp (Nat.le_refl _))
    have c := hO'.at
    exact ⟨turn_cell hT (kE.bw.get hp).at0 (heap_lt (kE.bw.get hp).hb) (kE.apartR hp (kE.bw.get hp).kb (by simp) (by simp)), c.c2, c.c3, c.c9⟩)
  have hk0 : wB.drew.cell? ⟨(h.g o.proc).b, 0, none⟩ = some (.pointer (some ⟨(h.g o.proc).m, 0, none⟩)) ∧ wB.drew.cell? ⟨w.heap.size, 2, none⟩ = some (.int .i64 o.addr) ∧ wB.drew.cell? ⟨w.heap.size, 3, none⟩ = some (.int .i64 o.n) ∧ wB.drew.cell? ⟨w.heap.size, 9, none⟩ = some (.int .i64 o.how) := by have c := hBD.at; exact ⟨(kD.bw.get hp).at0, c.c2, c.c3, c.c9⟩
  have hkd : wB.drew.drew.cell? ⟨(h.g o.proc).b, 0, none⟩ = some (.pointer (some ⟨(h.g o.proc).m, 0, none⟩)) ∧ wB.drew.drew.cell? ⟨w.heap.size, 2, none⟩ = some (.int .i64 o.addr) ∧ wB.drew.drew.cell? ⟨w.heap.size, 3, none⟩ = some (.int .i64 o.n) ∧ wB.drew.drew.cell? ⟨w.heap.size, 9, none⟩ = some (.int .i64 o.how) := by have c := hBE.at; exact ⟨(kE.bw.get hp).at0, c.c2, c.c3, c.c9⟩
  obtain ⟨c0, c1, c2, c3, c4, c5, c6, c7, c8, c9, c10, c11, c12, c13⟩ := hB.at
  have d0 := hBD.at.c0
  rw [hk] at c0 d0
  clear k kB kD kE ga hB hBD hBE hp ho hok hPI hk
  go_enter Tryz.func32, Tryz.ntmps32
  go_upto_region 1 with fail
  try simp only [hwB]
  clear hwB
  go_wp2_with fail
  refine HM.out.mono ?_
  rintro e wX ⟨rfl, eX⟩
  subst eX
  go_upto_region 3 with fail
  go_region
  clear k0 hlk c0 c1 c2 c3 c4 c5 c6 c7 c8 c9 c10 c11 c12 c13 HM
  go_upto_region 14 with fail
  clear d0
  go_region_held3 (fun w7 => w7.cell? ⟨(h.g o.proc).b, 0, none⟩ = some (.pointer (some ⟨(h.g o.proc).m, 0, none⟩)) ∧ w7.cell? ⟨w.heap.size, 2, none⟩ = some (.int .i64 o.addr) ∧ w7.cell? ⟨w.heap.size, 3, none⟩ = some (.int .i64 o.n) ∧ w7.cell? ⟨w.heap.size, 9, none⟩ = some (.int .i64 o.how)) (first | with_reducible exact hk0 | with_reducible exact hkd | with_reducible exact hk1 | fail)
    (first
      | (go_at_call 69; (first | with_reducible refine HC.out.mono ?_ | refine HC.out.mono ?_); rintro e w5 ⟨rfl, v', hV, hN, hT⟩; have hk1 := HS.out _ hT; have HD := Lib.hid (HFin.out _ _ hV hN hT); clear hV hN hT)
      | fail)
  go_wp2_with fail
  go_ret2
  exact ⟨rfl, HD.out⟩
set_option maxRecDepth 100000 in
set_option maxHeartbeats 8000000 in
theorem act_lock (k : FW w kd t r h S) (hok : SOk S) (o : FOp) (ho : OkO o) (hk : o.k = 6) (hp : geA S.ps o.proc = some p) :
    Calls Tryz.prog 32 #[.pointer (some ⟨r, 0, none⟩), .agg #[.int .i64 o.k, .int .i64 o.proc, .int .i64 o.addr, .int .i64 o.n, .int .i64 o.prot, .bool o.sh, .int .i64 o.file, .int .i64 o.off, .bool o.fixed, .int .i64 o.how, .int .i64 o.ati, .int .i64 o.v, .int .i64 o.hd, .int .i64 o.to]] w fun e w' => e = .returned (.tuple #[.int .i64 0, .int .i64 (otherV p.L o.addr o.n 5 0 1 true).err]) ∧ Dn t r kd w w' (S.turned o.proc p (otherV p.L o.addr o.n 5 0 1 true)).S := by
  have ga := World.grownBy_alloc w (.cells #[.int .i64 o.k, .int .i64 o.proc, .int .i64 o.addr, .int .i64 o.n, .int .i64 o.prot, .bool o.sh, .int .i64 o.file, .int .i64 o.off, .bool o.fixed, .int .i64 o.how, .int .i64 o.ati, .int .i64 o.v, .int .i64 o.hd, .int .i64 o.to] 34) none
  have hB := OpB.new w o
  generalize hwB : w.alloc (.cells #[.int .i64 o.k, .int .i64 o.proc, .int .i64 o.addr, .int .i64 o.n, .int .i64 o.prot, .bool o.sh, .int .i64 o.file, .int .i64 o.off, .bool o.fixed, .int .i64 o.how, .int .i64 o.ati, .int .i64 o.v, .int .i64 o.hd, .int .i64 o.to] 34) = wB at *
  have kB := k.grow ga
  have kD := kB.grow (grown_drew1 wB)
  have hBD := hB.grow (grown_drew1 wB)
  have kE := kD.grow (grown_drew1 wB.drew)
  have hBE := hBD.grow (grown_drew1 wB.drew)
  have hPI := hok.pi _ (geA_some hp)
  have k0 := kB.hw.at.1
  have hlk := kD.pm.look (geA_ids hp) ho.proc
  have HM := Lib.hid (isMade_ok k0)
  have HC := Lib.hid (wire_ok (kE.bw.get hp).vm hPI.mp (Nat.le_trans hPI.ln (by decide)) o.addr o.n true ho.addr ho.n)
  have HFin := Lib.hid (show ∀ w5 v', VM w5 (h.g o.proc).m v' (otherV p.L o.addr o.n 5 0 1 true).l → New wB.drew.drew (h.g o.proc).v v' → Turn ((h.g o.proc).m :: blkL (h.g o.proc).v) wB.drew.drew w5 → Dn t r kd w w5 (S.turned o.proc p (otherV p.L o.addr o.n 5 0 1 true)).S from fun w5 v' hV hN hT => by
    obtain ⟨k5, c5⟩ := kE.mapped hp hV hN hT
    exact ⟨_, _, k5, (Ch.grown (grown_trans ga (grown_trans (grown_drew1 wB) (grown_drew1 wB.drew)))).trans c5⟩)
  generalize (otherV p.L o.addr o.n 5 0 1 true) = d at *
  have HS := Lib.hid (show ∀ W', Turn ((h.g o.proc).m :: blkL (h.g o.proc).v) wB.drew.drew W' → W'.cell? ⟨(h.g o.proc).b, 0, none⟩ = some (.pointer (some ⟨(h.g o.proc).m, 0, none⟩)) ∧ W'.cell? ⟨w.heap.size, 2, none⟩ = some (.int .i64 o.addr) ∧ W'.cell? ⟨w.heap.size, 3, none⟩ = some (.int .i64 o.n) from fun W' hT => by
    have hO' := hBE.turn hT (k.apart hp (Nat.le_refl _))
    have c := hO'.at
    exact ⟨turn_cell hT (kE.bw.get hp).at0 (heap_lt (kE.bw.get hp).hb) (kE.apartR hp (kE.bw.get hp).kb (by simp) (by simp)), c.c2, c.c3⟩)
  have hk0 : wB.drew.cell? ⟨(h.g o.proc).b, 0, none⟩ = some (.pointer (some ⟨(h.g o.proc).m, 0, none⟩)) ∧ wB.drew.cell? ⟨w.heap.size, 2, none⟩ = some (.int .i64 o.addr) ∧ wB.drew.cell? ⟨w.heap.size, 3, none⟩ = some (.int .i64 o.n) := by have c := hBD.at; exact ⟨(kD.bw.get hp).at0, c.c2, c.c3⟩
  have hkd : wB.drew.drew.cell? ⟨(h.g o.proc).b, 0, none⟩ = some (.pointer (some ⟨(h.g o.proc).m, 0, none⟩)) ∧ wB.drew.drew.cell? ⟨w.heap.size, 2, none⟩ = some (.int .i64 o.addr) ∧ wB.drew.drew.cell? ⟨w.heap.size, 3, none⟩ = some (.int .i64 o.n) := by have c := hBE.at; exact ⟨(kE.bw.get hp).at0, c.c2, c.c3⟩
  obtain ⟨c0, c1, c2, c3, c4, c5, c6, c7, c8, c9, c10, c11, c12, c13⟩ := hB.at
  have d0 := hBD.at.c0
  rw [hk] at c0 d0
  clear k kB kD kE ga hB hBD hBE hp ho hok hPI hk
  go_enter Tryz.func32, Tryz.ntmps32
  go_upto_region 1 with fail
  try simp only [hwB]
  clear hwB
  go_wp2_with fail
  refine HM.out.mono ?_
  rintro e wX ⟨rfl, eX⟩
  subst eX
  go_upto_region 3 with fail
  go_region
  clear k0 hlk c0 c1 c2 c3 c4 c5 c6 c7 c8 c9 c10 c11 c12 c13 HM
  go_upto_region 18 with fail
  clear d0
  go_region_held3 (fun w7 => w7.cell? ⟨(h.g o.proc).b, 0, none⟩ = some (.pointer (some ⟨(h.g o.proc).m, 0, none⟩)) ∧ w7.cell? ⟨w.heap.size, 2, none⟩ = some (.int .i64 o.addr) ∧ w7.cell? ⟨w.heap.size, 3, none⟩ = some (.int .i64 o.n)) (first | with_reducible exact hk0 | with_reducible exact hkd | with_reducible exact hk1 | fail)
    (first
      | (go_at_call 71; (first | with_reducible refine HC.out.mono ?_ | refine HC.out.mono ?_); rintro e w5 ⟨rfl, v', hV, hN, hT⟩; have hk1 := HS.out _ hT; have HD := Lib.hid (HFin.out _ _ hV hN hT); clear hV hN hT)
      | fail)
  go_wp2_with fail
  go_ret2
  exact ⟨rfl, HD.out⟩
set_option maxRecDepth 100000 in
set_option maxHeartbeats 8000000 in
theorem act_unlock (k : FW w kd t r h S) (hok : SOk S) (o : FOp) (ho : OkO o) (hk : o.k = 7) (hp : geA S.ps o.proc = some p) :
    Calls Tryz.prog 32 #[.pointer (some ⟨r, 0, none⟩), .agg #[.int .i64 o.k, .int .i64 o.proc, .int .i64 o.addr, .int .i64 o.n, .int .i64 o.prot, .bool o.sh, .int .i64 o.file, .int .i64 o.off, .bool o.fixed, .int .i64 o.how, .int .i64 o.ati, .int .i64 o.v, .int .i64 o.hd, .int .i64 o.to]] w fun e w' => e = .returned (.tuple #[.int .i64 0, .int .i64 (otherV p.L o.addr o.n 5 0 1 false).err]) ∧ Dn t r kd w w' (S.turned o.proc p (otherV p.L o.addr o.n 5 0 1 false)).S := by
  have ga := World.grownBy_alloc w (.cells #[.int .i64 o.k, .int .i64 o.proc, .int .i64 o.addr, .int .i64 o.n, .int .i64 o.prot, .bool o.sh, .int .i64 o.file, .int .i64 o.off, .bool o.fixed, .int .i64 o.how, .int .i64 o.ati, .int .i64 o.v, .int .i64 o.hd, .int .i64 o.to] 34) none
  have hB := OpB.new w o
  generalize hwB : w.alloc (.cells #[.int .i64 o.k, .int .i64 o.proc, .int .i64 o.addr, .int .i64 o.n, .int .i64 o.prot, .bool o.sh, .int .i64 o.file, .int .i64 o.off, .bool o.fixed, .int .i64 o.how, .int .i64 o.ati, .int .i64 o.v, .int .i64 o.hd, .int .i64 o.to] 34) = wB at *
  have kB := k.grow ga
  have kD := kB.grow (grown_drew1 wB)
  have hBD := hB.grow (grown_drew1 wB)
  have kE := kD.grow (grown_drew1 wB.drew)
  have hBE := hBD.grow (grown_drew1 wB.drew)
  have hPI := hok.pi _ (geA_some hp)
  have k0 := kB.hw.at.1
  have hlk := kD.pm.look (geA_ids hp) ho.proc
  have HM := Lib.hid (isMade_ok k0)
  have HC := Lib.hid (wire_ok (kE.bw.get hp).vm hPI.mp (Nat.le_trans hPI.ln (by decide)) o.addr o.n false ho.addr ho.n)
  have HFin := Lib.hid (show ∀ w5 v', VM w5 (h.g o.proc).m v' (otherV p.L o.addr o.n 5 0 1 false).l → New wB.drew.drew (h.g o.proc).v v' → Turn ((h.g o.proc).m :: blkL (h.g o.proc).v) wB.drew.drew w5 → Dn t r kd w w5 (S.turned o.proc p (otherV p.L o.addr o.n 5 0 1 false)).S from fun w5 v' hV hN hT => by
    obtain ⟨k5, c5⟩ := kE.mapped hp hV hN hT
    exact ⟨_, _, k5, (Ch.grown (grown_trans ga (grown_trans (grown_drew1 wB) (grown_drew1 wB.drew)))).trans c5⟩)
  generalize (otherV p.L o.addr o.n 5 0 1 false) = d at *
  have HS := Lib.hid (show ∀ W', Turn ((h.g o.proc).m :: blkL (h.g o.proc).v) wB.drew.drew W' → W'.cell? ⟨(h.g o.proc).b, 0, none⟩ = some (.pointer (some ⟨(h.g o.proc).m, 0, none⟩)) ∧ W'.cell? ⟨w.heap.size, 2, none⟩ = some (.int .i64 o.addr) ∧ W'.cell? ⟨w.heap.size, 3, none⟩ = some (.int .i64 o.n) from fun W' hT => by
    have hO' := hBE.turn hT (k.apart hp (Nat.le_refl _))
    have c := hO'.at
    exact ⟨turn_cell hT (kE.bw.get hp).at0 (heap_lt (kE.bw.get hp).hb) (kE.apartR hp (kE.bw.get hp).kb (by simp) (by simp)), c.c2, c.c3⟩)
  have hk0 : wB.drew.cell? ⟨(h.g o.proc).b, 0, none⟩ = some (.pointer (some ⟨(h.g o.proc).m, 0, none⟩)) ∧ wB.drew.cell? ⟨w.heap.size, 2, none⟩ = some (.int .i64 o.addr) ∧ wB.drew.cell? ⟨w.heap.size, 3, none⟩ = some (.int .i64 o.n) := by have c := hBD.at; exact ⟨(kD.bw.get hp).at0, c.c2, c.c3⟩
  have hkd : wB.drew.drew.cell? ⟨(h.g o.proc).b, 0, none⟩ = some (.pointer (some ⟨(h.g o.proc).m, 0, none⟩)) ∧ wB.drew.drew.cell? ⟨w.heap.size, 2, none⟩ = some (.int .i64 o.addr) ∧ wB.drew.drew.cell? ⟨w.heap.size, 3, none⟩ = some (.int .i64 o.n) := by have c := hBE.at; exact ⟨(kE.bw.get hp).at0, c.c2, c.c3⟩
  obtain ⟨c0, c1, c2, c3, c4, c5, c6, c7, c8, c9, c10, c11, c12, c13⟩ := hB.at
  have d0 := hBD.at.c0
  rw [hk] at c0 d0
  clear k kB kD kE ga hB hBD hBE hp ho hok hPI hk
  go_enter Tryz.func32, Tryz.ntmps32
  go_upto_region 1 with fail
  try simp only [hwB]
  clear hwB
  go_wp2_with fail
  refine HM.out.mono ?_
  rintro e wX ⟨rfl, eX⟩
  subst eX
  go_upto_region 3 with fail
  go_region
  clear k0 hlk c0 c1 c2 c3 c4 c5 c6 c7 c8 c9 c10 c11 c12 c13 HM
  go_upto_region 20 with fail
  clear d0
  go_region_held3 (fun w7 => w7.cell? ⟨(h.g o.proc).b, 0, none⟩ = some (.pointer (some ⟨(h.g o.proc).m, 0, none⟩)) ∧ w7.cell? ⟨w.heap.size, 2, none⟩ = some (.int .i64 o.addr) ∧ w7.cell? ⟨w.heap.size, 3, none⟩ = some (.int .i64 o.n)) (first | with_reducible exact hk0 | with_reducible exact hkd | with_reducible exact hk1 | fail)
    (first
      | (go_at_call 71; (first | with_reducible refine HC.out.mono ?_ | refine HC.out.mono ?_); rintro e w5 ⟨rfl, v', hV, hN, hT⟩; have hk1 := HS.out _ hT; have HD := Lib.hid (HFin.out _ _ hV hN hT); clear hV hN hT)
      | fail)
  go_wp2_with fail
  go_ret2
  exact ⟨rfl, HD.out⟩
end
end Go.Proofs.YtefiiooibbkffaaGreat

namespace Go.Proofs.YtefiiooibbkffaaGreat
open Go.ChangeShapes Go.WideShapes Go.ChangeAt Go.RowKit Go.Deep Go.Sort
set_option linter.unusedVariables false
set_option linter.unusedSimpArgs false

section
variable {w w' : World} {kd kd' : Nat → Ro} {t r : Nat} {h : Gh} {S S' : Fl} {id : Int} {p : Pr}
theorem drA_sub {K α : Type} [DecidableEq K] {N : List (K × α)} {x : K} {n : K × α} (h : n ∈ drA N x) : n ∈ N := (List.mem_filter.1 h).1
/-- A process goes. -/
theorem FW.pdrop (k : FW w kd t r h S) (hg : w.grownBy w' (some h.pm)) (hm : MapV Tryz.prog 3 klI okW w' h.pm (dropV ((S.ps.map (·.1)).map fun id' => (id', .pointer (some ⟨(h.g id').b, 0, none⟩))) id)) :
    FW w' kd t r h { S with ps := drA S.ps id } ∧ Ch (own t) kd kd w w' := by
  have hch : Ch (fun ρ => ρ = .w t .pm) kd kd w w' := Ch.one hg k.pm.kp
  refine ⟨⟨k.hw.ch hch (by simp) (by simp) (by simp) (by simp) (by simp), ⟨?_, k.pm.kp⟩, BW.ch ⟨?_, fun q hq => k.bw.pr q (drA_sub hq), fun q hq => k.bw.sl q (drA_sub hq)⟩ hch (by simp) (by simp) (by simp) (by simp) (by simp) (by simp)⟩, hch.mono own_mono⟩
  · have e : dropV ((S.ps.map (·.1)).map fun id' => (id', Value.pointer (some ⟨(h.g id').b, 0, none⟩))) id = ((drA S.ps id).map (·.1)).map fun id' => (id', Value.pointer (some ⟨(h.g id').b, 0, none⟩)) := by
      rw [List.map_map, List.map_map]
      exact drop_map (fun id' (_ : Pr) => Value.pointer (some ⟨(h.g id').b, 0, none⟩)) S.ps id
    rw [e] at hm
    exact hm
  · exact (List.filter_sublist.map _).nodup k.bw.nd
theorem SOk.drop (o : SOk S) (id : Int) : SOk { S with ps := drA S.ps id } := ⟨o.hl, o.hz, fun q hq => o.pi q (drA_sub hq), fun q hq => o.nx q (drA_sub hq), o.fl, o.r0, o.r1, Nat.le_trans (List.length_filter_le _ _) o.pl, fun q hq => o.io q (drA_sub hq), o.hh⟩
set_option maxRecDepth 100000 in
set_option maxHeartbeats 4000000 in
theorem exit_ok (k : FW w kd t r h S) (hok : SOk S) (hi : okI id) (hp : geA S.ps id = some p) :
    Calls Tryz.prog 75 #[.pointer (some ⟨r, 0, none⟩), .int .i64 id] w fun e w' => e = .returned (.int .i64 0) ∧ Dn t r kd w w' (S.exit id p).S := by
  have hPI := hok.pi _ (geA_some hp)
  have k0 := k.hw.at.1
  have hlk := k.pm.look (geA_ids hp) hi
  have a0 := (k.bw.get hp).at0
  have HEn := Lib.hid (entries_ok (k.bw.get hp).vm (Nat.le_trans hPI.ln (by decide)))
  have HK := Lib.hid k
  have HOk := Lib.hid (hok.drop id)
  have HGd := Lib.hid (show ∀ x, x ∈ p.L → GoodE x ∧ x.f ≤ 1000000000 from fun x hx => ⟨(rf_good hPI.mp.rf x hx).1, hPI.fb x hx⟩)
  have HLn := Lib.hid hPI.ln
  have HI := Lib.hid hi
  clear k hok hp hPI hi
  go_enter Tryz.func75, Tryz.ntmps75
  go_wp2_with fail
  refine HEn.out.mono ?_
  rintro e w3 ⟨u, rfl, hu, g3⟩
  obtain ⟨au, cu, hau⟩ := OwnOf.form (show OwnOf enCells 10 50 w3 w.heap.size u p.L from hu)
  subst hau
  have k3 := HK.out.grow g3
  have k30 := k3.hw.at.1
  obtain ⟨w9, hdel, h9, t9⟩ := k3.pm.pm.del lawsP (x := id) (okW_of HI.out) 0
  rw [show kvI id = Value.int .i64 id from rfl] at hdel
  obtain ⟨k9, c9⟩ := k3.pdrop t9.grown h9
  have hFo := wforget_ok k9 HOk.out (s := au) (c := cu) (gone := p.L) (fun W gW => eown_row (OwnOf.kept (OwnOf.kept hu fun b hb => t9.grown.block b (OwnOf.lt hu hb).2 fun e => by
      have h1 := (OwnOf.lt hu hb).1
      have h2 := HK.out.pm.pm.lt
      have := Option.some.inj e
      omega) fun b hb => gW.block b (Nat.lt_of_lt_of_le (OwnOf.lt hu hb).2 t9.grown.size) fun e => by
      have h1 := (OwnOf.lt hu hb).1
      have h2 := HK.out.hw.fm.lt
      have := Option.some.inj e
      omega)) (by have := HLn.out; omega) HGd.out
  have HFo := Lib.hid (hFo.mono fun e w' ⟨h1, h2, h3⟩ => (⟨h1, kd, h, h2, ((Ch.grown (R := own t) g3).trans c9).trans (Ch.one h3 ⟨_, k9.hw.kf⟩)⟩ : e = Ending.returned (.tuple #[]) ∧ Dn t r kd w w' (S.exit id p).S))
  clear hu g3 k3 h9 t9 k9 c9 hFo HEn k0 hlk a0 HK
  go_wp2_with fail
  refine HFo.out.mono ?_
  rintro e w5 ⟨rfl, hD⟩
  have HD := Lib.hid hD
  clear hD
  go_wp2_with fail
  go_ret
  exact ⟨rfl, HD.out⟩
end
end Go.Proofs.YtefiiooibbkffaaGreat

namespace Go.Proofs.YtefiiooibbkffaaGreat
open Go.ChangeShapes Go.WideShapes Go.ChangeAt Go.RowKit Go.Deep Go.Sort
set_option linter.unusedVariables false
set_option linter.unusedSimpArgs false

section
variable {w w' : World} {kd kd' : Nat → Ro} {t r : Nat} {h : Gh} {S S' : Fl} {id : Int} {p : Pr}
theorem forget_nil (S : Fl) : S.forget [] = S := by
  unfold Fl.forget
  rw [List.filter_eq_self.2 fun n _ => by simp [goneF]]
theorem unmapV_no {L : List En} {lo n : Int} (h : (unmapV L lo n).err ≠ 0) : (unmapV L lo n).l = L ∧ (unmapV L lo n).gone = [] := by
  unfold unmapV at h ⊢
  split
  · next e => rw [if_pos e] at h; exact absurd rfl h
  · exact ⟨rfl, rfl⟩
set_option maxRecDepth 100000 in
set_option maxHeartbeats 4000000 in
theorem unm_ok (k : FW w kd t r h S) (hok : SOk S) (o : FOp) (ho : OkO o) (hp : geA S.ps o.proc = some p) (hok2 : SOk { S with ps := setP S.ps o.proc ⟨(unmapV p.L o.addr o.n).l, forgetP p.A (unmapV p.L o.addr o.n).gone⟩ })
    (hgd : ∀ x, x ∈ (unmapV p.L o.addr o.n).gone → GoodE x ∧ x.f ≤ 1000000000) (hgl : (unmapV p.L o.addr o.n).gone.length ≤ 100000) :
    Calls Tryz.prog 67 #[.pointer (some ⟨r, 0, none⟩), .pointer (some ⟨(h.g o.proc).b, 0, none⟩), .agg #[.int .i64 o.k, .int .i64 o.proc, .int .i64 o.addr, .int .i64 o.n, .int .i64 o.prot, .bool o.sh, .int .i64 o.file, .int .i64 o.off, .bool o.fixed, .int .i64 o.how, .int .i64 o.ati, .int .i64 o.v, .int .i64 o.hd, .int .i64 o.to]] w fun e w' => e = .returned (.int .i64 (S.unmap p o).e) ∧ Dn t r kd w w' (S.unmap p o).S := by
  have ga := World.grownBy_alloc w (.cells #[.int .i64 o.k, .int .i64 o.proc, .int .i64 o.addr, .int .i64 o.n, .int .i64 o.prot, .bool o.sh, .int .i64 o.file, .int .i64 o.off, .bool o.fixed, .int .i64 o.how, .int .i64 o.ati, .int .i64 o.v, .int .i64 o.hd, .int .i64 o.to] 34) none
  have hB := OpB.new w o
  generalize hwB : w.alloc (.cells #[.int .i64 o.k, .int .i64 o.proc, .int .i64 o.addr, .int .i64 o.n, .int .i64 o.prot, .bool o.sh, .int .i64 o.file, .int .i64 o.off, .bool o.fixed, .int .i64 o.how, .int .i64 o.ati, .int .i64 o.v, .int .i64 o.hd, .int .i64 o.to] 34) = wB at *
  have kB := k.grow ga
  have kE := kB.grow (grown_drew1 wB)
  have hBE := hB.grow (grown_drew1 wB)
  have hPI := hok.pi _ (geA_some hp)
  have HC := Lib.hid (unmap_ok (kE.bw.get hp).vm hPI.mp (Nat.le_trans hPI.ln (by decide)) o.addr o.n ho.addr ho.n)
  have HSe := Lib.hid (show (S.unmap p o).e = (unmapV p.L o.addr o.n).err ∧ (S.unmap p o).S = ({ S with ps := setP S.ps o.proc ⟨(unmapV p.L o.addr o.n).l, forgetP p.A (unmapV p.L o.addr o.n).gone⟩ } : Fl).forget (unmapV p.L o.addr o.n).gone by
    unfold Fl.unmap
    by_cases h0 : (unmapV p.L o.addr o.n).err = 0
    · rw [if_pos h0]; exact ⟨h0.symm, rfl⟩
    · rw [if_neg h0]
      obtain ⟨h1, h2⟩ := unmapV_no h0
      rw [h1, h2, forgetP_nil, forget_nil]
      refine ⟨rfl, ?_⟩
      show S = { S with ps := setP S.ps o.proc ⟨p.L, p.A⟩ }
      rw [show (⟨p.L, p.A⟩ : Pr) = p from rfl, setP_same _ k.bw.nd hp])
  obtain ⟨R, hR⟩ : ∃ R, S.unmap p o = R := ⟨_, rfl⟩
  rw [hR] at HSe ⊢
  clear hR
  have HOk2 := Lib.hid hok2
  have HGd := Lib.hid hgd
  have HGl := Lib.hid hgl
  generalize (unmapV p.L o.addr o.n) = d at *
  have HS := Lib.hid (show ∀ W', Turn ((h.g o.proc).m :: blkL (h.g o.proc).v) wB.drew W' → W'.cell? ⟨(h.g o.proc).b, 0, none⟩ = some (.pointer (some ⟨(h.g o.proc).m, 0, none⟩)) ∧ W'.cell? ⟨w.heap.size, 2, none⟩ = some (.int .i64 o.addr) ∧ W'.cell? ⟨w.heap.size, 3, none⟩ = some (.int .i64 o.n) from fun W' hT => by
    have hO' := hBE.turn hT (k.apart hp (Nat.le_refl _))
    exact ⟨turn_cell hT (kE.bw.get hp).at0 (heap_lt (kE.bw.get hp).hb) (kE.apartR hp (kE.bw.get hp).kb (by simp) (by simp)), hO'.at.c2, hO'.at.c3⟩)
  have hk0 : wB.cell? ⟨(h.g o.proc).b, 0, none⟩ = some (.pointer (some ⟨(h.g o.proc).m, 0, none⟩)) ∧ wB.cell? ⟨w.heap.size, 2, none⟩ = some (.int .i64 o.addr) ∧ wB.cell? ⟨w.heap.size, 3, none⟩ = some (.int .i64 o.n) := ⟨(kB.bw.get hp).at0, hB.at.c2, hB.at.c3⟩
  have hkd : wB.drew.cell? ⟨(h.g o.proc).b, 0, none⟩ = some (.pointer (some ⟨(h.g o.proc).m, 0, none⟩)) ∧ wB.drew.cell? ⟨w.heap.size, 2, none⟩ = some (.int .i64 o.addr) ∧ wB.drew.cell? ⟨w.heap.size, 3, none⟩ = some (.int .i64 o.n) := ⟨(kE.bw.get hp).at0, hBE.at.c2, hBE.at.c3⟩
  have HFin := Lib.hid (show ∀ w5 v' ag cg, VM w5 (h.g o.proc).m v' d.l → New wB.drew (h.g o.proc).v v' → Turn ((h.g o.proc).m :: blkL (h.g o.proc).v) wB.drew w5 → EOwn w5 wB.drew.heap.size (.slice ag d.gone.length cg) d.gone →
      Calls Tryz.prog 117 #[.pointer (some ⟨(h.g o.proc).b, 0, none⟩), .slice ag d.gone.length cg] w5 (fun e w1 => e = .returned (.tuple #[]) ∧
        Calls Tryz.prog 118 #[.pointer (some ⟨r, 0, none⟩), .slice ag d.gone.length cg] w1 fun e w' => e = .returned (.tuple #[]) ∧ Dn t r kd w w' (({ S with ps := setP S.ps o.proc ⟨d.l, forgetP p.A d.gone⟩ } : Fl).forget d.gone)) from fun w5 v' ag cg hV hN hT hu => by
    obtain ⟨k5, c5⟩ := kE.mapped hp hV hN hT
    have hp6 : geA (setP S.ps o.proc ⟨d.l, p.A⟩) o.proc = some ⟨d.l, p.A⟩ := by rw [geA_setP, if_pos rfl, hp]; rfl
    have hF := forgets k5 hp6 (gone := d.gone) (s := ag) (c := cg) (base := wB.drew.heap.size) (by simp only [setP_setP]; exact HOk2.out) hu
      (by rw [(gV_b h.g o.proc v' o.proc).2.2]; exact (kE.bw.get hp).sm.lt) kE.hw.fm.lt HGl.out HGd.out
    simp only [setP_setP] at hF
    rw [(gV_b h.g o.proc v' o.proc).1] at hF
    exact hF.mono fun e w1 ⟨h1, h2⟩ => ⟨h1, h2.mono fun e w2 ⟨h3, h4, h5⟩ => ⟨h3, _, _, h4, ((Ch.grown (grown_trans ga (grown_drew1 wB))).trans c5).trans h5⟩⟩)
  clear k kB kE ga hB hBE hp ho hok hPI hok2 hgd hgl
  go_enter Tryz.func67, Tryz.ntmps67
  go_upto_region 1 with fail
  try simp only [hwB]
  clear hwB
  go_region_held3 (fun w7 => w7.cell? ⟨(h.g o.proc).b, 0, none⟩ = some (.pointer (some ⟨(h.g o.proc).m, 0, none⟩)) ∧ w7.cell? ⟨w.heap.size, 2, none⟩ = some (.int .i64 o.addr) ∧ w7.cell? ⟨w.heap.size, 3, none⟩ = some (.int .i64 o.n)) (first | with_reducible exact hk0 | with_reducible exact hkd | with_reducible exact hk1 | fail)
    (first
      | (go_at_call 119; (first | with_reducible refine HC.out.mono ?_ | refine HC.out.mono ?_); rintro e w5 ⟨u, v', rfl, hgo, hV, hN, hT⟩; obtain ⟨ag, cg, hug⟩ := eown_form hgo; subst hug; have hk1 := HS.out _ hT; have HF := Lib.hid (HFin.out _ _ _ _ hV hN hT hgo); clear hgo hV hN hT)
      | fail)
  clear hk0 hkd hk1 HC HS HFin HGd HGl HOk2
  go_wp2_with fail
  refine HF.out.mono ?_
  rintro e w6 ⟨rfl, h6⟩
  have H6 := Lib.hid h6
  clear h6 HF
  go_wp2_with fail
  refine H6.out.mono ?_
  rintro e w7 ⟨rfl, h7⟩
  have HD := Lib.hid h7
  clear h7 H6
  go_wp2_with fail
  go_ret
  exact ⟨by rw [HSe.out.1]; rfl, by rw [HSe.out.2]; exact HD.out⟩
end
end Go.Proofs.YtefiiooibbkffaaGreat
