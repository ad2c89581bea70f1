/- Layer 17 (landed): pages are laid into a process's map. Layer 17 (landed): pages are laid into a process's map, where they may be. -/
import Derived.Test.YtefiiooibbkffaaGreatFlMf
namespace Go.Proofs.YtefiiooibbkffaaGreat
open Go.ChangeShapes Go.WideShapes Go.ChangeAt Go.RowKit Go.Deep Go.Sort
set_option linter.unusedVariables false
set_option linter.unusedSimpArgs false

section
variable {w w' : World} {kd kd' : Nat → Ro} {t r : Nat} {h : Gh} {S : Fl} {id : Int} {p : Pr}
theorem has_at (k : FW w kd t r h S) (hok : SOk S) (f : Int) (W : World) : Calls Tryz.prog 115 #[.agg #[h.sv, .map (some h.fm)], .int .i64 f] W fun e w' => e = .returned (.bool (hasF S.sz f)) ∧ W.grownBy w' none := by
  obtain ⟨a, c, hv⟩ := OwnOf.form k.hw.sz
  rw [hv]
  exact has_ok W a c h.fm S.sz f hok.hl
set_option maxHeartbeats 4000000 in
theorem lay_no (k : FW w kd t r h S) (hok : SOk S) (o : FOp) (b : Nat) (hno : (decide (o.file > 0) && !hasF S.sz o.file) = true) :
    Calls Tryz.prog 66 #[.pointer (some ⟨r, 0, none⟩), .pointer (some ⟨b, 0, none⟩), .agg #[.int .i64 o.k, .int .i64 o.proc, .int .i64 o.addr, .int .i64 o.n, .int .i64 o.prot, .bool o.sh, .int .i64 o.file, .int .i64 o.off, .bool o.fixed, .int .i64 o.how, .int .i64 o.ati, .int .i64 o.v, .int .i64 o.hd, .int .i64 o.to]] w fun e w' => e = .returned (.tuple #[.int .i64 0, .int .i64 7]) ∧ w.grownBy w' none := by
  rw [Bool.and_eq_true] at hno
  obtain ⟨hf, hh⟩ := hno
  have hh : hasF S.sz o.file = false := by simpa using hh
  have ga := World.grownBy_alloc w (.cells #[.int .i64 o.k, .int .i64 o.proc, .int .i64 o.addr, .int .i64 o.n, .int .i64 o.prot, .bool o.sh, .int .i64 o.file, .int .i64 o.off, .bool o.fixed, .int .i64 o.how, .int .i64 o.ati, .int .i64 o.v, .int .i64 o.hd, .int .i64 o.to] 34) none
  have hB := OpB.new w o
  generalize hwB : w.alloc (.cells #[.int .i64 o.k, .int .i64 o.proc, .int .i64 o.addr, .int .i64 o.n, .int .i64 o.prot, .bool o.sh, .int .i64 o.file, .int .i64 o.off, .bool o.fixed, .int .i64 o.how, .int .i64 o.ati, .int .i64 o.v, .int .i64 o.hd, .int .i64 o.to] 34) = wB at *
  have c6 := hB.at.c6
  have kB := k.grow ga
  obtain ⟨k0, k1, k2, k3, k4⟩ := kB.hw.at
  have hc1 := Calls.regrown_g (w := wB) fun W _ => has_at k hok o.file W
  rw [hh] at hc1
  have HG := Lib.hid ga
  have r6 := cell_regrown c6
  have r1 := cell_regrown k1
  have r2 := cell_regrown k2
  clear k hok kB ga hB hh
  go_enter Tryz.func66, Tryz.ntmps66
  go_upto_region 1 with fail
  refine wp_region_quiet_below (by kernel_rfl) (by kernel_rfl) ?_
  repeat (go_big_quiet_step (first | exact hc1 _ _ | fail))
  refine wpQuiet_nil ?_
  intro _ hw'
  obtain ⟨⟨dq, osq⟩, hw''⟩ := hw'
  subst hw''
  have HQ := Lib.hid (regrown_grown wB dq osq)
  clear r1 r2 r6 hc1
  generalize grow (redrawn wB dq) osq = w3 at *
  go_wp2_with fail
  go_ret2
  exact ⟨rfl, grown_trans HG.out HQ.out⟩
set_option maxHeartbeats 4000000 in
theorem lay_inval (k : FW w kd t r h S) (hok : SOk S) (o : FOp) (b : Nat) (hno : (decide (o.file = 0) && decide (o.off ≠ 0)) = true) :
    Calls Tryz.prog 66 #[.pointer (some ⟨r, 0, none⟩), .pointer (some ⟨b, 0, none⟩), .agg #[.int .i64 o.k, .int .i64 o.proc, .int .i64 o.addr, .int .i64 o.n, .int .i64 o.prot, .bool o.sh, .int .i64 o.file, .int .i64 o.off, .bool o.fixed, .int .i64 o.how, .int .i64 o.ati, .int .i64 o.v, .int .i64 o.hd, .int .i64 o.to]] w fun e w' => e = .returned (.tuple #[.int .i64 0, .int .i64 2]) ∧ w.grownBy w' none := by
  rw [Bool.and_eq_true, decide_eq_true_eq, decide_eq_true_eq] at hno
  obtain ⟨hf, hh⟩ := hno
  have ga := World.grownBy_alloc w (.cells #[.int .i64 o.k, .int .i64 o.proc, .int .i64 o.addr, .int .i64 o.n, .int .i64 o.prot, .bool o.sh, .int .i64 o.file, .int .i64 o.off, .bool o.fixed, .int .i64 o.how, .int .i64 o.ati, .int .i64 o.v, .int .i64 o.hd, .int .i64 o.to] 34) none
  have hB := OpB.new w o
  generalize hwB : w.alloc (.cells #[.int .i64 o.k, .int .i64 o.proc, .int .i64 o.addr, .int .i64 o.n, .int .i64 o.prot, .bool o.sh, .int .i64 o.file, .int .i64 o.off, .bool o.fixed, .int .i64 o.how, .int .i64 o.ati, .int .i64 o.v, .int .i64 o.hd, .int .i64 o.to] 34) = wB at *
  have c6 := hB.at.c6
  have c7 := hB.at.c7
  rw [hf] at c6
  have HG := Lib.hid ga
  have HC6 := Lib.hid c6
  have HC7 := Lib.hid c7
  have r6 := cell_regrown c6
  have bo : (o.off != 0) = true := by simpa using hh
  clear k hok ga hB hf hh c6 c7
  go_enter Tryz.func66, Tryz.ntmps66
  go_upto_region 1 with fail
  refine wp_region_quiet_below (by kernel_rfl) (by kernel_rfl) ?_
  repeat (go_big_quiet_step (first | fail))
  refine wpQuiet_nil ?_
  intro _ hw'
  obtain ⟨⟨dq, osq⟩, hw''⟩ := hw'
  subst hw''
  have HQ := Lib.hid (regrown_grown wB dq osq)
  clear r6
  generalize grow (redrawn wB dq) osq = w3 at *
  have c6 := HQ.out.cell HC6.out (by simp)
  have c7 := HQ.out.cell HC7.out (by simp)
  go_wp2_with fail
  go_ret2
  exact ⟨rfl, grown_trans HG.out HQ.out⟩
end
end Go.Proofs.YtefiiooibbkffaaGreat

namespace Go.Proofs.YtefiiooibbkffaaGreat
open Go.ChangeShapes Go.WideShapes Go.ChangeAt Go.RowKit Go.Deep Go.Sort
set_option linter.unusedVariables false
set_option linter.unusedSimpArgs false

/-- A process's map behind what was laid or taken away, ahead of what is forgotten. -/
def Fl.did (S : Fl) (id : Int) (p : Pr) (d : Did) (reg : Int) : Fl := { S with ps := setP S.ps id ⟨d.l, p.A⟩, reg := reg }
def Fl.did2 (S : Fl) (id : Int) (p : Pr) (d : Did) (reg : Int) : Fl := { S with ps := setP S.ps id ⟨d.l, forgetP p.A d.gone⟩, reg := reg }
theorem eown_keep {w w' : World} {base : Nat} {v : Value} {L : List En} {x : Nat} (h : EOwn w base v L) (hg : w.grownBy w' (some x)) (hx : x < base) : EOwn w' base v L :=
  OwnOf.kept h fun b hb => hg.block b (OwnOf.lt h hb).2 fun e => by have := (OwnOf.lt h hb).1; have := Option.some.inj e; omega
theorem forgetP_sub (A : List (Int × Nat)) (gone : List En) : ∀ a, a ∈ forgetP A gone → a ∈ A := fun a ha => (List.mem_filter.1 ha).1
theorem turn_cell {O : List Nat} {W W' : World} (t : Turn O W W') {b o : Nat} {v : Value} (hc : W.cell? ⟨b, o, none⟩ = some v) (hlt : b < W.heap.size) (hb : b ∉ O) : W'.cell? ⟨b, o, none⟩ = some v := (World.cell?_of_block (t.block b hlt hb)).trans hc
theorem OpB.turn {O : List Nat} {W W' : World} {y : Nat} {o : FOp} (h : OpB W y o) (t : Turn O W W') (hb : y ∉ O) : OpB W' y o := (t.block y h.lt hb).trans h
section
variable {w w' : World} {kd kd' : Nat → Ro} {t r : Nat} {h : Gh} {S : Fl} {id : Int} {p : Pr}
/-- What a process's map turns leaves what lies behind it, and the process's box. -/
theorem FW.apart (k : FW w kd t r h S) (hp : geA S.ps id = some p) {b : Nat} (hb : w.heap.size ≤ b) : b ∉ (h.g id).m :: blkL (h.g id).v := fun hm => by
  have hP := k.bw.get hp
  rcases List.mem_cons.1 hm with rfl | hm
  · have := hP.vm.lt; omega
  · have := (OwnOf.lt hP.vm.own (mem_blk.1 hm)).2; omega
theorem FW.apartR (k : FW w kd t r h S) (hp : geA S.ps id = some p) {b : Nat} {x : Rx} (hb : kd b = .w t x) (h1 : x ≠ .vm id) (h2 : x ≠ .vr id) : b ∉ (h.g id).m :: blkL (h.g id).v := fun hm => by
  have hP := k.bw.get hp
  rcases List.mem_cons.1 hm with rfl | hm
  · rw [hP.km] at hb; injection hb with _ e; exact h1 e.symm
  · rw [hP.kv _ (mem_blk.1 hm)] at hb; injection hb with _ e; exact h2 e.symm
/-- The two forgets, one behind the other: their contracts. -/
theorem forgets (k : FW w kd t r h S) (hp : geA S.ps id = some p) {gone : List En} (ho2 : SOk { S with ps := setP S.ps id ⟨p.L, forgetP p.A gone⟩ }) {s : Option Addr} {c base : Nat}
    (hu : EOwn w base (.slice s gone.length c) gone) (hb1 : (h.g id).sm < base) (hb2 : h.fm < base) (hl : gone.length ≤ 100000) (hgd : ∀ x, x ∈ gone → GoodE x ∧ x.f ≤ 1000000000) :
    Calls Tryz.prog 117 #[.pointer (some ⟨(h.g id).b, 0, none⟩), .slice s gone.length c] w (fun e w1 => e = .returned (.tuple #[]) ∧
      Calls Tryz.prog 118 #[.pointer (some ⟨r, 0, none⟩), .slice s gone.length c] w1 fun e w' => e = .returned (.tuple #[]) ∧ FW w' kd t r h (({ S with ps := setP S.ps id ⟨p.L, forgetP p.A gone⟩ } : Fl).forget gone) ∧ Ch (own t) kd kd w w') := by
  refine (pforget_ok (k.bw.get hp) (s := s) (c := c) (gone := gone) (fun W g => eown_row (eown_keep hu g hb1)) hl fun x hx => (hgd x hx).1).mono fun e w1 ⟨he, hP, hg⟩ => ⟨he, ?_⟩
  obtain ⟨k1, c1⟩ := k.pless hp hP (forgetP_sub _ _) hg
  have hu1 := eown_keep hu hg hb1
  refine (wforget_ok k1 ho2 (s := s) (c := c) (gone := gone) (fun W g => eown_row (eown_keep hu1 g hb2)) hl hgd).mono fun e w2 ⟨he, k2, hg2⟩ => ⟨he, k2, c1.trans (Ch.one hg2 ⟨_, k1.hw.kf⟩)⟩
end
end Go.Proofs.YtefiiooibbkffaaGreat
