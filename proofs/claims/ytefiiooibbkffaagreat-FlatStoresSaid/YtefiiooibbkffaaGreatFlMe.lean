/- Layer 17 (landed): a byte that is stored, in a file's page. Layer 17 (landed): a byte that is stored, in a private page. -/
import Derived.Test.YtefiiooibbkffaaGreatFlMd
namespace Go.Proofs.YtefiiooibbkffaaGreat
open Go.ChangeShapes Go.WideShapes Go.ChangeAt Go.RowKit Go.Deep Go.Sort
set_option linter.unusedVariables false
set_option linter.unusedSimpArgs false

theorem ne_map {K : Type} [DecidableEq K] {P : Program} {kt : TypeId} {kl : K → Lit} {ok : K → Prop} {w : World} {g M : Nat} {cs : Array Value} {tt : TypeId} {fr : Nat × Nat} {N : List (K × Value)} (h : w.heap[g]? = some (.cells cs tt fr)) (m : MapV P kt kl ok w M N) : g ≠ M := fun e => by
  obtain ⟨es, cl, h2⟩ := m.isMap
  rw [← e, h] at h2
  cases h2
section
variable {w w' : World} {kd kd' : Nat → Ro} {t r : Nat} {h : Gh} {S : Fl} {id : Int} {p : Pr}
set_option maxRecDepth 100000 in
set_option maxHeartbeats 4000000 in
theorem store_sh (k : FW w kd t r h S) (hok : SOk S) (o : FOp) (hp : geA S.ps o.proc = some p) {x : En} {l : List UInt8} (hf : StF S p o x l) (hsh : x.sh = true) :
    Calls Tryz.prog 73 #[.pointer (some ⟨r, 0, none⟩), .pointer (some ⟨(h.g o.proc).b, 0, none⟩), .agg #[.int .i64 o.k, .int .i64 o.proc, .int .i64 o.addr, .int .i64 o.n, .int .i64 o.prot, .bool o.sh, .int .i64 o.file, .int .i64 o.off, .bool o.fixed, .int .i64 o.how, .int .i64 o.ati, .int .i64 o.v, .int .i64 o.hd, .int .i64 o.to]] w fun e w' => e = .returned (.int .i64 (S.store p o).e) ∧ Dn t r kd w w' (S.store p o).S := by
  have hst : S.store p o = ⟨{ S with F := puA S.F (spotF x o.addr) l }, 0, 0⟩ := by
    unfold Fl.store
    rw [if_pos hf.e, hf.at_, hf.l]
    simp only [hsh, if_true, Bool.false_eq_true, if_false]
  rw [hst]
  have ga := World.grownBy_alloc w (.cells #[.int .i64 o.k, .int .i64 o.proc, .int .i64 o.addr, .int .i64 o.n, .int .i64 o.prot, .bool o.sh, .int .i64 o.file, .int .i64 o.off, .bool o.fixed, .int .i64 o.how, .int .i64 o.ati, .int .i64 o.v, .int .i64 o.hd, .int .i64 o.to] 34) none
  have hB := OpB.new w o
  generalize hwB : w.alloc (.cells #[.int .i64 o.k, .int .i64 o.proc, .int .i64 o.addr, .int .i64 o.n, .int .i64 o.prot, .bool o.sh, .int .i64 o.file, .int .i64 o.off, .bool o.fixed, .int .i64 o.how, .int .i64 o.ati, .int .i64 o.v, .int .i64 o.hd, .int .i64 o.to] 34) = wB at *
  have kB := (k.vw hok hp).grow ga
  obtain ⟨c0, c1, c2, c3, c4, c5, c6, c7, c8, c9, c10, c11, c12, c13⟩ := hB.at
  have hc1 := Calls.regrown_g (w := wB) fun W _ => (isAt_ok W o.ati).mono fun e w' ⟨he, hw⟩ => ⟨he, by rw [hw]; exact grown_refl _ _⟩
  have hc3 := Calls.regrown_g (w := wB) fun W _ => (isByte_ok W o.v).mono fun e w' ⟨he, hw⟩ => ⟨he, by rw [hw]; exact grown_refl _ _⟩
  have hc2 := Calls.regrown_g (w := wB) fun W g => reach_ok (kB.grow g) o 2 (.inr rfl) (isAtB o.ati && isByB o.v)
  have HSu := Lib.hid (fun W (g : wB.grownBy W none) => (kB.grow g).reachU o.addr 2 (isAtB o.ati && isByB o.v))
  have HG := Lib.hid ga
  have HK := Lib.hid (fun W (g : wB.grownBy W none) => k.grow (grown_trans ga g))
  have HOp := Lib.hid (fun W (g : wB.grownBy W none) => (hB.grow g).at)
  have HOpA := Lib.hid (fun W (g : wB.grownBy W none) => hB.grow g)
  have hl := hf.l
  rw [hf.e] at hc2
  generalize (S.reach p o.addr 2 (isAtB o.ati && isByB o.v)).1 = b at *
  generalize reachU h S p o.addr 2 (isAtB o.ati && isByB o.v) = u at *
  rw [hf.ati] at hc1 hc2
  rw [hf.v] at hc2 hc3
  simp only [Bool.and_self] at hc2
  have HF := Lib.hid hf
  have HLl := Lib.hid hl
  have HOk := Lib.hid hok
  have HP := Lib.hid hp
  have HST := Lib.hid hst
  have r0 := cell_regrown c0
  have r1 := cell_regrown c1
  have r2 := cell_regrown c2
  have r3 := cell_regrown c3
  have r4 := cell_regrown c4
  have r5 := cell_regrown c5
  have r6 := cell_regrown c6
  have r7 := cell_regrown c7
  have r8 := cell_regrown c8
  have r9 := cell_regrown c9
  have r10 := cell_regrown c10
  have r11 := cell_regrown c11
  have r12 := cell_regrown c12
  have r13 := cell_regrown c13
  clear k kB ga hB c0 c1 c2 c3 c4 c5 c6 c7 c8 c9 c10 c11 c12 c13 hst hok hp hf hl
  have HSH := Lib.hid hsh
  clear hsh
  go_enter Tryz.func73, Tryz.ntmps73
  go_upto_region 1 with fail
  refine wp_region_quiet_below (by kernel_rfl) (by kernel_rfl) ?_
  repeat (go_big_quiet_step (first | exact hc1 _ _ | exact hc2 _ _ | exact hc3 _ _ | fail))
  refine wpQuiet_nil ?_
  intro _ hw'
  obtain ⟨⟨dq, osq⟩, hw''⟩ := hw'
  subst hw''
  have HQ := Lib.hid (regrown_grown wB dq osq)
  clear r0 r1 r2 r3 r4 r5 r6 r7 r8 r9 r10 r11 r12 r13 hc1 hc2 hc3
  generalize grow (redrawn wB dq) osq = w3 at *
  have hS3 := HSu.out w3 HQ.out
  have hop3 := HOp.out w3 HQ.out
  have HW3 := Lib.hid (with_ok hS3 o.ati o.v HF.out.ati HF.out.v)
  rw [HLl.out] at HW3
  have HLen := Lib.hid (show l.length = 4096 by rw [← HLl.out]; exact withB_length hS3.len o.ati o.v)
  have q10 := hop3.c10
  have q11 := hop3.c11
  clear hS3 hop3 HSu
  go_wp2_with fail
  refine HW3.out.mono ?_
  rintro e w4 ⟨rfl, hw4⟩
  have HK4 := Lib.hid (show FW w4 (upd kd w3.heap.size .sh) t r h S by rw [hw4]; exact (HK.out w3 HQ.out).chNo (Ch.new noRo kd w3 _ .sh))
  have HC4 := Lib.hid (show Ch noRo kd (upd kd w3.heap.size .sh) w w4 by rw [hw4]; exact (Ch.grown (grown_trans HG.out HQ.out)).trans (Ch.new noRo kd w3 _ .sh))
  have HSh4 := Lib.hid (show Sh w4 (upd kd w3.heap.size .sh) (.pointer (some ⟨w3.heap.size, 0, none⟩)) (some l) by rw [hw4]; exact Sh.new HLen.out w3 kd)
  have HOp4 := Lib.hid (fun W (g : w4.grownBy W none) => HOp.out W (grown_trans HQ.out (grown_trans (by rw [hw4]; exact World.grownBy_alloc _ _ _) g)))
  have HOpB := Lib.hid (fun W (g : w4.grownBy W none) => HOpA.out W (grown_trans HQ.out (grown_trans (by rw [hw4]; exact World.grownBy_alloc _ _ _) g)))
  clear hw4 q10 q11 HOpA
  obtain ⟨kd4, hkd4⟩ : ∃ f, upd kd w3.heap.size .sh = f := ⟨_, rfl⟩
  rw [hkd4] at HK4 HC4 HSh4
  obtain ⟨u4, hu4⟩ : ∃ u4 : Value, .pointer (some ⟨w3.heap.size, 0, none⟩) = u4 := ⟨_, rfl⟩
  rw [hu4] at HSh4
  have HV4 := Lib.hid (HK4.out.vw HOk.out HP.out)
  have HA := Lib.hid (fun W (g : w4.grownBy W none) => (HV4.out.grow g).at_ok o.addr x (by unfold atE; rw [HF.out.at_]; rfl) true (by rw [HF.out.at_]; rfl))
  have HS := Lib.hid (fun W (g : w4.grownBy W none) => And.intro (HV4.out.grow g).pa.at0 (HOp4.out W g).c2)
  have HZ := Lib.hid (show EnB (w4.alloc (.cells #[.int .i64 0, .int .i64 0, .int .i64 0, .int .i64 0, .bool false, .int .i64 0, .int .i64 0, .int .i64 0, .int .i64 0, .bool false] 50)) w4.heap.size zeroE from EnB.new w4 zeroE)
  have HGz := Lib.hid (World.grownBy_alloc w4 (.cells #[.int .i64 0, .int .i64 0, .int .i64 0, .int .i64 0, .bool false, .int .i64 0, .int .i64 0, .int .i64 0, .int .i64 0, .bool false] 50) none)
  clear HK HW3 HOp HLen hkd4
  go_wp2_with fail
  try simp only [hu4]
  clear hu4
  go_cut [9, 10] (fun v9 v10 wx => ∃ y : Nat, v9 = .pointer (some ⟨y, 0, none⟩) ∧ v10 = .bool true ∧ Hid (EnB wx y x) ∧ Hid (w4.grownBy wx none))
  case first =>
    have hk0 := HS.out _ (grown_refl w4 none)
    have hkd := HS.out (w4).drew (grown_drew1 _)
    have hkz := HS.out _ HGz.out
    have hkzd := HS.out _ (grown_trans HGz.out (grown_drew1 _))
    go_region_held3 (fun w7 => w7.cell? ⟨(h.g o.proc).b, 0, none⟩ = some (.pointer (some ⟨(h.g o.proc).m, 0, none⟩)) ∧ w7.cell? ⟨w.heap.size, 2, none⟩ = some (.int .i64 o.addr)) (first | with_reducible exact hk0 | with_reducible exact hkd | with_reducible exact hkz | with_reducible exact hkzd | with_reducible exact hk1 | with_reducible exact hk2 | with_reducible exact hk3 | fail)
      (first
        | (go_at_call 109; with_reducible refine (HA.out _ (grown_drew1 _)).mono ?_; rintro e w5 ⟨rfl, g5⟩; have HG5 := Lib.hid (grown_trans (grown_drew1 w4) g5); have hk1 := HS.out w5 HG5.out; have hk2 := HS.out _ (grown_trans HG5.out (World.grownBy_alloc w5 (.cells #[.int .i64 0, .int .i64 0, .int .i64 0, .int .i64 0, .bool false, .int .i64 0, .int .i64 0, .int .i64 0, .int .i64 0, .bool false] 50) none)); have hk3 := HS.out _ (grown_trans HG5.out (World.grownBy_alloc w5 (.cells #[.int .i64 x.s, .int .i64 x.e, .int .i64 x.f, .int .i64 x.o, .bool x.sh, .int .i64 x.p, .int .i64 x.m, .int .i64 x.i, .int .i64 x.a, .bool x.wi] 50) none)); clear g5)
        | (go_at_call 109; with_reducible refine (HA.out _ (grown_trans HGz.out (grown_drew1 _))).mono ?_; rintro e w5 ⟨rfl, g5⟩; have HG5 := Lib.hid (grown_trans (grown_trans HGz.out (grown_drew1 _)) g5); have hz5 := (HZ.out.grow (grown_drew1 _)).grow g5; have HZ5 := Lib.hid (set10_box hz5 x); have HG6 := Lib.hid (grown_at HG5.out (set10_grown w5 (w4).heap.size x) (Nat.le_refl _)); have hk1 := HS.out w5 HG5.out; have hk2 := HS.out _ HG6.out; obtain ⟨q0, q1, q2, q3, q4, q5, q6, q7, q8, q9⟩ := hz5.all; have hf := hz5.frozen; unfold set10 at HZ5 HG6 hk2; unfold zeroE at q0 q1 q2 q3 q4 q5 q6 q7 q8 q9; clear g5 hz5)
        | fail)
    all_goals
      go_wp2_with fail
      go_meet
      case rel =>
        first
          | exact ⟨_, rfl, rfl, HZ5, HG6⟩
          | exact ⟨_, rfl, rfl, Lib.hid (EnB.new w5 x), Lib.hid (grown_trans HG5.out (World.grownBy_alloc _ _ _))⟩
  case rest =>
    obtain ⟨y, rfl, rfl, HE, HGc⟩ := hcut
    clear HZ HGz HA HS
    have HKc := Lib.hid (HK4.out.grow HGc.out)
    have HCc := Lib.hid (HC4.out.trans (Ch.grown (R := noRo) HGc.out))
    have HShc := Lib.hid (HSh4.out.ch (R := noRo) (Ch.grown HGc.out) (no_ro _))
    have HPg := Lib.hid (HV4.out.pg HF.out.at_)
    clear HK4 HC4 HSh4 HV4
    have e4 := HE.out.all.2.2.2.2.1
    rw [HSH.out] at e4
    go_upto_region 7 with fail
    clear e4
    have HS7 := Lib.hid (fun W (g : wc.grownBy W none) => And.intro (HKc.out.grow g).hw.at.2.2.1 (And.intro (HE.out.grow g).all (HOp4.out W (grown_trans HGc.out g)).c2))
    have HSp := Lib.hid (fun W => spotOf_ok W x o.addr HPg.out.spot.2.2.1 HPg.out.spot.2.2.2.1 HPg.out.spot.2.2.2.2.1 HPg.out.spot.2.2.2.2.2.1 HPg.out.spot.2.2.2.2.2.2.1 HPg.out.spot.2.2.2.2.2.2.2)
    have HPut := Lib.hid (fun W (g : wc.grownBy W none) => (HKc.out.grow g).hw.fm.put lawsF (by rw [List.length_map]; have := HOk.out.fl; unfold maxLen; omega) u4 (x := spotF x o.addr) ⟨HPg.out.spot.1, HPg.out.spot.2.1⟩)
    have HFin := Lib.hid (show ∀ W, wc.grownBy W none → ∀ w9, MapV Tryz.prog 153 spotL okK w9 h.fm ((spotF x o.addr, u4) :: dropV (S.F.map fun n => (n.1, h.fv n.1)) (spotF x o.addr)) → W.mapTurned w9 h.fm → (w9.cell? ⟨r, 2, none⟩ = some (.map (some h.fm)) ∧ (w9.cell? ⟨y, 0, none⟩ = some (.int .i64 x.s) ∧ w9.cell? ⟨y, 1, none⟩ = some (.int .i64 x.e) ∧ w9.cell? ⟨y, 2, none⟩ = some (.int .i64 x.f) ∧ w9.cell? ⟨y, 3, none⟩ = some (.int .i64 x.o) ∧ w9.cell? ⟨y, 4, none⟩ = some (.bool x.sh) ∧ w9.cell? ⟨y, 5, none⟩ = some (.int .i64 x.p) ∧ w9.cell? ⟨y, 6, none⟩ = some (.int .i64 x.m) ∧ w9.cell? ⟨y, 7, none⟩ = some (.int .i64 x.i) ∧ w9.cell? ⟨y, 8, none⟩ = some (.int .i64 x.a) ∧ w9.cell? ⟨y, 9, none⟩ = some (.bool x.wi)) ∧ w9.cell? ⟨w.heap.size, 2, none⟩ = some (.int .i64 o.addr)) ∧ Dn t r kd w w9 { S with F := puA S.F (spotF x o.addr) l } from fun W g w9 h9 t9 => by
      have kW := HKc.out.grow g
      have hne : ∀ b cs tt fr, W.heap[b]? = some (.cells cs tt fr) → some b ≠ some h.fm := fun b cs tt fr hb e => ne_map hb kW.hw.fm (Option.some.inj e)
      obtain ⟨hw9, hc9⟩ := kW.hw.sheet_put (w' := w9) (((HShc.out.ch (R := noRo) (Ch.grown g) (no_ro _))).ch (R := fun ρ => ρ = .w t .fm) (Ch.one t9.grown kW.hw.kf) (by simp)) t9.grown h9
      refine ⟨⟨hw9.at.2.2.1, ?_, ?_⟩, kd4, _, ⟨hw9, ⟨(kW.pm.ch hc9 (by simp)).pm, (kW.pm.ch hc9 (by simp)).kp⟩, kW.bw.ch hc9 (by simp) (by simp) (by simp) (by simp) (by simp) (by simp)⟩, ?_⟩
      · have hb := HE.out.grow g
        exact (show EnB w9 y x from (t9.grown.block _ hb.lt (hne _ _ _ _ hb)).trans hb).all
      · have ho := HOp4.out W (grown_trans HGc.out g)
        have hob := HOpB.out W (grown_trans HGc.out g)
        exact (show OpB w9 w.heap.size o from (t9.grown.block _ hob.lt (hne _ _ _ _ hob)).trans hob).at.c2
      · exact ((HCc.out.trans (Ch.grown g)).mono fun _ e => (no_ro _ e).elim).trans (hc9.mono own_mono))
    have hk0 := HS7.out wc (grown_refl _ _)
    have hkd := HS7.out wc.drew (grown_drew1 _)
    rw [show spotV (spotF x o.addr) = .agg #[.int .i64 (spotF x o.addr).1, .int .i64 (spotF x o.addr).2] from rfl] at HPut
    have HSTe := Lib.hid HST.out
    clear HKc HCc HShc HPg HE HST HF HOp4
    go_region_held3 (fun w7 => w7.cell? ⟨r, 2, none⟩ = some (.map (some h.fm)) ∧ (w7.cell? ⟨y, 0, none⟩ = some (.int .i64 x.s) ∧ w7.cell? ⟨y, 1, none⟩ = some (.int .i64 x.e) ∧ w7.cell? ⟨y, 2, none⟩ = some (.int .i64 x.f) ∧ w7.cell? ⟨y, 3, none⟩ = some (.int .i64 x.o) ∧ w7.cell? ⟨y, 4, none⟩ = some (.bool x.sh) ∧ w7.cell? ⟨y, 5, none⟩ = some (.int .i64 x.p) ∧ w7.cell? ⟨y, 6, none⟩ = some (.int .i64 x.m) ∧ w7.cell? ⟨y, 7, none⟩ = some (.int .i64 x.i) ∧ w7.cell? ⟨y, 8, none⟩ = some (.int .i64 x.a) ∧ w7.cell? ⟨y, 9, none⟩ = some (.bool x.wi)) ∧ w7.cell? ⟨w.heap.size, 2, none⟩ = some (.int .i64 o.addr)) (first | with_reducible exact hk0 | with_reducible exact hkd | with_reducible exact hk1 | with_reducible exact hk9 | fail)
      (first
        | (go_at_call 128; with_reducible refine (HSp.out _).mono ?_; rintro e w5 ⟨rfl, g5⟩; have HG7 := Lib.hid (grown_trans (grown_drew1 wc) g5); have hk1 := HS7.out w5 HG7.out; obtain ⟨w9, hup, h9, t9⟩ := HPut.out w5 HG7.out; obtain ⟨hk9, hD⟩ := HFin.out w5 HG7.out w9 h9 t9; have HD := Lib.hid hD; clear g5 h9 t9 hD)
        | fail)
    go_wp2_with fail
    go_ret
    exact ⟨rfl, HD.out⟩
end
end Go.Proofs.YtefiiooibbkffaaGreat

namespace Go.Proofs.YtefiiooibbkffaaGreat
open Go.ChangeShapes Go.WideShapes Go.ChangeAt Go.RowKit Go.Deep Go.Sort
set_option linter.unusedVariables false
set_option linter.unusedSimpArgs false

section
variable {w w' : World} {kd kd' : Nat → Ro} {t r : Nat} {h : Gh} {S : Fl} {id : Int} {p : Pr}
set_option maxRecDepth 100000 in
set_option maxHeartbeats 4000000 in
theorem store_pr (k : FW w kd t r h S) (hok : SOk S) (o : FOp) (hp : geA S.ps o.proc = some p) {x : En} {l : List UInt8} (hf : StF S p o x l) (hsh : x.sh = false) :
    Calls Tryz.prog 73 #[.pointer (some ⟨r, 0, none⟩), .pointer (some ⟨(h.g o.proc).b, 0, none⟩), .agg #[.int .i64 o.k, .int .i64 o.proc, .int .i64 o.addr, .int .i64 o.n, .int .i64 o.prot, .bool o.sh, .int .i64 o.file, .int .i64 o.off, .bool o.fixed, .int .i64 o.how, .int .i64 o.ati, .int .i64 o.v, .int .i64 o.hd, .int .i64 o.to]] w fun e w' => e = .returned (.int .i64 (S.store p o).e) ∧ Dn t r kd w w' (S.store p o).S := by
  have hst : S.store p o = ⟨{ S with ps := setP S.ps o.proc (slotF p S.c S.nx o.addr).p, c := upd (slotF p S.c S.nx o.addr).c (slotF p S.c S.nx o.addr).s (some l), nx := (slotF p S.c S.nx o.addr).nx }, 0, 0⟩ := by
    unfold Fl.store
    rw [if_pos hf.e, hf.at_, hf.l]
    simp only [hsh, if_true, Bool.false_eq_true, if_false]
  rw [hst]
  have ga := World.grownBy_alloc w (.cells #[.int .i64 o.k, .int .i64 o.proc, .int .i64 o.addr, .int .i64 o.n, .int .i64 o.prot, .bool o.sh, .int .i64 o.file, .int .i64 o.off, .bool o.fixed, .int .i64 o.how, .int .i64 o.ati, .int .i64 o.v, .int .i64 o.hd, .int .i64 o.to] 34) none
  have hB := OpB.new w o
  generalize hwB : w.alloc (.cells #[.int .i64 o.k, .int .i64 o.proc, .int .i64 o.addr, .int .i64 o.n, .int .i64 o.prot, .bool o.sh, .int .i64 o.file, .int .i64 o.off, .bool o.fixed, .int .i64 o.how, .int .i64 o.ati, .int .i64 o.v, .int .i64 o.hd, .int .i64 o.to] 34) = wB at *
  have kB := (k.vw hok hp).grow ga
  obtain ⟨c0, c1, c2, c3, c4, c5, c6, c7, c8, c9, c10, c11, c12, c13⟩ := hB.at
  have hc1 := Calls.regrown_g (w := wB) fun W _ => (isAt_ok W o.ati).mono fun e w' ⟨he, hw⟩ => ⟨he, by rw [hw]; exact grown_refl _ _⟩
  have hc3 := Calls.regrown_g (w := wB) fun W _ => (isByte_ok W o.v).mono fun e w' ⟨he, hw⟩ => ⟨he, by rw [hw]; exact grown_refl _ _⟩
  have hc2 := Calls.regrown_g (w := wB) fun W g => reach_ok (kB.grow g) o 2 (.inr rfl) (isAtB o.ati && isByB o.v)
  have HSu := Lib.hid (fun W (g : wB.grownBy W none) => (kB.grow g).reachU o.addr 2 (isAtB o.ati && isByB o.v))
  have HG := Lib.hid ga
  have HK := Lib.hid (fun W (g : wB.grownBy W none) => k.grow (grown_trans ga g))
  have HOp := Lib.hid (fun W (g : wB.grownBy W none) => (hB.grow g).at)
  have HOpA := Lib.hid (fun W (g : wB.grownBy W none) => hB.grow g)
  have hl := hf.l
  rw [hf.e] at hc2
  generalize (S.reach p o.addr 2 (isAtB o.ati && isByB o.v)).1 = b at *
  generalize reachU h S p o.addr 2 (isAtB o.ati && isByB o.v) = u at *
  rw [hf.ati] at hc1 hc2
  rw [hf.v] at hc2 hc3
  simp only [Bool.and_self] at hc2
  have HF := Lib.hid hf
  have HLl := Lib.hid hl
  have HOk := Lib.hid hok
  have HP := Lib.hid hp
  have HST := Lib.hid hst
  have r0 := cell_regrown c0
  have r1 := cell_regrown c1
  have r2 := cell_regrown c2
  have r3 := cell_regrown c3
  have r4 := cell_regrown c4
  have r5 := cell_regrown c5
  have r6 := cell_regrown c6
  have r7 := cell_regrown c7
  have r8 := cell_regrown c8
  have r9 := cell_regrown c9
  have r10 := cell_regrown c10
  have r11 := cell_regrown c11
  have r12 := cell_regrown c12
  have r13 := cell_regrown c13
  clear k kB ga hB c0 c1 c2 c3 c4 c5 c6 c7 c8 c9 c10 c11 c12 c13 hst hok hp hf hl
  have HSH := Lib.hid hsh
  clear hsh
  go_enter Tryz.func73, Tryz.ntmps73
  go_upto_region 1 with fail
  refine wp_region_quiet_below (by kernel_rfl) (by kernel_rfl) ?_
  repeat (go_big_quiet_step (first | exact hc1 _ _ | exact hc2 _ _ | exact hc3 _ _ | fail))
  refine wpQuiet_nil ?_
  intro _ hw'
  obtain ⟨⟨dq, osq⟩, hw''⟩ := hw'
  subst hw''
  have HQ := Lib.hid (regrown_grown wB dq osq)
  clear r0 r1 r2 r3 r4 r5 r6 r7 r8 r9 r10 r11 r12 r13 hc1 hc2 hc3
  generalize grow (redrawn wB dq) osq = w3 at *
  have hS3 := HSu.out w3 HQ.out
  have hop3 := HOp.out w3 HQ.out
  have HW3 := Lib.hid (with_ok hS3 o.ati o.v HF.out.ati HF.out.v)
  rw [HLl.out] at HW3
  have HLen := Lib.hid (show l.length = 4096 by rw [← HLl.out]; exact withB_length hS3.len o.ati o.v)
  have q10 := hop3.c10
  have q11 := hop3.c11
  clear hS3 hop3 HSu
  go_wp2_with fail
  refine HW3.out.mono ?_
  rintro e w4 ⟨rfl, hw4⟩
  have HK4 := Lib.hid (show FW w4 (upd kd w3.heap.size .sh) t r h S by rw [hw4]; exact (HK.out w3 HQ.out).chNo (Ch.new noRo kd w3 _ .sh))
  have HC4 := Lib.hid (show Ch noRo kd (upd kd w3.heap.size .sh) w w4 by rw [hw4]; exact (Ch.grown (grown_trans HG.out HQ.out)).trans (Ch.new noRo kd w3 _ .sh))
  have HSh4 := Lib.hid (show Sh w4 (upd kd w3.heap.size .sh) (.pointer (some ⟨w3.heap.size, 0, none⟩)) (some l) by rw [hw4]; exact Sh.new HLen.out w3 kd)
  have HOp4 := Lib.hid (fun W (g : w4.grownBy W none) => HOp.out W (grown_trans HQ.out (grown_trans (by rw [hw4]; exact World.grownBy_alloc _ _ _) g)))
  have HOpB := Lib.hid (fun W (g : w4.grownBy W none) => HOpA.out W (grown_trans HQ.out (grown_trans (by rw [hw4]; exact World.grownBy_alloc _ _ _) g)))
  clear hw4 q10 q11 HOpA
  obtain ⟨kd4, hkd4⟩ : ∃ f, upd kd w3.heap.size .sh = f := ⟨_, rfl⟩
  rw [hkd4] at HK4 HC4 HSh4
  obtain ⟨u4, hu4⟩ : ∃ u4 : Value, .pointer (some ⟨w3.heap.size, 0, none⟩) = u4 := ⟨_, rfl⟩
  rw [hu4] at HSh4
  have HV4 := Lib.hid (HK4.out.vw HOk.out HP.out)
  have HA := Lib.hid (fun W (g : w4.grownBy W none) => (HV4.out.grow g).at_ok o.addr x (by unfold atE; rw [HF.out.at_]; rfl) true (by rw [HF.out.at_]; rfl))
  have HS := Lib.hid (fun W (g : w4.grownBy W none) => And.intro (HV4.out.grow g).pa.at0 (HOp4.out W g).c2)
  have HZ := Lib.hid (show EnB (w4.alloc (.cells #[.int .i64 0, .int .i64 0, .int .i64 0, .int .i64 0, .bool false, .int .i64 0, .int .i64 0, .int .i64 0, .int .i64 0, .bool false] 50)) w4.heap.size zeroE from EnB.new w4 zeroE)
  have HGz := Lib.hid (World.grownBy_alloc w4 (.cells #[.int .i64 0, .int .i64 0, .int .i64 0, .int .i64 0, .bool false, .int .i64 0, .int .i64 0, .int .i64 0, .int .i64 0, .bool false] 50) none)
  clear HK HW3 HOp HLen hkd4
  go_wp2_with fail
  try simp only [hu4]
  clear hu4
  go_cut [9, 10] (fun v9 v10 wx => ∃ y : Nat, v9 = .pointer (some ⟨y, 0, none⟩) ∧ v10 = .bool true ∧ Hid (EnB wx y x) ∧ Hid (w4.grownBy wx none))
  case first =>
    have hk0 := HS.out _ (grown_refl w4 none)
    have hkd := HS.out (w4).drew (grown_drew1 _)
    have hkz := HS.out _ HGz.out
    have hkzd := HS.out _ (grown_trans HGz.out (grown_drew1 _))
    go_region_held3 (fun w7 => w7.cell? ⟨(h.g o.proc).b, 0, none⟩ = some (.pointer (some ⟨(h.g o.proc).m, 0, none⟩)) ∧ w7.cell? ⟨w.heap.size, 2, none⟩ = some (.int .i64 o.addr)) (first | with_reducible exact hk0 | with_reducible exact hkd | with_reducible exact hkz | with_reducible exact hkzd | with_reducible exact hk1 | with_reducible exact hk2 | with_reducible exact hk3 | fail)
      (first
        | (go_at_call 109; with_reducible refine (HA.out _ (grown_drew1 _)).mono ?_; rintro e w5 ⟨rfl, g5⟩; have HG5 := Lib.hid (grown_trans (grown_drew1 w4) g5); have hk1 := HS.out w5 HG5.out; have hk2 := HS.out _ (grown_trans HG5.out (World.grownBy_alloc w5 (.cells #[.int .i64 0, .int .i64 0, .int .i64 0, .int .i64 0, .bool false, .int .i64 0, .int .i64 0, .int .i64 0, .int .i64 0, .bool false] 50) none)); have hk3 := HS.out _ (grown_trans HG5.out (World.grownBy_alloc w5 (.cells #[.int .i64 x.s, .int .i64 x.e, .int .i64 x.f, .int .i64 x.o, .bool x.sh, .int .i64 x.p, .int .i64 x.m, .int .i64 x.i, .int .i64 x.a, .bool x.wi] 50) none)); clear g5)
        | (go_at_call 109; with_reducible refine (HA.out _ (grown_trans HGz.out (grown_drew1 _))).mono ?_; rintro e w5 ⟨rfl, g5⟩; have HG5 := Lib.hid (grown_trans (grown_trans HGz.out (grown_drew1 _)) g5); have hz5 := (HZ.out.grow (grown_drew1 _)).grow g5; have HZ5 := Lib.hid (set10_box hz5 x); have HG6 := Lib.hid (grown_at HG5.out (set10_grown w5 (w4).heap.size x) (Nat.le_refl _)); have hk1 := HS.out w5 HG5.out; have hk2 := HS.out _ HG6.out; obtain ⟨q0, q1, q2, q3, q4, q5, q6, q7, q8, q9⟩ := hz5.all; have hf := hz5.frozen; unfold set10 at HZ5 HG6 hk2; unfold zeroE at q0 q1 q2 q3 q4 q5 q6 q7 q8 q9; clear g5 hz5)
        | fail)
    all_goals
      go_wp2_with fail
      go_meet
      case rel =>
        first
          | exact ⟨_, rfl, rfl, HZ5, HG6⟩
          | exact ⟨_, rfl, rfl, Lib.hid (EnB.new w5 x), Lib.hid (grown_trans HG5.out (World.grownBy_alloc _ _ _))⟩
  case rest =>
    obtain ⟨y, rfl, rfl, HE, HGc⟩ := hcut
    clear HZ HGz HA HS
    have HKc := Lib.hid (HK4.out.grow HGc.out)
    have HCc := Lib.hid (HC4.out.trans (Ch.grown (R := noRo) HGc.out))
    have HShc := Lib.hid (HSh4.out.ch (R := noRo) (Ch.grown HGc.out) (no_ro _))
    have HPg := Lib.hid (HV4.out.pg HF.out.at_)
    clear HK4 HC4 HSh4 HV4
    have e4 := HE.out.all.2.2.2.2.1
    rw [HSH.out] at e4
    have ho2 := (HOp4.out wc HGc.out).c2
    obtain ⟨q4, rfl, -⟩ := HShc.out.form
    have HSl := Lib.hid (slotAt_ok HKc.out.bw HP.out HOk.out.nx (HOk.out.pi _ (geA_some HP.out)).al (pg := o.addr) ⟨by have := HPg.out.spot; omega, by have := HPg.out.spot; omega⟩)
    go_wp2_with fail
    refine HSl.out.mono ?_
    rintro e w5 ⟨kd5, ι5, sp5, rfl, hD⟩
    have hsl := hD.hb.at
    have hslf := frozen_of_row _ _ 0 _ _ hD.hb.hb
    have hhp := heap_setCell_same w5 _ 0 _ _ (.pointer q4) hD.hb.hb
    have hch5 := hD.ch
    have hSh5 := (HShc.out.ch hch5 (by simp)).ch (R := fun ρ => ρ = .w t (.sl (slotF p S.c S.nx o.addr).s)) (Ch.one (grown_set w5 _ 0 (.pointer q4)) hD.hb.ks) (by simp)
    obtain ⟨hbw6, hch6⟩ := hD.bw.slot_set (u := .pointer q4) (b := some l) hhp hD.hb.ks hSh5 (grown_set w5 _ 0 (.pointer q4))
    have HD := Lib.hid (show Dn t r kd w (w5.setCell ⟨ι5 (slotF p S.c S.nx o.addr).s, 0, none⟩ (.pointer q4)) { S with ps := setP S.ps o.proc (slotF p S.c S.nx o.addr).p, c := upd (slotF p S.c S.nx o.addr).c (slotF p S.c S.nx o.addr).s (some l), nx := (slotF p S.c S.nx o.addr).nx } from
      ⟨kd5, { h with ι := ι5, sp := upd sp5 (slotF p S.c S.nx o.addr).s (.pointer q4) }, ⟨by
        have hw5 := (HKc.out.hw.ch hch5 (by simp) (by simp) (by simp) (by simp) (by simp)).ch hch6 (by simp) (by simp) (by simp) (by simp) (by simp)
        exact ⟨hw5.head, hw5.kr, hw5.sz, hw5.kz, hw5.fm, hw5.kf, hw5.fs, hw5.lm, hw5.kl, hw5.ls⟩, by
        have hpm := (HKc.out.pm.ch hch5 (by simp)).ch hch6 (by simp)
        simp only [setP_ids]
        exact ⟨hpm.pm, hpm.kp⟩, hbw6⟩, ((HCc.out.mono fun _ e => (no_ro _ e).elim).trans (hch5.mono own_mono)).trans (hch6.mono own_mono)⟩)
    generalize ι5 (slotF p S.c S.nx o.addr).s = gs at *
    clear hD hhp hch5 hSh5 hbw6 hch6 HKc HCc HShc HPg HE HF HOp4 HSl HOpB
    go_wp2_with fail
    go_ret
    exact ⟨rfl, HD.out⟩
end
end Go.Proofs.YtefiiooibbkffaaGreat
