/- Layer 17 (landed): whether a page's bytes may be reached. Layer 17 (landed): a byte that is loaded. Layer 17 (landed): a process's slots turn: what stays, what is new. -/
import Derived.Test.YtefiiooibbkffaaGreatFlMa
import Derived.Test.YtefiiooibbkffaaGreatPBits
import Derived.Deep.CutBlock
import Derived.Deep.DeepCutAuto
namespace Go.Proofs.YtefiiooibbkffaaGreat
open Go.ChangeShapes Go.WideShapes Go.ChangeAt Go.RowKit Go.Deep Go.Sort
set_option linter.unusedVariables false
set_option linter.unusedSimpArgs false

theorem can_and {x : En} {right : Int} (h : GoodE x) (hr : right = 1 ∨ right = 2) : (bits .and .i64 x.p right == 0) = !canB x.p right := by
  have h1 := h.pm
  unfold fitsB at h1
  simp only [Bool.and_eq_true, decide_eq_true_eq] at h1
  generalize x.p = p at *
  have h2 : p = 0 ∨ p = 1 ∨ p = 2 ∨ p = 3 ∨ p = 4 ∨ p = 5 ∨ p = 6 ∨ p = 7 := by omega
  clear h1 h
  rcases h2 with rfl | rfl | rfl | rfl | rfl | rfl | rfl | rfl <;> rcases hr with rfl | rfl <;> decide
section
variable {w w' : World} {kd : Nat → Ro} {t r : Nat} {h : Gh} {S : Fl} {G : PG} {id : Int} {p : Pr}
def reachU (h : Gh) (S : Fl) (p : Pr) (pg right : Int) (may : Bool) : Value := if (S.reach p pg right may).2 = 0 then lookU h S p pg else .pointer none
set_option maxHeartbeats 2000000 in
theorem reach_ok (k : Vw w kd t r h S G id p) (o : FOp) (right : Int) (hr : right = 1 ∨ right = 2) (may : Bool) :
    Calls Tryz.prog 125 #[.pointer (some ⟨r, 0, none⟩), .pointer (some ⟨G.b, 0, none⟩), .agg #[.int .i64 o.k, .int .i64 o.proc, .int .i64 o.addr, .int .i64 o.n, .int .i64 o.prot, .bool o.sh, .int .i64 o.file, .int .i64 o.off, .bool o.fixed, .int .i64 o.how, .int .i64 o.ati, .int .i64 o.v, .int .i64 o.hd, .int .i64 o.to], .int .i64 right, .bool may] w fun e w' => e = .returned (.tuple #[reachU h S p o.addr right may, .int .i64 (S.reach p o.addr right may).2]) ∧ w.grownBy w' none := by
  have ga := World.grownBy_alloc w (.cells #[.int .i64 o.k, .int .i64 o.proc, .int .i64 o.addr, .int .i64 o.n, .int .i64 o.prot, .bool o.sh, .int .i64 o.file, .int .i64 o.off, .bool o.fixed, .int .i64 o.how, .int .i64 o.ati, .int .i64 o.v, .int .i64 o.hd, .int .i64 o.to] 34) none
  have hB := OpB.new w o
  generalize hwB : w.alloc (.cells #[.int .i64 o.k, .int .i64 o.proc, .int .i64 o.addr, .int .i64 o.n, .int .i64 o.prot, .bool o.sh, .int .i64 o.file, .int .i64 o.off, .bool o.fixed, .int .i64 o.how, .int .i64 o.ati, .int .i64 o.v, .int .i64 o.hd, .int .i64 o.to] 34) = wB at *
  have kB := k.grow ga
  have c0 := kB.pa.at0
  obtain ⟨x, hx⟩ : ∃ x, atE p.L o.addr = x := ⟨_, rfl⟩
  obtain ⟨d, hd⟩ : ∃ d, (atV p.L o.addr).isSome = d := ⟨_, rfl⟩
  have HA := Lib.hid (fun W (g : wB.grownBy W none) => (kB.grow g).at_ok o.addr x hx d hd)
  have HL := Lib.hid (fun W (g : wB.grownBy W none) => look_ok17 (kB.grow g) o.addr)
  have HS := Lib.hid (fun W (g : wB.grownBy W none) => And.intro (g.cell c0 (by simp)) (hB.grow g).at.c2)
  have HG := Lib.hid ga
  have hk0 := HS.out wB (grown_refl _ _)
  have HZ := Lib.hid (show EnB (wB.alloc (.cells #[.int .i64 0, .int .i64 0, .int .i64 0, .int .i64 0, .bool false, .int .i64 0, .int .i64 0, .int .i64 0, .int .i64 0, .bool false] 50)) wB.heap.size zeroE from EnB.new wB zeroE)
  have HGz := Lib.hid (World.grownBy_alloc wB (.cells #[.int .i64 0, .int .i64 0, .int .i64 0, .int .i64 0, .bool false, .int .i64 0, .int .i64 0, .int .i64 0, .int .i64 0, .bool false] 50) none)
  have hfin : (may = false ∧ (S.reach p o.addr right may).2 = 2 ∧ reachU h S p o.addr right may = .pointer none) ∨ (may = true ∧ d = false ∧ (S.reach p o.addr right may).2 = 4 ∧ reachU h S p o.addr right may = .pointer none) ∨ (may = true ∧ d = true ∧ (canB x.p right = false ∧ GoodE x) ∧ (S.reach p o.addr right may).2 = 3 ∧ reachU h S p o.addr right may = .pointer none) ∨ (may = true ∧ d = true ∧ canB x.p right = true ∧ GoodE x ∧ (S.reach p o.addr right may).2 = (S.look p o.addr).2 ∧ reachU h S p o.addr right may = lookU h S p o.addr) := by
    have hnil : (S.look p o.addr).2 ≠ 0 → lookU h S p o.addr = .pointer none := by
      unfold Fl.look lookU
      cases atV p.L o.addr with
      | none => intro _; rfl
      | some e => simp only; cases S.means p e o.addr <;> simp
    unfold reachU Fl.reach
    cases may with
    | false => exact .inl ⟨rfl, by simp, by simp⟩
    | true =>
      cases hat : atV p.L o.addr with
      | none => rw [hat] at hd; exact .inr (.inl ⟨by simp, hd.symm, by simp, by simp⟩)
      | some e =>
        have : e = x := by rw [← hx]; unfold atE; rw [hat]; rfl
        subst this
        rw [hat] at hd
        simp only [if_true]
        cases hc : canB e.p right with
        | false => exact .inr (.inr (.inl ⟨by simp, hd.symm, ⟨rfl, (k.pg hat).good⟩, by simp, by simp⟩))
        | true =>
          refine .inr (.inr (.inr ⟨by simp, hd.symm, rfl, (k.pg hat).good, by simp, ?_⟩))
          simp only [if_true]
          by_cases h0 : (S.look p o.addr).2 = 0
          · rw [if_pos h0]
          · rw [if_neg h0, hnil h0]
  have HFin := Lib.hid hfin
  generalize (S.reach p o.addr right may).2 = er at *
  generalize reachU h S p o.addr right may = ur at *
  generalize lookU h S p o.addr = lu at *
  generalize (S.look p o.addr).2 = ln at *
  clear k ga hB kB hx hd hfin c0
  go_enter Tryz.func125, Tryz.ntmps125
  go_upto_region 1 with fail
  go_cut [12, 13] (fun v12 v13 wx => ∃ y : Nat, v12 = .pointer (some ⟨y, 0, none⟩) ∧ v13 = .bool d ∧ Hid (EnB wx y x) ∧ Hid (wB.grownBy wx none))
  case first =>
    have hkd := HS.out wB.drew (grown_drew1 wB)
    have hkz := HS.out _ HGz.out
    have hkzd := HS.out _ (grown_trans HGz.out (grown_drew1 _))
    go_region_held3 (fun w7 => w7.cell? ⟨G.b, 0, none⟩ = some (.pointer (some ⟨G.m, 0, none⟩)) ∧ w7.cell? ⟨w.heap.size, 2, none⟩ = some (.int .i64 o.addr)) (first | with_reducible exact hk0 | with_reducible exact hkd | with_reducible exact hkz | with_reducible exact hkzd | with_reducible exact hk1 | with_reducible exact hk2 | with_reducible exact hk3 | fail)
      (first
        | (go_at_call 109; with_reducible refine (HA.out _ (grown_drew1 wB)).mono ?_; rintro e w5 ⟨rfl, g5⟩; have HG5 := Lib.hid (grown_trans (grown_drew1 wB) g5); have hk1 := HS.out w5 HG5.out; have hk2 := HS.out _ (grown_trans HG5.out (World.grownBy_alloc w5 (.cells #[.int .i64 0, .int .i64 0, .int .i64 0, .int .i64 0, .bool false, .int .i64 0, .int .i64 0, .int .i64 0, .int .i64 0, .bool false] 50) none)); have hk3 := HS.out _ (grown_trans HG5.out (World.grownBy_alloc w5 (.cells #[.int .i64 x.s, .int .i64 x.e, .int .i64 x.f, .int .i64 x.o, .bool x.sh, .int .i64 x.p, .int .i64 x.m, .int .i64 x.i, .int .i64 x.a, .bool x.wi] 50) none)); clear g5)
        | (go_at_call 109; with_reducible refine (HA.out _ (grown_trans HGz.out (grown_drew1 _))).mono ?_; rintro e w5 ⟨rfl, g5⟩; have HG5 := Lib.hid (grown_trans (grown_trans HGz.out (grown_drew1 _)) g5); have hz5 := (HZ.out.grow (grown_drew1 _)).grow g5; have HZ5 := Lib.hid (set10_box hz5 x); have HG6 := Lib.hid (grown_at HG5.out (set10_grown w5 wB.heap.size x) (Nat.le_refl _)); have hk1 := HS.out w5 HG5.out; have hk2 := HS.out _ HG6.out; obtain ⟨q0, q1, q2, q3, q4, q5, q6, q7, q8, q9⟩ := hz5.all; have hf := hz5.frozen; unfold set10 at HZ5 HG6 hk2; unfold zeroE at q0 q1 q2 q3 q4 q5 q6 q7 q8 q9; clear g5 hz5)
        | fail)
    all_goals
      go_wp2_with fail
      go_meet
      case rel =>
        first
          | exact ⟨_, rfl, rfl, HZ5, HG6⟩
          | exact ⟨_, rfl, rfl, Lib.hid (EnB.new w5 x), Lib.hid (grown_trans HG5.out (World.grownBy_alloc _ _ _))⟩
  case rest =>
    obtain ⟨y, rfl, rfl, HE, HGc⟩ := hcut
    clear hk0 HZ HGz
    have hE := HE.out.all
    obtain ⟨e0, e1, e2, e3, e4, e5, e6, e7, e8, e9⟩ := hE
    have HG3 := Lib.hid (grown_trans HG.out HGc.out)
    obtain ⟨s0, s2⟩ := HS.out wc HGc.out
    have HL2 := Lib.hid (HL.out wc HGc.out)
    clear HS HL HA HE
    rcases HFin.out with ⟨rfl, rfl, rfl⟩ | ⟨rfl, rfl, rfl, rfl⟩ | ⟨rfl, rfl, hcn, rfl, rfl⟩ | ⟨rfl, rfl, hcn, hgd, rfl, rfl⟩
    · clear HFin
      go_wp2_with fail
      go_ret2
      exact ⟨rfl, HG3.out⟩
    · clear HFin
      go_wp2_with fail
      go_ret2
      exact ⟨rfl, HG3.out⟩
    · obtain ⟨hcn, hgd⟩ := hcn
      have hb := can_and hgd hr
      rw [hcn] at hb
      clear HFin hcn hgd
      go_wp2_with fail
      go_ret2
      exact ⟨rfl, HG3.out⟩
    · have hb := can_and hgd hr
      rw [hcn] at hb
      clear HFin hcn hgd
      go_wp2_with fail
      refine HL2.out.mono ?_
      rintro e w3 ⟨rfl, g3⟩
      have HG4 := Lib.hid (grown_trans HG3.out g3)
      clear g3
      go_wp2_with fail
      go_ret2
      exact ⟨rfl, HG4.out⟩
end
end Go.Proofs.YtefiiooibbkffaaGreat

namespace Go.Proofs.YtefiiooibbkffaaGreat
open Go.ChangeShapes Go.WideShapes Go.ChangeAt Go.RowKit Go.Deep Go.Sort
set_option linter.unusedVariables false
set_option linter.unusedSimpArgs false

theorem sheetAt_any {w : World} {kd : Nat → Ro} {u : Value} {b : Option (List UInt8)} (h : Sh w kd u b) (i : Int) (hi : b ≠ none → isAtB i = true) :
    Calls Tryz.prog 59 #[u, .int .i64 i] w fun e w' => e = .returned (.int .i64 (atB b i)) ∧ w' = w := by
  cases b with
  | some l => exact sheetAt_ok h i (hi (by simp))
  | none =>
    rcases h with ⟨rfl, -⟩ | ⟨g, l, -, h2, -⟩
    · unfold atB
      clear hi
      go_enter Tryz.func59, Tryz.ntmps59
      go_wp2_with fail
      go_ret
      exact ⟨rfl, rfl⟩
    · cases h2
section
variable {w w' : World} {kd : Nat → Ro} {t r : Nat} {h : Gh} {S : Fl} {G : PG} {id : Int} {p : Pr}
theorem sh_if {u : Value} {P : Option (List UInt8) × Int} (h1 : P.2 = 0 → Sh w kd u P.1) (h2 : P.2 ≠ 0 → P.1 = none) : Sh w kd (if P.2 = 0 then u else .pointer none) P.1 := by
  by_cases h : P.2 = 0
  · rw [if_pos h]; exact h1 h
  · rw [if_neg h, h2 h]; exact Sh.none_ _ _
theorem look_no (S : Fl) (p : Pr) (pg : Int) : (S.look p pg).2 ≠ 0 → (S.look p pg).1 = none := by
  unfold Fl.look
  cases atV p.L pg with
  | none => intro _; rfl
  | some e => simp only; cases S.means p e pg <;> simp
theorem reach_no (S : Fl) (p : Pr) (pg right : Int) (may : Bool) : (S.reach p pg right may).2 ≠ 0 → (S.reach p pg right may).1 = none := by
  unfold Fl.reach
  split
  · split
    · split
      · exact look_no S p pg
      · intro _; rfl
    · intro _; rfl
  · intro _; rfl
theorem reach_yes {S : Fl} {p : Pr} {pg right : Int} {may : Bool} : (S.reach p pg right may).2 = 0 → S.reach p pg right may = S.look p pg := by
  unfold Fl.reach
  split
  · split
    · split
      · intro _; rfl
      · intro h; cases h
    · intro h; cases h
  · intro h; cases h
theorem Vw.reachU (k : Vw w kd t r h S G id p) (pg right : Int) (may : Bool) : Sh w kd (reachU h S p pg right may) (S.reach p pg right may).1 :=
  sh_if (fun h0 => by rw [reach_yes h0]; exact k.lookU pg) (reach_no S p pg right may)
theorem reach_may {S : Fl} {p : Pr} {pg right : Int} {may : Bool} (h : (S.reach p pg right may).1 ≠ none ∨ (S.reach p pg right may).2 = 0) : may = true := by
  cases may with
  | true => rfl
  | false => unfold Fl.reach at h; simp at h
set_option maxHeartbeats 1000000 in
theorem load_ok (k : Vw w kd t r h S G id p) (o : FOp) :
    Calls Tryz.prog 72 #[.pointer (some ⟨r, 0, none⟩), .pointer (some ⟨G.b, 0, none⟩), .agg #[.int .i64 o.k, .int .i64 o.proc, .int .i64 o.addr, .int .i64 o.n, .int .i64 o.prot, .bool o.sh, .int .i64 o.file, .int .i64 o.off, .bool o.fixed, .int .i64 o.how, .int .i64 o.ati, .int .i64 o.v, .int .i64 o.hd, .int .i64 o.to]] w fun e w' => e = .returned (.tuple #[.int .i64 (S.load p o).n, .int .i64 (S.load p o).e]) ∧ w.grownBy w' none := by
  have ga := World.grownBy_alloc w (.cells #[.int .i64 o.k, .int .i64 o.proc, .int .i64 o.addr, .int .i64 o.n, .int .i64 o.prot, .bool o.sh, .int .i64 o.file, .int .i64 o.off, .bool o.fixed, .int .i64 o.how, .int .i64 o.ati, .int .i64 o.v, .int .i64 o.hd, .int .i64 o.to] 34) none
  have hB := OpB.new w o
  generalize hwB : w.alloc (.cells #[.int .i64 o.k, .int .i64 o.proc, .int .i64 o.addr, .int .i64 o.n, .int .i64 o.prot, .bool o.sh, .int .i64 o.file, .int .i64 o.off, .bool o.fixed, .int .i64 o.how, .int .i64 o.ati, .int .i64 o.v, .int .i64 o.hd, .int .i64 o.to] 34) = wB at *
  have kB := k.grow ga
  obtain ⟨c0, c1, c2, c3, c4, c5, c6, c7, c8, c9, c10, c11, c12, c13⟩ := hB.at
  have hc1 := Calls.regrown_g (w := wB) fun W _ => (isAt_ok W o.ati).mono fun e w' ⟨he, hw⟩ => ⟨he, by rw [hw]; exact grown_refl _ _⟩
  have hc2 := Calls.regrown_g (w := wB) fun W g => reach_ok (kB.grow g) o 1 (.inl rfl) (isAtB o.ati)
  have HSh := Lib.hid (fun W (g : wB.grownBy W none) => sheetAt_any ((kB.grow g).reachU o.addr 1 (isAtB o.ati)) o.ati fun hn => reach_may (.inl hn))
  have HG := Lib.hid ga
  show Calls _ _ _ _ fun e w' => e = .returned (.tuple #[.int .i64 (atB (S.reach p o.addr 1 (isAtB o.ati)).1 o.ati), .int .i64 (S.reach p o.addr 1 (isAtB o.ati)).2]) ∧ w.grownBy w' none
  generalize atB (S.reach p o.addr 1 (isAtB o.ati)).1 o.ati = n at *
  generalize (S.reach p o.addr 1 (isAtB o.ati)).2 = er at *
  generalize reachU h S p o.addr 1 (isAtB o.ati) = u at *
  generalize isAtB o.ati = d at *
  have r0 := cell_regrown c0
  have r1 := cell_regrown c1
  have r2 := cell_regrown c2
  have r3 := cell_regrown c3
  have r4 := cell_regrown c4
  have r5 := cell_regrown c5
  have r6 := cell_regrown c6
  have r7 := cell_regrown c7
  have r8 := cell_regrown c8
  have r9 := cell_regrown c9
  have r10 := cell_regrown c10
  have r11 := cell_regrown c11
  have r12 := cell_regrown c12
  have r13 := cell_regrown c13
  have HC := Lib.hid c10
  clear k kB ga hB c0 c1 c2 c3 c4 c5 c6 c7 c8 c9 c10 c11 c12 c13
  go_enter Tryz.func72, Tryz.ntmps72
  go_upto_region 1 with fail
  refine wp_region_quiet_below (by kernel_rfl) (by kernel_rfl) ?_
  repeat (go_big_quiet_step (first | exact hc1 _ _ | exact hc2 _ _ | fail))
  refine wpQuiet_nil ?_
  intro _ hw'
  obtain ⟨⟨dq, osq⟩, hw''⟩ := hw'
  subst hw''
  have HQ := Lib.hid (regrown_grown wB dq osq)
  clear r0 r1 r2 r3 r4 r5 r6 r7 r8 r9 r10 r11 r12 r13 hc1 hc2
  generalize grow (redrawn wB dq) osq = w3 at *
  have HS3 := Lib.hid (HSh.out w3 HQ.out)
  have q10 := HQ.out.cell HC.out (by simp)
  clear HSh HC
  go_wp2_with fail
  refine HS3.out.mono ?_
  rintro e w4 ⟨rfl, e4⟩
  subst e4
  go_wp2_with fail
  go_ret2
  exact ⟨rfl, grown_trans HG.out HQ.out⟩
end
end Go.Proofs.YtefiiooibbkffaaGreat

namespace Go.Proofs.YtefiiooibbkffaaGreat
open Go.ChangeShapes Go.WideShapes Go.ChangeAt Go.RowKit Go.Deep Go.Sort
open Go.Maps (Keyed)
set_option linter.unusedVariables false
set_option linter.unusedSimpArgs false

theorem setP_ids (qs : List (Int × Pr)) (id : Int) (p : Pr) : (setP qs id p).map (·.1) = qs.map (·.1) := by
  unfold setP
  rw [List.map_map]
  refine List.map_congr_left fun q _ => ?_
  by_cases h : q.1 = id
  · simp [h]
  · simp [h]
theorem mem_setP {qs : List (Int × Pr)} {id : Int} {p : Pr} {q : Int × Pr} (h : q ∈ setP qs id p) : (q.1 ≠ id ∧ q ∈ qs) ∨ q = (id, p) := by
  unfold setP at h
  obtain ⟨y, hy, rfl⟩ := List.mem_map.1 h
  by_cases e : y.1 = id
  · rw [if_pos e]; exact .inr rfl
  · rw [if_neg e]; exact .inl ⟨e, hy⟩
theorem geA_setP (qs : List (Int × Pr)) (id : Int) (p : Pr) (x : Int) : geA (setP qs id p) x = if x = id then (geA qs id).map fun _ => p else geA qs x := by
  induction qs with
  | nil => simp [setP, geA_nil]
  | cons q qs ih =>
    obtain ⟨k, a⟩ := q
    unfold setP at ih ⊢
    rw [List.map_cons]
    by_cases h : k = id
    · subst h
      simp only [if_true]
      rw [geA_cons, geA_cons, geA_cons, ih]
      by_cases e : x = k
      · subst e; simp
      · have e2 : ¬ k = x := fun h => e h.symm
        simp [e, e2]
    · rw [if_neg h, geA_cons, geA_cons, geA_cons, ih]
      by_cases e : x = id
      · subst e
        simp [h]
      · by_cases e2 : k = x
        · simp [e, e2]
        · simp [e, e2]
theorem setP_same (qs : List (Int × Pr)) {id : Int} {p : Pr} (hn : (qs.map (·.1)).Nodup) (h : geA qs id = some p) : setP qs id p = qs := by
  unfold setP
  conv => rhs; rw [← List.map_id qs]
  refine List.map_congr_left fun q hq => ?_
  by_cases e : q.1 = id
  · rw [if_pos e]
    have := geA_mem hn (show (q.1, q.2) ∈ qs from hq)
    rw [e, h] at this
    obtain ⟨a, b⟩ := q
    simp only [Option.some.injEq] at this e ⊢
    rw [e, this]
    rfl
  · rw [if_neg e]; rfl
theorem setP_setP (qs : List (Int × Pr)) (id : Int) (p p' : Pr) : setP (setP qs id p) id p' = setP qs id p' := by
  unfold setP
  rw [List.map_map]
  refine List.map_congr_left fun q _ => ?_
  by_cases e : q.1 = id
  · simp [e]
  · simp [e]
section
variable {R : Ro → Prop} {w w' : World} {kd kd' : Nat → Ro} {t : Nat} {G : PG} {id : Int} {ι ι' : Nat → Nat} {p : Pr} {g : Int → PG} {sp : Nat → Value} {c : Nat → Option (List UInt8)} {qs : List (Int × Pr)}
theorem PAt.iota (h : PAt w kd t G id ι p) (hi : ∀ a, a ∈ p.A → ι' a.2 = ι a.2) : PAt w kd t G id ι' p :=
  ⟨h.hb, h.kb, h.vm, h.km, h.kv, by
    have e : (p.A.map fun a => (a.1, Value.pointer (some ⟨ι' a.2, 0, none⟩))) = p.A.map fun a => (a.1, Value.pointer (some ⟨ι a.2, 0, none⟩)) := List.map_congr_left fun a ha => by rw [hi a ha]
    rw [e]; exact h.sm, h.ks⟩
/-- A slot has other bytes. -/
theorem BW.slot_set (k : BW w kd t g ι sp c qs) {s : Nat} {u : Value} {b : Option (List UInt8)} (hu : w'.heap[ι s]? = some (.cells #[u] 158 (0, 0))) (hk : kd (ι s) = .w t (.sl s)) (hs : Sh w' kd u b) (hg : w.grownBy w' (some (ι s))) :
    BW w' kd t g ι (upd sp s u) (upd c s b) qs ∧ Ch (fun ρ => ρ = .w t (.sl s)) kd kd w w' := by
  have hch : Ch (fun ρ => ρ = .w t (.sl s)) kd kd w w' := Ch.one hg hk
  refine ⟨⟨k.nd, fun q hq => (k.pr q hq).ch hch (by simp) (by simp) (by simp) (by simp), fun q hq a ha => ?_⟩, hch⟩
  unfold upd
  by_cases e : a.2 = s
  · rw [if_pos e, if_pos e, e]
    exact ⟨hk, hu, hs⟩
  · rw [if_neg e, if_neg e]
    exact (k.sl q hq a ha).ch hch (by simp) (by simpa using e)
/-- A process has one slot more. -/
theorem BW.slot_new (k : BW w kd t g ι sp c qs) {p : Pr} (hp : geA qs id = some p) {nx : Nat} (hnx : ∀ q, q ∈ qs → ∀ a, a ∈ q.2.A → a.2 < nx) {pg : Int} {u : Value} {b : Option (List UInt8)} (hS : Sh w' kd u b)
    (hw : w.grownBy w' (some (g id).sm)) {n : Nat} (hn : w.heap.size ≤ n) (hu : w'.heap[n]? = some (.cells #[u] 158 (0, 0)))
    (hm : MapV Tryz.prog 3 klI okW w' (g id).sm ((pg, .pointer (some ⟨n, 0, none⟩)) :: dropV (p.A.map fun a => (a.1, .pointer (some ⟨ι a.2, 0, none⟩))) pg)) :
    BW w' (upd kd n (.w t (.sl nx))) t g (upd ι nx n) (upd sp nx u) (upd c nx b) (setP qs id ⟨p.L, puA p.A pg nx⟩) ∧ Ch (fun ρ => ρ = .w t (.sm id)) kd (upd kd n (.w t (.sl nx))) w w' := by
  have hP := k.get hp
  have hch : Ch (fun ρ => ρ = .w t (.sm id)) kd (upd kd n (.w t (.sl nx))) w w' := (Ch.one (kd := kd) hw (R := fun ρ => ρ = .w t (.sm id)) hP.ks).name fun x hx => by unfold upd; rw [if_neg (by omega)]
  have hio : ∀ q, q ∈ qs → ∀ a, a ∈ q.2.A → upd ι nx n a.2 = ι a.2 := fun q hq a ha => by unfold upd; rw [if_neg (by have := hnx q hq a ha; omega)]
  have hS' : Sh w' (upd kd n (.w t (.sl nx))) u b := by
    rcases hS with h | ⟨g', l, h1, h2, h3, h4, h5⟩
    · exact .inl h
    · refine .inr ⟨g', l, h1, h2, h3, ?_, h5⟩
      unfold upd
      by_cases e : g' = n
      · subst e
        rw [hu] at h5
        simp at h5
      · rw [if_neg e]; exact h4
  have hold : ∀ q, q ∈ qs → ∀ a, a ∈ q.2.A → SlA w' (upd kd n (.w t (.sl nx))) t (upd ι nx n a.2) a.2 (upd sp nx u a.2) (upd c nx b a.2) := fun q hq a ha => by
    rw [hio q hq a ha]
    have hlt := hnx q hq a ha
    unfold upd
    rw [if_neg (by omega), if_neg (by omega)]
    exact (k.sl q hq a ha).ch hch (by simp) (by simp)
  refine ⟨⟨by rw [setP_ids]; exact k.nd, fun q hq => ?_, fun q hq a ha => ?_⟩, hch⟩
  · rcases mem_setP hq with ⟨h1, h2⟩ | rfl
    · exact ((k.pr q h2).ch hch (by simp) (by simp) (by simp) (by simpa using h1)).iota (hio q h2)
    · refine ⟨(hch.block _ (heap_lt hP.hb) (by rw [hP.kb]; simp)).trans hP.hb, (hch.kd _ (heap_lt hP.hb)).trans hP.kb, ⟨(hch.block _ hP.vm.lt (by rw [hP.km]; simp)).trans hP.vm.head, OwnOf.kept hP.vm.own fun x hx => hch.block x (OwnOf.lt hP.vm.own hx).2 (by rw [hP.kv x hx]; simp)⟩, (hch.kd _ hP.vm.lt).trans hP.km, fun x hx => (hch.kd _ (OwnOf.lt hP.vm.own hx).2).trans (hP.kv x hx), ?_, (hch.kd _ hP.sm.lt).trans hP.ks⟩
      have e : ((puA p.A pg nx).map fun a => (a.1, Value.pointer (some ⟨upd ι nx n a.2, 0, none⟩))) = (pg, .pointer (some ⟨n, 0, none⟩)) :: dropV (p.A.map fun a => (a.1, .pointer (some ⟨ι a.2, 0, none⟩))) pg := by
        unfold puA drA dropV
        rw [List.map_cons, List.filter_map]
        congr 1
        · simp [upd]
        · refine List.map_congr_left fun a ha => ?_
          rw [hio _ (geA_some hp) a (List.mem_filter.1 ha).1]
      rw [e]
      exact hm
  · rcases mem_setP hq with ⟨h1, h2⟩ | rfl
    · exact hold q h2 a ha
    · rcases mem_puA ha with rfl | ⟨ha, -⟩
      · refine ⟨?_, ?_, ?_⟩
        · simp [upd]
        · simp only [upd, if_true]; exact hu
        · simp only [upd, if_true]; exact hS'
      · exact hold _ (geA_some hp) a ha
end
end Go.Proofs.YtefiiooibbkffaaGreat
