/- Layer 17 (landed): pages are laid into a process's map: the walks. -/
import Derived.Test.YtefiiooibbkffaaGreatFlMg
namespace Go.Proofs.YtefiiooibbkffaaGreat
open Go.ChangeShapes Go.WideShapes Go.ChangeAt Go.RowKit Go.Deep Go.Sort
set_option linter.unusedVariables false
set_option linter.unusedSimpArgs false

/-- Done, and processes' blocks are the same ones. -/
def DnG (h : Gh) (t r : Nat) (kd : Nat → Ro) (w w' : World) (S' : Fl) : Prop := ∃ kd' h', FW w' kd' t r h' S' ∧ Ch (own t) kd kd' w w' ∧ ∀ x, (h'.g x).b = (h.g x).b
section
variable {w w' : World} {kd kd' : Nat → Ro} {t r : Nat} {h : Gh} {S : Fl} {id : Int} {p : Pr}
theorem DnG.dn {S' : Fl} (d : DnG h t r kd w w' S') : Dn t r kd w w' S' := by
  obtain ⟨a, b, c, e, -⟩ := d
  exact ⟨a, b, c, e⟩
set_option maxRecDepth 100000 in
set_option maxHeartbeats 16000000 in
theorem lay_an (k : FW w kd t r h S) (hok : SOk S) {o1 o2 o3 o4 o5 ofile ooff o10 o11 o12 o13 o14 : Int} {ofix : Bool} (h3 : okI o3) (h4 : okI o4) (h5 : okI o5) (hp : geA S.ps id = some p) (hm1 : (decide (ofile > 0) && !hasF S.sz ofile) = false) (hm2 : (decide (ofile = 0) && decide (ooff ≠ 0)) = false) (hf : ofile < 0)
    (d : Did) (hd : mapV p.L o3 ⟨0, o4, ofile, ooff, false, o5, 7, 0, 0, false⟩ ofix = d) (hok2 : d.err = 0 → SOk (S.did2 id p d (max S.reg (ofile)))) (hgd : d.err = 0 → ∀ x, x ∈ d.gone → GoodE x ∧ x.f ≤ 1000000000) (hlen : p.L.length ≤ 790) :
    Calls Tryz.prog 66 #[.pointer (some ⟨r, 0, none⟩), .pointer (some ⟨(h.g id).b, 0, none⟩), .agg #[.int .i64 o1, .int .i64 o2, .int .i64 o3, .int .i64 o4, .int .i64 o5, .bool false, .int .i64 ofile, .int .i64 ooff, .bool ofix, .int .i64 o10, .int .i64 o11, .int .i64 o12, .int .i64 o13, .int .i64 o14]] w fun e w' => (d.err ≠ 0 ∧ e = .returned (.tuple #[.int .i64 0, .int .i64 d.err]) ∧ DnG h t r kd w w' S) ∨ (d.err = 0 ∧ e = .returned (.tuple #[.int .i64 d.n, .int .i64 0]) ∧ DnG h t r kd w w' ((S.did2 id p d (max S.reg (ofile))).forget d.gone)) := by
  have hpm := geA_some hp
  have hPI := hok.pi _ hpm
  have hr0 := hok.r0
  have hr1 := hok.r1
  have ga := World.grownBy_alloc w (.cells #[.int .i64 o1, .int .i64 o2, .int .i64 o3, .int .i64 o4, .int .i64 o5, .bool false, .int .i64 ofile, .int .i64 ooff, .bool ofix, .int .i64 o10, .int .i64 o11, .int .i64 o12, .int .i64 o13, .int .i64 o14] 34) none
  have hB := OpB.new w (⟨o1, o2, o3, o4, o5, false, ofile, ooff, ofix, o10, o11, o12, o13, o14⟩ : FOp)
  simp only at hB
  generalize hwB : w.alloc (.cells #[.int .i64 o1, .int .i64 o2, .int .i64 o3, .int .i64 o4, .int .i64 o5, .bool false, .int .i64 ofile, .int .i64 ooff, .bool ofix, .int .i64 o10, .int .i64 o11, .int .i64 o12, .int .i64 o13, .int .i64 o14] 34) = wB at *
  have kB := k.grow ga
  have hc1 := Calls.regrown_g (w := wB) fun W _ => has_at k hok ofile W
  obtain ⟨k0, k1, k2, k3, k4⟩ := kB.hw.at
  have c6 := hB.at.c6
  simp only at c6
  have r6 := cell_regrown c6
  have r1 := cell_regrown k1
  have r2 := cell_regrown k2
  have HK := Lib.hid (fun W (g : wB.grownBy W none) => k.grow (grown_trans ga g))
  have HO := Lib.hid (fun W (g : wB.grownBy W none) => hB.grow g)
  have HG := Lib.hid ga
  have HPI := Lib.hid hPI
  have HP := Lib.hid hp
  have HOk2 := Lib.hid hok2
  have HGd := Lib.hid hgd
  have HD := Lib.hid hd
  have HDid := Lib.hid (map_did hPI.mp o3 ⟨0, o4, ofile, ooff, false, o5, 7, 0, 0, false⟩ ofix)
  rw [hd] at HDid
  have HK0 := Lib.hid k
  clear hpm hPI hd hok2 hgd ga hB kB k0 k1 k2 k3 k4 c6 k hp
  have bf : decide (ofile > 0) = false := decide_eq_false (by omega)
  have be : (ofile == 0) = false := by simpa using (show ¬ ofile = 0 by omega)
  rw [show hasF S.sz ofile = false by unfold hasF; rw [decide_eq_false (show ¬ 0 < ofile by omega)]; rfl] at hc1
  clear hm1 hm2 hok
  go_enter Tryz.func66, Tryz.ntmps66
  go_upto_region 1 with fail
  refine wp_region_quiet_below (by kernel_rfl) (by kernel_rfl) ?_
  repeat (go_big_quiet_step (first | exact hc1 _ _ | fail))
  refine wpQuiet_nil ?_
  intro _ hw'
  obtain ⟨⟨dq, osq⟩, hw''⟩ := hw'
  subst hw''
  have HQ := Lib.hid (regrown_grown wB dq osq)
  clear r1 r2 r6 hc1
  generalize grow (redrawn wB dq) osq = w3 at *
  have HK3 := Lib.hid (HK.out w3 HQ.out)
  obtain ⟨c0, c1, c2, c3, c4, c5, c6, c7, c8, c9, c10, c11, c12, c13⟩ := (HO.out w3 HQ.out).at
  simp only at c0 c1 c2 c3 c4 c5 c6 c7 c8 c9 c10 c11 c12 c13
  have q5 := fun ob : Obj => (HO.out _ (grown_trans HQ.out (World.grownBy_alloc w3 ob none))).at.c5
  have q6 := fun ob : Obj => (HO.out _ (grown_trans HQ.out (World.grownBy_alloc w3 ob none))).at.c6
  have q4 := fun ob : Obj => (HK.out _ (grown_trans HQ.out (World.grownBy_alloc w3 ob none))).hw.at.2.2.2.2
  simp only at q5 q6
  go_upto_region 10 with fail
  obtain ⟨w4, hw4⟩ : ∃ w4, w3.alloc (.cells #[.int .i64 0, .int .i64 o4, .int .i64 (ofile), .int .i64 ooff, .bool false, .int .i64 o5, .int .i64 7, .int .i64 0, .int .i64 0, .bool false] 50) = w4 := ⟨_, rfl⟩
  have hE4 := EnB.new w3 ⟨0, o4, ofile, ooff, false, o5, 7, 0, 0, false⟩
  simp only at hE4
  rw [hw4] at hE4
  have g34 : w3.grownBy w4 none := by rw [← hw4]; exact World.grownBy_alloc _ _ _
  have HE4 := Lib.hid hE4
  have HQ4 := Lib.hid (grown_trans HQ.out g34)
  clear hE4 g34 c0 c1 c2 c3 c4 c5 c6 c7 c8 c9 c10 c11 c12 c13 q4 q5 q6 HK3
  try simp only [hw4]
  try clear hw4
  have HY := Lib.hid (show w.heap.size ≤ w3.heap.size from (grown_trans HG.out HQ.out).size)
  generalize w3.heap.size = y at *
  have HS := Lib.hid (fun W (g : w4.grownBy W none) => And.intro ((HK.out W (grown_trans HQ4.out g)).bw.get HP.out).at0 (And.intro (HO.out W (grown_trans HQ4.out g)).at.c2 (And.intro (HO.out W (grown_trans HQ4.out g)).at.c8 (HE4.out.grow g).all)))
  simp only at HS
  have HMap := Lib.hid (fun W (g : w4.grownBy W none) => map_ok ((HK.out W (grown_trans HQ4.out g)).bw.get HP.out).vm HPI.out.mp (by omega) o3 ⟨0, o4, ofile, ooff, false, o5, 7, 0, 0, false⟩ ofix h3 ⟨okS (x := 0) (by decide) (by decide), h4, ⟨h5, okS (x := 7) (by decide) (by decide)⟩⟩)
  simp only at HMap
  rw [HD.out] at HMap
  have HS5 := Lib.hid (show ∀ W, w4.grownBy W none → ∀ W', Turn ((h.g id).m :: blkL (h.g id).v) W W' → (W'.cell? ⟨(h.g id).b, 0, none⟩ = some (.pointer (some ⟨(h.g id).m, 0, none⟩)) ∧ W'.cell? ⟨w.heap.size, 2, none⟩ = some (.int .i64 o3) ∧ W'.cell? ⟨w.heap.size, 8, none⟩ = some (.bool ofix) ∧ W'.cell? ⟨y, 0, none⟩ = some (.int .i64 0) ∧ W'.cell? ⟨y, 1, none⟩ = some (.int .i64 o4) ∧ W'.cell? ⟨y, 2, none⟩ = some (.int .i64 (ofile)) ∧ W'.cell? ⟨y, 3, none⟩ = some (.int .i64 ooff) ∧ W'.cell? ⟨y, 4, none⟩ = some (.bool false) ∧ W'.cell? ⟨y, 5, none⟩ = some (.int .i64 o5) ∧ W'.cell? ⟨y, 6, none⟩ = some (.int .i64 7) ∧ W'.cell? ⟨y, 7, none⟩ = some (.int .i64 0) ∧ W'.cell? ⟨y, 8, none⟩ = some (.int .i64 0) ∧ W'.cell? ⟨y, 9, none⟩ = some (.bool false)) ∧ W'.cell? ⟨r, 4, none⟩ = some (.int .i64 S.reg) from fun W g W' hT => by
    have kW := HK.out W (grown_trans HQ4.out g)
    have hO := HO.out W (grown_trans HQ4.out g)
    have hE := HE4.out.grow g
    have hO' := hO.turn hT (HK0.out.apart HP.out (Nat.le_refl _))
    have hE' := hE.turn hT (HK0.out.apart HP.out HY.out)
    refine ⟨⟨turn_cell hT (kW.bw.get HP.out).at0 (heap_lt (kW.bw.get HP.out).hb) (kW.apartR HP.out (kW.bw.get HP.out).kb (by simp) (by simp)), hO'.at.c2, hO'.at.c8, hE'.all⟩, turn_cell hT kW.hw.at.2.2.2.2 (heap_lt kW.hw.head) (kW.apartR HP.out kW.hw.kr (by simp) (by simp))⟩)
  have hk0 := HS.out w4 (grown_refl _ _)
  have hkd := HS.out w4.drew (grown_drew1 _)
  go_region_held3 (fun w7 => w7.cell? ⟨(h.g id).b, 0, none⟩ = some (.pointer (some ⟨(h.g id).m, 0, none⟩)) ∧ w7.cell? ⟨w.heap.size, 2, none⟩ = some (.int .i64 o3) ∧ w7.cell? ⟨w.heap.size, 8, none⟩ = some (.bool ofix) ∧ w7.cell? ⟨y, 0, none⟩ = some (.int .i64 0) ∧ w7.cell? ⟨y, 1, none⟩ = some (.int .i64 o4) ∧ w7.cell? ⟨y, 2, none⟩ = some (.int .i64 (ofile)) ∧ w7.cell? ⟨y, 3, none⟩ = some (.int .i64 ooff) ∧ w7.cell? ⟨y, 4, none⟩ = some (.bool false) ∧ w7.cell? ⟨y, 5, none⟩ = some (.int .i64 o5) ∧ w7.cell? ⟨y, 6, none⟩ = some (.int .i64 7) ∧ w7.cell? ⟨y, 7, none⟩ = some (.int .i64 0) ∧ w7.cell? ⟨y, 8, none⟩ = some (.int .i64 0) ∧ w7.cell? ⟨y, 9, none⟩ = some (.bool false)) (first | with_reducible exact hk0 | with_reducible exact hkd | with_reducible exact hk1 | fail)
    (first
      | (go_at_call 116; with_reducible refine (HMap.out _ (grown_drew1 _)).mono ?_; rintro e w5 ⟨u, v', rfl, hgo, hV, hN, hT⟩; obtain ⟨ag, cg, hug⟩ := eown_form hgo; subst hug; obtain ⟨hk1, hr4⟩ := HS5.out _ (grown_drew1 _) _ hT; have HGo := Lib.hid hgo; have HV := Lib.hid hV; have HN := Lib.hid hN; have HT := Lib.hid hT; clear hgo hV hN hT)
      | fail)
  have kW := HK.out w4.drew (grown_trans HQ4.out (grown_drew1 _))
  obtain ⟨k5, c5⟩ := kW.mapped HP.out HV.out HN.out HT.out
  have HK5 := Lib.hid k5
  have HC5 := Lib.hid ((Ch.grown (R := own t) (kd := kd) (grown_trans HG.out (grown_trans HQ4.out (grown_drew1 _)))).trans c5)
  clear hk0 hkd HS HMap HS5 HV HN HT kW k5 c5
  by_cases he : d.err = 0
  · have b9 : (d.err != 0) = false := by simpa using he
    have hE2 := hk1.2.2.2.2.1
    have hfr := HK5.out.hw.frozen 4
    clear hk1
    go_upto_region 13 with fail
    have k6 := ((HK5.out.reg (max S.reg (ofile))).1).grow (grown_drew1 _)
    have c6 := (HC5.out.trans (HK5.out.reg (max S.reg (ofile))).2).trans (Ch.grown (R := own t) (grown_drew1 _))
    have hgw := HGo.out
    have hu6 := OwnOf.grow (eown_keep hgw (grown_set w5 r 4 (.int .i64 (max S.reg (ofile)))) (by have := heap_lt HK0.out.hw.head; have := HQ4.out.size; have := HG.out.size; show r < w4.heap.size; omega)) (grown_drew1 _)
    have hp6 : geA (setP S.ps id ⟨d.l, p.A⟩) id = some ⟨d.l, p.A⟩ := by rw [geA_setP, if_pos rfl, HP.out]; rfl
    have hF := forgets k6 hp6 (gone := d.gone) (s := ag) (c := cg) (base := w4.drew.heap.size) (by simp only [setP_setP]; exact HOk2.out he) hu6
      (by rw [(gV_b h.g id v' id).2.2]; have := (HK0.out.bw.get HP.out).sm.lt; have := HQ4.out.size; have := HG.out.size; show _ < w4.heap.size; omega)
      (by have := HK0.out.hw.fm.lt; have := HQ4.out.size; have := HG.out.size; show h.fm < w4.heap.size; omega) (by have := HDid.out.2.2.1; omega) (HGd.out he)
    simp only [setP_setP] at hF
    rw [(gV_b h.g id v' id).1] at hF
    have HFo := Lib.hid hF
    have HC6 := Lib.hid c6
    clear k6 c6 hgw hu6 hp6 hF
    go_region
    generalize (w5.setCell ⟨r, 4, none⟩ (.int .i64 (max S.reg (ofile)))).drew = w6 at *
    have HE9 := Lib.hid he
    clear hE2 hfr hr4 HGo HK5 HC5 he b9
    go_wp2_with fail
    refine HFo.out.mono ?_
    rintro e w7 ⟨rfl, h7⟩
    have H7 := Lib.hid h7
    clear h7
    go_wp2_with fail
    refine H7.out.mono ?_
    rintro e w8 ⟨rfl, k8, c8⟩
    have HD8 := Lib.hid (show DnG h t r kd w w8 ((S.did2 id p d (max S.reg (ofile))).forget d.gone) from ⟨_, _, k8, HC6.out.trans c8, fun x => (gV_b h.g id v' x).1⟩)
    clear k8 c8
    go_wp2_with fail
    go_ret2
    exact .inr ⟨HE9.out, rfl, HD8.out⟩
  · have b9 : (d.err != 0) = true := by simpa using he
    have HD5 := Lib.hid (show DnG h t r kd w w5 S from by
      have e5 := HDid.out.2.2.2.2 he
      have e6 : ({ S with ps := setP S.ps id ⟨d.l, p.A⟩ } : Fl) = S := by
        rw [e5]
        show ({ S with ps := setP S.ps id ⟨p.L, p.A⟩ } : Fl) = S
        rw [show (⟨p.L, p.A⟩ : Pr) = p from rfl, setP_same _ HK0.out.bw.nd HP.out]
      have k6 := HK5.out
      rw [e6] at k6
      exact ⟨_, _, k6, HC5.out, fun x => (gV_b h.g id v' x).1⟩)
    have HE9 := Lib.hid he
    clear hk1 hr4 he
    go_wp2_with fail
    go_ret2
    exact .inl ⟨HE9.out, rfl, HD5.out⟩
set_option maxRecDepth 100000 in
set_option maxHeartbeats 16000000 in
theorem lay_az (k : FW w kd t r h S) (hok : SOk S) {o1 o2 o3 o4 o5 ooff o10 o11 o12 o13 o14 : Int} {ofix : Bool} (h3 : okI o3) (h4 : okI o4) (h5 : okI o5) (hp : geA S.ps id = some p) (hm1 : (decide (0 > 0) && !hasF S.sz 0) = false) (hm2 : (decide (0 = 0) && decide (ooff ≠ 0)) = false)
    (d : Did) (hd : mapV p.L o3 ⟨0, o4, 0, ooff, false, o5, 7, 0, 0, false⟩ ofix = d) (hok2 : d.err = 0 → SOk (S.did2 id p d (max S.reg (0)))) (hgd : d.err = 0 → ∀ x, x ∈ d.gone → GoodE x ∧ x.f ≤ 1000000000) (hlen : p.L.length ≤ 790) :
    Calls Tryz.prog 66 #[.pointer (some ⟨r, 0, none⟩), .pointer (some ⟨(h.g id).b, 0, none⟩), .agg #[.int .i64 o1, .int .i64 o2, .int .i64 o3, .int .i64 o4, .int .i64 o5, .bool false, .int .i64 0, .int .i64 ooff, .bool ofix, .int .i64 o10, .int .i64 o11, .int .i64 o12, .int .i64 o13, .int .i64 o14]] w fun e w' => (d.err ≠ 0 ∧ e = .returned (.tuple #[.int .i64 0, .int .i64 d.err]) ∧ DnG h t r kd w w' S) ∨ (d.err = 0 ∧ e = .returned (.tuple #[.int .i64 d.n, .int .i64 0]) ∧ DnG h t r kd w w' ((S.did2 id p d (max S.reg (0))).forget d.gone)) := by
  have hpm := geA_some hp
  have hPI := hok.pi _ hpm
  have hr0 := hok.r0
  have hr1 := hok.r1
  have ga := World.grownBy_alloc w (.cells #[.int .i64 o1, .int .i64 o2, .int .i64 o3, .int .i64 o4, .int .i64 o5, .bool false, .int .i64 0, .int .i64 ooff, .bool ofix, .int .i64 o10, .int .i64 o11, .int .i64 o12, .int .i64 o13, .int .i64 o14] 34) none
  have hB := OpB.new w (⟨o1, o2, o3, o4, o5, false, 0, ooff, ofix, o10, o11, o12, o13, o14⟩ : FOp)
  simp only at hB
  generalize hwB : w.alloc (.cells #[.int .i64 o1, .int .i64 o2, .int .i64 o3, .int .i64 o4, .int .i64 o5, .bool false, .int .i64 0, .int .i64 ooff, .bool ofix, .int .i64 o10, .int .i64 o11, .int .i64 o12, .int .i64 o13, .int .i64 o14] 34) = wB at *
  have kB := k.grow ga
  have hc1 := Calls.regrown_g (w := wB) fun W _ => has_at k hok 0 W
  obtain ⟨k0, k1, k2, k3, k4⟩ := kB.hw.at
  have c6 := hB.at.c6
  simp only at c6
  have r6 := cell_regrown c6
  have r1 := cell_regrown k1
  have r2 := cell_regrown k2
  have HK := Lib.hid (fun W (g : wB.grownBy W none) => k.grow (grown_trans ga g))
  have HO := Lib.hid (fun W (g : wB.grownBy W none) => hB.grow g)
  have HG := Lib.hid ga
  have HPI := Lib.hid hPI
  have HP := Lib.hid hp
  have HOk2 := Lib.hid hok2
  have HGd := Lib.hid hgd
  have HD := Lib.hid hd
  have HDid := Lib.hid (map_did hPI.mp o3 ⟨0, o4, 0, ooff, false, o5, 7, 0, 0, false⟩ ofix)
  rw [hd] at HDid
  have HK0 := Lib.hid k
  clear hpm hPI hd hok2 hgd ga hB kB k0 k1 k2 k3 k4 c6 k hp
  have be : (ooff != 0) = false := by simpa using hm2
  rw [show hasF S.sz 0 = false from rfl] at hc1
  clear hm1 hm2 hok
  go_enter Tryz.func66, Tryz.ntmps66
  go_upto_region 1 with fail
  refine wp_region_quiet_below (by kernel_rfl) (by kernel_rfl) ?_
  repeat (go_big_quiet_step (first | exact hc1 _ _ | fail))
  refine wpQuiet_nil ?_
  intro _ hw'
  obtain ⟨⟨dq, osq⟩, hw''⟩ := hw'
  subst hw''
  have HQ := Lib.hid (regrown_grown wB dq osq)
  clear r1 r2 r6 hc1
  generalize grow (redrawn wB dq) osq = w3 at *
  have HK3 := Lib.hid (HK.out w3 HQ.out)
  obtain ⟨c0, c1, c2, c3, c4, c5, c6, c7, c8, c9, c10, c11, c12, c13⟩ := (HO.out w3 HQ.out).at
  simp only at c0 c1 c2 c3 c4 c5 c6 c7 c8 c9 c10 c11 c12 c13
  have q5 := fun ob : Obj => (HO.out _ (grown_trans HQ.out (World.grownBy_alloc w3 ob none))).at.c5
  have q6 := fun ob : Obj => (HO.out _ (grown_trans HQ.out (World.grownBy_alloc w3 ob none))).at.c6
  have q4 := fun ob : Obj => (HK.out _ (grown_trans HQ.out (World.grownBy_alloc w3 ob none))).hw.at.2.2.2.2
  simp only at q5 q6
  go_upto_region 10 with fail
  obtain ⟨w4, hw4⟩ : ∃ w4, w3.alloc (.cells #[.int .i64 0, .int .i64 o4, .int .i64 (0), .int .i64 ooff, .bool false, .int .i64 o5, .int .i64 7, .int .i64 0, .int .i64 0, .bool false] 50) = w4 := ⟨_, rfl⟩
  have hE4 := EnB.new w3 ⟨0, o4, 0, ooff, false, o5, 7, 0, 0, false⟩
  simp only at hE4
  rw [hw4] at hE4
  have g34 : w3.grownBy w4 none := by rw [← hw4]; exact World.grownBy_alloc _ _ _
  have HE4 := Lib.hid hE4
  have HQ4 := Lib.hid (grown_trans HQ.out g34)
  clear hE4 g34 c0 c1 c2 c3 c4 c5 c6 c7 c8 c9 c10 c11 c12 c13 q4 q5 q6 HK3
  try simp only [hw4]
  try clear hw4
  have HY := Lib.hid (show w.heap.size ≤ w3.heap.size from (grown_trans HG.out HQ.out).size)
  generalize w3.heap.size = y at *
  have HS := Lib.hid (fun W (g : w4.grownBy W none) => And.intro ((HK.out W (grown_trans HQ4.out g)).bw.get HP.out).at0 (And.intro (HO.out W (grown_trans HQ4.out g)).at.c2 (And.intro (HO.out W (grown_trans HQ4.out g)).at.c8 (HE4.out.grow g).all)))
  simp only at HS
  have HMap := Lib.hid (fun W (g : w4.grownBy W none) => map_ok ((HK.out W (grown_trans HQ4.out g)).bw.get HP.out).vm HPI.out.mp (by omega) o3 ⟨0, o4, 0, ooff, false, o5, 7, 0, 0, false⟩ ofix h3 ⟨okS (x := 0) (by decide) (by decide), h4, ⟨h5, okS (x := 7) (by decide) (by decide)⟩⟩)
  simp only at HMap
  rw [HD.out] at HMap
  have HS5 := Lib.hid (show ∀ W, w4.grownBy W none → ∀ W', Turn ((h.g id).m :: blkL (h.g id).v) W W' → (W'.cell? ⟨(h.g id).b, 0, none⟩ = some (.pointer (some ⟨(h.g id).m, 0, none⟩)) ∧ W'.cell? ⟨w.heap.size, 2, none⟩ = some (.int .i64 o3) ∧ W'.cell? ⟨w.heap.size, 8, none⟩ = some (.bool ofix) ∧ W'.cell? ⟨y, 0, none⟩ = some (.int .i64 0) ∧ W'.cell? ⟨y, 1, none⟩ = some (.int .i64 o4) ∧ W'.cell? ⟨y, 2, none⟩ = some (.int .i64 (0)) ∧ W'.cell? ⟨y, 3, none⟩ = some (.int .i64 ooff) ∧ W'.cell? ⟨y, 4, none⟩ = some (.bool false) ∧ W'.cell? ⟨y, 5, none⟩ = some (.int .i64 o5) ∧ W'.cell? ⟨y, 6, none⟩ = some (.int .i64 7) ∧ W'.cell? ⟨y, 7, none⟩ = some (.int .i64 0) ∧ W'.cell? ⟨y, 8, none⟩ = some (.int .i64 0) ∧ W'.cell? ⟨y, 9, none⟩ = some (.bool false)) ∧ W'.cell? ⟨r, 4, none⟩ = some (.int .i64 S.reg) from fun W g W' hT => by
    have kW := HK.out W (grown_trans HQ4.out g)
    have hO := HO.out W (grown_trans HQ4.out g)
    have hE := HE4.out.grow g
    have hO' := hO.turn hT (HK0.out.apart HP.out (Nat.le_refl _))
    have hE' := hE.turn hT (HK0.out.apart HP.out HY.out)
    refine ⟨⟨turn_cell hT (kW.bw.get HP.out).at0 (heap_lt (kW.bw.get HP.out).hb) (kW.apartR HP.out (kW.bw.get HP.out).kb (by simp) (by simp)), hO'.at.c2, hO'.at.c8, hE'.all⟩, turn_cell hT kW.hw.at.2.2.2.2 (heap_lt kW.hw.head) (kW.apartR HP.out kW.hw.kr (by simp) (by simp))⟩)
  have hk0 := HS.out w4 (grown_refl _ _)
  have hkd := HS.out w4.drew (grown_drew1 _)
  go_region_held3 (fun w7 => w7.cell? ⟨(h.g id).b, 0, none⟩ = some (.pointer (some ⟨(h.g id).m, 0, none⟩)) ∧ w7.cell? ⟨w.heap.size, 2, none⟩ = some (.int .i64 o3) ∧ w7.cell? ⟨w.heap.size, 8, none⟩ = some (.bool ofix) ∧ w7.cell? ⟨y, 0, none⟩ = some (.int .i64 0) ∧ w7.cell? ⟨y, 1, none⟩ = some (.int .i64 o4) ∧ w7.cell? ⟨y, 2, none⟩ = some (.int .i64 (0)) ∧ w7.cell? ⟨y, 3, none⟩ = some (.int .i64 ooff) ∧ w7.cell? ⟨y, 4, none⟩ = some (.bool false) ∧ w7.cell? ⟨y, 5, none⟩ = some (.int .i64 o5) ∧ w7.cell? ⟨y, 6, none⟩ = some (.int .i64 7) ∧ w7.cell? ⟨y, 7, none⟩ = some (.int .i64 0) ∧ w7.cell? ⟨y, 8, none⟩ = some (.int .i64 0) ∧ w7.cell? ⟨y, 9, none⟩ = some (.bool false)) (first | with_reducible exact hk0 | with_reducible exact hkd | with_reducible exact hk1 | fail)
    (first
      | (go_at_call 116; with_reducible refine (HMap.out _ (grown_drew1 _)).mono ?_; rintro e w5 ⟨u, v', rfl, hgo, hV, hN, hT⟩; obtain ⟨ag, cg, hug⟩ := eown_form hgo; subst hug; obtain ⟨hk1, hr4⟩ := HS5.out _ (grown_drew1 _) _ hT; have HGo := Lib.hid hgo; have HV := Lib.hid hV; have HN := Lib.hid hN; have HT := Lib.hid hT; clear hgo hV hN hT)
      | fail)
  have kW := HK.out w4.drew (grown_trans HQ4.out (grown_drew1 _))
  obtain ⟨k5, c5⟩ := kW.mapped HP.out HV.out HN.out HT.out
  have HK5 := Lib.hid k5
  have HC5 := Lib.hid ((Ch.grown (R := own t) (kd := kd) (grown_trans HG.out (grown_trans HQ4.out (grown_drew1 _)))).trans c5)
  clear hk0 hkd HS HMap HS5 HV HN HT kW k5 c5
  by_cases he : d.err = 0
  · have b9 : (d.err != 0) = false := by simpa using he
    have hE2 := hk1.2.2.2.2.1
    have hfr := HK5.out.hw.frozen 4
    clear hk1
    go_upto_region 13 with fail
    have k6 := ((HK5.out.reg (max S.reg (0))).1).grow (grown_drew1 _)
    have c6 := (HC5.out.trans (HK5.out.reg (max S.reg (0))).2).trans (Ch.grown (R := own t) (grown_drew1 _))
    have hgw := HGo.out
    have hu6 := OwnOf.grow (eown_keep hgw (grown_set w5 r 4 (.int .i64 (max S.reg (0)))) (by have := heap_lt HK0.out.hw.head; have := HQ4.out.size; have := HG.out.size; show r < w4.heap.size; omega)) (grown_drew1 _)
    have hp6 : geA (setP S.ps id ⟨d.l, p.A⟩) id = some ⟨d.l, p.A⟩ := by rw [geA_setP, if_pos rfl, HP.out]; rfl
    have hF := forgets k6 hp6 (gone := d.gone) (s := ag) (c := cg) (base := w4.drew.heap.size) (by simp only [setP_setP]; exact HOk2.out he) hu6
      (by rw [(gV_b h.g id v' id).2.2]; have := (HK0.out.bw.get HP.out).sm.lt; have := HQ4.out.size; have := HG.out.size; show _ < w4.heap.size; omega)
      (by have := HK0.out.hw.fm.lt; have := HQ4.out.size; have := HG.out.size; show h.fm < w4.heap.size; omega) (by have := HDid.out.2.2.1; omega) (HGd.out he)
    simp only [setP_setP] at hF
    rw [(gV_b h.g id v' id).1] at hF
    have HFo := Lib.hid hF
    have HC6 := Lib.hid c6
    clear k6 c6 hgw hu6 hp6 hF
    go_region
    generalize (w5.setCell ⟨r, 4, none⟩ (.int .i64 (max S.reg (0)))).drew = w6 at *
    have HE9 := Lib.hid he
    clear hE2 hfr hr4 HGo HK5 HC5 he b9
    go_wp2_with fail
    refine HFo.out.mono ?_
    rintro e w7 ⟨rfl, h7⟩
    have H7 := Lib.hid h7
    clear h7
    go_wp2_with fail
    refine H7.out.mono ?_
    rintro e w8 ⟨rfl, k8, c8⟩
    have HD8 := Lib.hid (show DnG h t r kd w w8 ((S.did2 id p d (max S.reg (0))).forget d.gone) from ⟨_, _, k8, HC6.out.trans c8, fun x => (gV_b h.g id v' x).1⟩)
    clear k8 c8
    go_wp2_with fail
    go_ret2
    exact .inr ⟨HE9.out, rfl, HD8.out⟩
  · have b9 : (d.err != 0) = true := by simpa using he
    have HD5 := Lib.hid (show DnG h t r kd w w5 S from by
      have e5 := HDid.out.2.2.2.2 he
      have e6 : ({ S with ps := setP S.ps id ⟨d.l, p.A⟩ } : Fl) = S := by
        rw [e5]
        show ({ S with ps := setP S.ps id ⟨p.L, p.A⟩ } : Fl) = S
        rw [show (⟨p.L, p.A⟩ : Pr) = p from rfl, setP_same _ HK0.out.bw.nd HP.out]
      have k6 := HK5.out
      rw [e6] at k6
      exact ⟨_, _, k6, HC5.out, fun x => (gV_b h.g id v' x).1⟩)
    have HE9 := Lib.hid he
    clear hk1 hr4 he
    go_wp2_with fail
    go_ret2
    exact .inl ⟨HE9.out, rfl, HD5.out⟩
set_option maxRecDepth 100000 in
set_option maxHeartbeats 16000000 in
theorem lay_ap (k : FW w kd t r h S) (hok : SOk S) {o1 o2 o3 o4 o5 ofile ooff o10 o11 o12 o13 o14 : Int} {ofix : Bool} (h3 : okI o3) (h4 : okI o4) (h5 : okI o5) (hp : geA S.ps id = some p) (hm1 : (decide (ofile > 0) && !hasF S.sz ofile) = false) (hm2 : (decide (ofile = 0) && decide (ooff ≠ 0)) = false) (hf : ofile > 0)
    (d : Did) (hd : mapV p.L o3 ⟨0, o4, ofile, ooff, false, o5, 7, 0, 0, false⟩ ofix = d) (hok2 : d.err = 0 → SOk (S.did2 id p d (max S.reg (ofile)))) (hgd : d.err = 0 → ∀ x, x ∈ d.gone → GoodE x ∧ x.f ≤ 1000000000) (hlen : p.L.length ≤ 790) :
    Calls Tryz.prog 66 #[.pointer (some ⟨r, 0, none⟩), .pointer (some ⟨(h.g id).b, 0, none⟩), .agg #[.int .i64 o1, .int .i64 o2, .int .i64 o3, .int .i64 o4, .int .i64 o5, .bool false, .int .i64 ofile, .int .i64 ooff, .bool ofix, .int .i64 o10, .int .i64 o11, .int .i64 o12, .int .i64 o13, .int .i64 o14]] w fun e w' => (d.err ≠ 0 ∧ e = .returned (.tuple #[.int .i64 0, .int .i64 d.err]) ∧ DnG h t r kd w w' S) ∨ (d.err = 0 ∧ e = .returned (.tuple #[.int .i64 d.n, .int .i64 0]) ∧ DnG h t r kd w w' ((S.did2 id p d (max S.reg (ofile))).forget d.gone)) := by
  have hpm := geA_some hp
  have hPI := hok.pi _ hpm
  have hr0 := hok.r0
  have hr1 := hok.r1
  have ga := World.grownBy_alloc w (.cells #[.int .i64 o1, .int .i64 o2, .int .i64 o3, .int .i64 o4, .int .i64 o5, .bool false, .int .i64 ofile, .int .i64 ooff, .bool ofix, .int .i64 o10, .int .i64 o11, .int .i64 o12, .int .i64 o13, .int .i64 o14] 34) none
  have hB := OpB.new w (⟨o1, o2, o3, o4, o5, false, ofile, ooff, ofix, o10, o11, o12, o13, o14⟩ : FOp)
  simp only at hB
  generalize hwB : w.alloc (.cells #[.int .i64 o1, .int .i64 o2, .int .i64 o3, .int .i64 o4, .int .i64 o5, .bool false, .int .i64 ofile, .int .i64 ooff, .bool ofix, .int .i64 o10, .int .i64 o11, .int .i64 o12, .int .i64 o13, .int .i64 o14] 34) = wB at *
  have kB := k.grow ga
  have hc1 := Calls.regrown_g (w := wB) fun W _ => has_at k hok ofile W
  obtain ⟨k0, k1, k2, k3, k4⟩ := kB.hw.at
  have c6 := hB.at.c6
  simp only at c6
  have r6 := cell_regrown c6
  have r1 := cell_regrown k1
  have r2 := cell_regrown k2
  have HK := Lib.hid (fun W (g : wB.grownBy W none) => k.grow (grown_trans ga g))
  have HO := Lib.hid (fun W (g : wB.grownBy W none) => hB.grow g)
  have HG := Lib.hid ga
  have HPI := Lib.hid hPI
  have HP := Lib.hid hp
  have HOk2 := Lib.hid hok2
  have HGd := Lib.hid hgd
  have HD := Lib.hid hd
  have HDid := Lib.hid (map_did hPI.mp o3 ⟨0, o4, ofile, ooff, false, o5, 7, 0, 0, false⟩ ofix)
  rw [hd] at HDid
  have HK0 := Lib.hid k
  clear hpm hPI hd hok2 hgd ga hB kB k0 k1 k2 k3 k4 c6 k hp
  have bf : decide (ofile > 0) = true := decide_eq_true hf
  have be : (ofile == 0) = false := by simpa using (show ¬ ofile = 0 by omega)
  rw [bf, Bool.true_and] at hm1
  rw [show hasF S.sz ofile = true by simpa using hm1] at hc1
  clear hm1 hm2 hok
  go_enter Tryz.func66, Tryz.ntmps66
  go_upto_region 1 with fail
  refine wp_region_quiet_below (by kernel_rfl) (by kernel_rfl) ?_
  repeat (go_big_quiet_step (first | exact hc1 _ _ | fail))
  refine wpQuiet_nil ?_
  intro _ hw'
  obtain ⟨⟨dq, osq⟩, hw''⟩ := hw'
  subst hw''
  have HQ := Lib.hid (regrown_grown wB dq osq)
  clear r1 r2 r6 hc1
  generalize grow (redrawn wB dq) osq = w3 at *
  have HK3 := Lib.hid (HK.out w3 HQ.out)
  obtain ⟨c0, c1, c2, c3, c4, c5, c6, c7, c8, c9, c10, c11, c12, c13⟩ := (HO.out w3 HQ.out).at
  simp only at c0 c1 c2 c3 c4 c5 c6 c7 c8 c9 c10 c11 c12 c13
  have q5 := fun ob : Obj => (HO.out _ (grown_trans HQ.out (World.grownBy_alloc w3 ob none))).at.c5
  have q6 := fun ob : Obj => (HO.out _ (grown_trans HQ.out (World.grownBy_alloc w3 ob none))).at.c6
  have q4 := fun ob : Obj => (HK.out _ (grown_trans HQ.out (World.grownBy_alloc w3 ob none))).hw.at.2.2.2.2
  simp only at q5 q6
  go_upto_region 10 with fail
  obtain ⟨w4, hw4⟩ : ∃ w4, w3.alloc (.cells #[.int .i64 0, .int .i64 o4, .int .i64 (ofile), .int .i64 ooff, .bool false, .int .i64 o5, .int .i64 7, .int .i64 0, .int .i64 0, .bool false] 50) = w4 := ⟨_, rfl⟩
  have hE4 := EnB.new w3 ⟨0, o4, ofile, ooff, false, o5, 7, 0, 0, false⟩
  simp only at hE4
  rw [hw4] at hE4
  have g34 : w3.grownBy w4 none := by rw [← hw4]; exact World.grownBy_alloc _ _ _
  have HE4 := Lib.hid hE4
  have HQ4 := Lib.hid (grown_trans HQ.out g34)
  clear hE4 g34 c0 c1 c2 c3 c4 c5 c6 c7 c8 c9 c10 c11 c12 c13 q4 q5 q6 HK3
  try simp only [hw4]
  try clear hw4
  have HY := Lib.hid (show w.heap.size ≤ w3.heap.size from (grown_trans HG.out HQ.out).size)
  generalize w3.heap.size = y at *
  have HS := Lib.hid (fun W (g : w4.grownBy W none) => And.intro ((HK.out W (grown_trans HQ4.out g)).bw.get HP.out).at0 (And.intro (HO.out W (grown_trans HQ4.out g)).at.c2 (And.intro (HO.out W (grown_trans HQ4.out g)).at.c8 (HE4.out.grow g).all)))
  simp only at HS
  have HMap := Lib.hid (fun W (g : w4.grownBy W none) => map_ok ((HK.out W (grown_trans HQ4.out g)).bw.get HP.out).vm HPI.out.mp (by omega) o3 ⟨0, o4, ofile, ooff, false, o5, 7, 0, 0, false⟩ ofix h3 ⟨okS (x := 0) (by decide) (by decide), h4, ⟨h5, okS (x := 7) (by decide) (by decide)⟩⟩)
  simp only at HMap
  rw [HD.out] at HMap
  have HS5 := Lib.hid (show ∀ W, w4.grownBy W none → ∀ W', Turn ((h.g id).m :: blkL (h.g id).v) W W' → (W'.cell? ⟨(h.g id).b, 0, none⟩ = some (.pointer (some ⟨(h.g id).m, 0, none⟩)) ∧ W'.cell? ⟨w.heap.size, 2, none⟩ = some (.int .i64 o3) ∧ W'.cell? ⟨w.heap.size, 8, none⟩ = some (.bool ofix) ∧ W'.cell? ⟨y, 0, none⟩ = some (.int .i64 0) ∧ W'.cell? ⟨y, 1, none⟩ = some (.int .i64 o4) ∧ W'.cell? ⟨y, 2, none⟩ = some (.int .i64 (ofile)) ∧ W'.cell? ⟨y, 3, none⟩ = some (.int .i64 ooff) ∧ W'.cell? ⟨y, 4, none⟩ = some (.bool false) ∧ W'.cell? ⟨y, 5, none⟩ = some (.int .i64 o5) ∧ W'.cell? ⟨y, 6, none⟩ = some (.int .i64 7) ∧ W'.cell? ⟨y, 7, none⟩ = some (.int .i64 0) ∧ W'.cell? ⟨y, 8, none⟩ = some (.int .i64 0) ∧ W'.cell? ⟨y, 9, none⟩ = some (.bool false)) ∧ W'.cell? ⟨r, 4, none⟩ = some (.int .i64 S.reg) from fun W g W' hT => by
    have kW := HK.out W (grown_trans HQ4.out g)
    have hO := HO.out W (grown_trans HQ4.out g)
    have hE := HE4.out.grow g
    have hO' := hO.turn hT (HK0.out.apart HP.out (Nat.le_refl _))
    have hE' := hE.turn hT (HK0.out.apart HP.out HY.out)
    refine ⟨⟨turn_cell hT (kW.bw.get HP.out).at0 (heap_lt (kW.bw.get HP.out).hb) (kW.apartR HP.out (kW.bw.get HP.out).kb (by simp) (by simp)), hO'.at.c2, hO'.at.c8, hE'.all⟩, turn_cell hT kW.hw.at.2.2.2.2 (heap_lt kW.hw.head) (kW.apartR HP.out kW.hw.kr (by simp) (by simp))⟩)
  have hk0 := HS.out w4 (grown_refl _ _)
  have hkd := HS.out w4.drew (grown_drew1 _)
  go_region_held3 (fun w7 => w7.cell? ⟨(h.g id).b, 0, none⟩ = some (.pointer (some ⟨(h.g id).m, 0, none⟩)) ∧ w7.cell? ⟨w.heap.size, 2, none⟩ = some (.int .i64 o3) ∧ w7.cell? ⟨w.heap.size, 8, none⟩ = some (.bool ofix) ∧ w7.cell? ⟨y, 0, none⟩ = some (.int .i64 0) ∧ w7.cell? ⟨y, 1, none⟩ = some (.int .i64 o4) ∧ w7.cell? ⟨y, 2, none⟩ = some (.int .i64 (ofile)) ∧ w7.cell? ⟨y, 3, none⟩ = some (.int .i64 ooff) ∧ w7.cell? ⟨y, 4, none⟩ = some (.bool false) ∧ w7.cell? ⟨y, 5, none⟩ = some (.int .i64 o5) ∧ w7.cell? ⟨y, 6, none⟩ = some (.int .i64 7) ∧ w7.cell? ⟨y, 7, none⟩ = some (.int .i64 0) ∧ w7.cell? ⟨y, 8, none⟩ = some (.int .i64 0) ∧ w7.cell? ⟨y, 9, none⟩ = some (.bool false)) (first | with_reducible exact hk0 | with_reducible exact hkd | with_reducible exact hk1 | fail)
    (first
      | (go_at_call 116; with_reducible refine (HMap.out _ (grown_drew1 _)).mono ?_; rintro e w5 ⟨u, v', rfl, hgo, hV, hN, hT⟩; obtain ⟨ag, cg, hug⟩ := eown_form hgo; subst hug; obtain ⟨hk1, hr4⟩ := HS5.out _ (grown_drew1 _) _ hT; have HGo := Lib.hid hgo; have HV := Lib.hid hV; have HN := Lib.hid hN; have HT := Lib.hid hT; clear hgo hV hN hT)
      | fail)
  have kW := HK.out w4.drew (grown_trans HQ4.out (grown_drew1 _))
  obtain ⟨k5, c5⟩ := kW.mapped HP.out HV.out HN.out HT.out
  have HK5 := Lib.hid k5
  have HC5 := Lib.hid ((Ch.grown (R := own t) (kd := kd) (grown_trans HG.out (grown_trans HQ4.out (grown_drew1 _)))).trans c5)
  clear hk0 hkd HS HMap HS5 HV HN HT kW k5 c5
  by_cases he : d.err = 0
  · have b9 : (d.err != 0) = false := by simpa using he
    have hE2 := hk1.2.2.2.2.1
    have hfr := HK5.out.hw.frozen 4
    clear hk1
    go_upto_region 13 with fail
    have k6 := ((HK5.out.reg (max S.reg (ofile))).1).grow (grown_drew1 _)
    have c6 := (HC5.out.trans (HK5.out.reg (max S.reg (ofile))).2).trans (Ch.grown (R := own t) (grown_drew1 _))
    have hgw := HGo.out
    have hu6 := OwnOf.grow (eown_keep hgw (grown_set w5 r 4 (.int .i64 (max S.reg (ofile)))) (by have := heap_lt HK0.out.hw.head; have := HQ4.out.size; have := HG.out.size; show r < w4.heap.size; omega)) (grown_drew1 _)
    have hp6 : geA (setP S.ps id ⟨d.l, p.A⟩) id = some ⟨d.l, p.A⟩ := by rw [geA_setP, if_pos rfl, HP.out]; rfl
    have hF := forgets k6 hp6 (gone := d.gone) (s := ag) (c := cg) (base := w4.drew.heap.size) (by simp only [setP_setP]; exact HOk2.out he) hu6
      (by rw [(gV_b h.g id v' id).2.2]; have := (HK0.out.bw.get HP.out).sm.lt; have := HQ4.out.size; have := HG.out.size; show _ < w4.heap.size; omega)
      (by have := HK0.out.hw.fm.lt; have := HQ4.out.size; have := HG.out.size; show h.fm < w4.heap.size; omega) (by have := HDid.out.2.2.1; omega) (HGd.out he)
    simp only [setP_setP] at hF
    rw [(gV_b h.g id v' id).1] at hF
    have HFo := Lib.hid hF
    have HC6 := Lib.hid c6
    clear k6 c6 hgw hu6 hp6 hF
    go_region
    generalize (w5.setCell ⟨r, 4, none⟩ (.int .i64 (max S.reg (ofile)))).drew = w6 at *
    have HE9 := Lib.hid he
    clear hE2 hfr hr4 HGo HK5 HC5 he b9
    go_wp2_with fail
    refine HFo.out.mono ?_
    rintro e w7 ⟨rfl, h7⟩
    have H7 := Lib.hid h7
    clear h7
    go_wp2_with fail
    refine H7.out.mono ?_
    rintro e w8 ⟨rfl, k8, c8⟩
    have HD8 := Lib.hid (show DnG h t r kd w w8 ((S.did2 id p d (max S.reg (ofile))).forget d.gone) from ⟨_, _, k8, HC6.out.trans c8, fun x => (gV_b h.g id v' x).1⟩)
    clear k8 c8
    go_wp2_with fail
    go_ret2
    exact .inr ⟨HE9.out, rfl, HD8.out⟩
  · have b9 : (d.err != 0) = true := by simpa using he
    have HD5 := Lib.hid (show DnG h t r kd w w5 S from by
      have e5 := HDid.out.2.2.2.2 he
      have e6 : ({ S with ps := setP S.ps id ⟨d.l, p.A⟩ } : Fl) = S := by
        rw [e5]
        show ({ S with ps := setP S.ps id ⟨p.L, p.A⟩ } : Fl) = S
        rw [show (⟨p.L, p.A⟩ : Pr) = p from rfl, setP_same _ HK0.out.bw.nd HP.out]
      have k6 := HK5.out
      rw [e6] at k6
      exact ⟨_, _, k6, HC5.out, fun x => (gV_b h.g id v' x).1⟩)
    have HE9 := Lib.hid he
    clear hk1 hr4 he
    go_wp2_with fail
    go_ret2
    exact .inl ⟨HE9.out, rfl, HD5.out⟩
set_option maxRecDepth 100000 in
set_option maxHeartbeats 16000000 in
theorem lay_bz (k : FW w kd t r h S) (hok : SOk S) {o1 o2 o3 o4 o5 ooff o10 o11 o12 o13 o14 : Int} {ofix : Bool} (h3 : okI o3) (h4 : okI o4) (h5 : okI o5) (hp : geA S.ps id = some p) (hm1 : (decide (0 > 0) && !hasF S.sz 0) = false) (hm2 : (decide (0 = 0) && decide (ooff ≠ 0)) = false)
    (d : Did) (hd : mapV p.L o3 ⟨0, o4, S.reg + 1, ooff, true, o5, 7, 1, 0, false⟩ ofix = d) (hok2 : d.err = 0 → SOk (S.did2 id p d (max S.reg (S.reg + 1)))) (hgd : d.err = 0 → ∀ x, x ∈ d.gone → GoodE x ∧ x.f ≤ 1000000000) (hlen : p.L.length ≤ 790) :
    Calls Tryz.prog 66 #[.pointer (some ⟨r, 0, none⟩), .pointer (some ⟨(h.g id).b, 0, none⟩), .agg #[.int .i64 o1, .int .i64 o2, .int .i64 o3, .int .i64 o4, .int .i64 o5, .bool true, .int .i64 0, .int .i64 ooff, .bool ofix, .int .i64 o10, .int .i64 o11, .int .i64 o12, .int .i64 o13, .int .i64 o14]] w fun e w' => (d.err ≠ 0 ∧ e = .returned (.tuple #[.int .i64 0, .int .i64 d.err]) ∧ DnG h t r kd w w' S) ∨ (d.err = 0 ∧ e = .returned (.tuple #[.int .i64 d.n, .int .i64 0]) ∧ DnG h t r kd w w' ((S.did2 id p d (max S.reg (S.reg + 1))).forget d.gone)) := by
  have hpm := geA_some hp
  have hPI := hok.pi _ hpm
  have hr0 := hok.r0
  have hr1 := hok.r1
  have ga := World.grownBy_alloc w (.cells #[.int .i64 o1, .int .i64 o2, .int .i64 o3, .int .i64 o4, .int .i64 o5, .bool true, .int .i64 0, .int .i64 ooff, .bool ofix, .int .i64 o10, .int .i64 o11, .int .i64 o12, .int .i64 o13, .int .i64 o14] 34) none
  have hB := OpB.new w (⟨o1, o2, o3, o4, o5, true, 0, ooff, ofix, o10, o11, o12, o13, o14⟩ : FOp)
  simp only at hB
  generalize hwB : w.alloc (.cells #[.int .i64 o1, .int .i64 o2, .int .i64 o3, .int .i64 o4, .int .i64 o5, .bool true, .int .i64 0, .int .i64 ooff, .bool ofix, .int .i64 o10, .int .i64 o11, .int .i64 o12, .int .i64 o13, .int .i64 o14] 34) = wB at *
  have kB := k.grow ga
  have hc1 := Calls.regrown_g (w := wB) fun W _ => has_at k hok 0 W
  obtain ⟨k0, k1, k2, k3, k4⟩ := kB.hw.at
  have c6 := hB.at.c6
  simp only at c6
  have r6 := cell_regrown c6
  have r1 := cell_regrown k1
  have r2 := cell_regrown k2
  have HK := Lib.hid (fun W (g : wB.grownBy W none) => k.grow (grown_trans ga g))
  have HO := Lib.hid (fun W (g : wB.grownBy W none) => hB.grow g)
  have HG := Lib.hid ga
  have HPI := Lib.hid hPI
  have HP := Lib.hid hp
  have HOk2 := Lib.hid hok2
  have HGd := Lib.hid hgd
  have HD := Lib.hid hd
  have HDid := Lib.hid (map_did hPI.mp o3 ⟨0, o4, S.reg + 1, ooff, true, o5, 7, 1, 0, false⟩ ofix)
  rw [hd] at HDid
  have HK0 := Lib.hid k
  clear hpm hPI hd hok2 hgd ga hB kB k0 k1 k2 k3 k4 c6 k hp
  have be : (ooff != 0) = false := by simpa using hm2
  rw [show hasF S.sz 0 = false from rfl] at hc1
  clear hm1 hm2 hok
  go_enter Tryz.func66, Tryz.ntmps66
  go_upto_region 1 with fail
  refine wp_region_quiet_below (by kernel_rfl) (by kernel_rfl) ?_
  repeat (go_big_quiet_step (first | exact hc1 _ _ | fail))
  refine wpQuiet_nil ?_
  intro _ hw'
  obtain ⟨⟨dq, osq⟩, hw''⟩ := hw'
  subst hw''
  have HQ := Lib.hid (regrown_grown wB dq osq)
  clear r1 r2 r6 hc1
  generalize grow (redrawn wB dq) osq = w3 at *
  have HK3 := Lib.hid (HK.out w3 HQ.out)
  obtain ⟨c0, c1, c2, c3, c4, c5, c6, c7, c8, c9, c10, c11, c12, c13⟩ := (HO.out w3 HQ.out).at
  simp only at c0 c1 c2 c3 c4 c5 c6 c7 c8 c9 c10 c11 c12 c13
  have q5 := fun ob : Obj => (HO.out _ (grown_trans HQ.out (World.grownBy_alloc w3 ob none))).at.c5
  have q6 := fun ob : Obj => (HO.out _ (grown_trans HQ.out (World.grownBy_alloc w3 ob none))).at.c6
  have q4 := fun ob : Obj => (HK.out _ (grown_trans HQ.out (World.grownBy_alloc w3 ob none))).hw.at.2.2.2.2
  simp only at q5 q6
  go_upto_region 10 with fail
  obtain ⟨w4, hw4⟩ : ∃ w4, w3.alloc (.cells #[.int .i64 0, .int .i64 o4, .int .i64 (S.reg + 1), .int .i64 ooff, .bool true, .int .i64 o5, .int .i64 7, .int .i64 1, .int .i64 0, .bool false] 50) = w4 := ⟨_, rfl⟩
  have hE4 := EnB.new w3 ⟨0, o4, S.reg + 1, ooff, true, o5, 7, 1, 0, false⟩
  simp only at hE4
  rw [hw4] at hE4
  have g34 : w3.grownBy w4 none := by rw [← hw4]; exact World.grownBy_alloc _ _ _
  have HE4 := Lib.hid hE4
  have HQ4 := Lib.hid (grown_trans HQ.out g34)
  clear hE4 g34 c0 c1 c2 c3 c4 c5 c6 c7 c8 c9 c10 c11 c12 c13 q4 q5 q6 HK3
  try simp only [hw4]
  try clear hw4
  have HY := Lib.hid (show w.heap.size ≤ w3.heap.size from (grown_trans HG.out HQ.out).size)
  generalize w3.heap.size = y at *
  have HS := Lib.hid (fun W (g : w4.grownBy W none) => And.intro ((HK.out W (grown_trans HQ4.out g)).bw.get HP.out).at0 (And.intro (HO.out W (grown_trans HQ4.out g)).at.c2 (And.intro (HO.out W (grown_trans HQ4.out g)).at.c8 (HE4.out.grow g).all)))
  simp only at HS
  have HMap := Lib.hid (fun W (g : w4.grownBy W none) => map_ok ((HK.out W (grown_trans HQ4.out g)).bw.get HP.out).vm HPI.out.mp (by omega) o3 ⟨0, o4, S.reg + 1, ooff, true, o5, 7, 1, 0, false⟩ ofix h3 ⟨okS (x := 0) (by decide) (by decide), h4, ⟨h5, okS (x := 7) (by decide) (by decide)⟩⟩)
  simp only at HMap
  rw [HD.out] at HMap
  have HS5 := Lib.hid (show ∀ W, w4.grownBy W none → ∀ W', Turn ((h.g id).m :: blkL (h.g id).v) W W' → (W'.cell? ⟨(h.g id).b, 0, none⟩ = some (.pointer (some ⟨(h.g id).m, 0, none⟩)) ∧ W'.cell? ⟨w.heap.size, 2, none⟩ = some (.int .i64 o3) ∧ W'.cell? ⟨w.heap.size, 8, none⟩ = some (.bool ofix) ∧ W'.cell? ⟨y, 0, none⟩ = some (.int .i64 0) ∧ W'.cell? ⟨y, 1, none⟩ = some (.int .i64 o4) ∧ W'.cell? ⟨y, 2, none⟩ = some (.int .i64 (S.reg + 1)) ∧ W'.cell? ⟨y, 3, none⟩ = some (.int .i64 ooff) ∧ W'.cell? ⟨y, 4, none⟩ = some (.bool true) ∧ W'.cell? ⟨y, 5, none⟩ = some (.int .i64 o5) ∧ W'.cell? ⟨y, 6, none⟩ = some (.int .i64 7) ∧ W'.cell? ⟨y, 7, none⟩ = some (.int .i64 1) ∧ W'.cell? ⟨y, 8, none⟩ = some (.int .i64 0) ∧ W'.cell? ⟨y, 9, none⟩ = some (.bool false)) ∧ W'.cell? ⟨r, 4, none⟩ = some (.int .i64 S.reg) from fun W g W' hT => by
    have kW := HK.out W (grown_trans HQ4.out g)
    have hO := HO.out W (grown_trans HQ4.out g)
    have hE := HE4.out.grow g
    have hO' := hO.turn hT (HK0.out.apart HP.out (Nat.le_refl _))
    have hE' := hE.turn hT (HK0.out.apart HP.out HY.out)
    refine ⟨⟨turn_cell hT (kW.bw.get HP.out).at0 (heap_lt (kW.bw.get HP.out).hb) (kW.apartR HP.out (kW.bw.get HP.out).kb (by simp) (by simp)), hO'.at.c2, hO'.at.c8, hE'.all⟩, turn_cell hT kW.hw.at.2.2.2.2 (heap_lt kW.hw.head) (kW.apartR HP.out kW.hw.kr (by simp) (by simp))⟩)
  have hk0 := HS.out w4 (grown_refl _ _)
  have hkd := HS.out w4.drew (grown_drew1 _)
  go_region_held3 (fun w7 => w7.cell? ⟨(h.g id).b, 0, none⟩ = some (.pointer (some ⟨(h.g id).m, 0, none⟩)) ∧ w7.cell? ⟨w.heap.size, 2, none⟩ = some (.int .i64 o3) ∧ w7.cell? ⟨w.heap.size, 8, none⟩ = some (.bool ofix) ∧ w7.cell? ⟨y, 0, none⟩ = some (.int .i64 0) ∧ w7.cell? ⟨y, 1, none⟩ = some (.int .i64 o4) ∧ w7.cell? ⟨y, 2, none⟩ = some (.int .i64 (S.reg + 1)) ∧ w7.cell? ⟨y, 3, none⟩ = some (.int .i64 ooff) ∧ w7.cell? ⟨y, 4, none⟩ = some (.bool true) ∧ w7.cell? ⟨y, 5, none⟩ = some (.int .i64 o5) ∧ w7.cell? ⟨y, 6, none⟩ = some (.int .i64 7) ∧ w7.cell? ⟨y, 7, none⟩ = some (.int .i64 1) ∧ w7.cell? ⟨y, 8, none⟩ = some (.int .i64 0) ∧ w7.cell? ⟨y, 9, none⟩ = some (.bool false)) (first | with_reducible exact hk0 | with_reducible exact hkd | with_reducible exact hk1 | fail)
    (first
      | (go_at_call 116; with_reducible refine (HMap.out _ (grown_drew1 _)).mono ?_; rintro e w5 ⟨u, v', rfl, hgo, hV, hN, hT⟩; obtain ⟨ag, cg, hug⟩ := eown_form hgo; subst hug; obtain ⟨hk1, hr4⟩ := HS5.out _ (grown_drew1 _) _ hT; have HGo := Lib.hid hgo; have HV := Lib.hid hV; have HN := Lib.hid hN; have HT := Lib.hid hT; clear hgo hV hN hT)
      | fail)
  have kW := HK.out w4.drew (grown_trans HQ4.out (grown_drew1 _))
  obtain ⟨k5, c5⟩ := kW.mapped HP.out HV.out HN.out HT.out
  have HK5 := Lib.hid k5
  have HC5 := Lib.hid ((Ch.grown (R := own t) (kd := kd) (grown_trans HG.out (grown_trans HQ4.out (grown_drew1 _)))).trans c5)
  clear hk0 hkd HS HMap HS5 HV HN HT kW k5 c5
  by_cases he : d.err = 0
  · have b9 : (d.err != 0) = false := by simpa using he
    have hE2 := hk1.2.2.2.2.1
    have hfr := HK5.out.hw.frozen 4
    clear hk1
    go_upto_region 13 with fail
    have k6 := ((HK5.out.reg (max S.reg (S.reg + 1))).1).grow (grown_drew1 _)
    have c6 := (HC5.out.trans (HK5.out.reg (max S.reg (S.reg + 1))).2).trans (Ch.grown (R := own t) (grown_drew1 _))
    have hgw := HGo.out
    have hu6 := OwnOf.grow (eown_keep hgw (grown_set w5 r 4 (.int .i64 (max S.reg (S.reg + 1)))) (by have := heap_lt HK0.out.hw.head; have := HQ4.out.size; have := HG.out.size; show r < w4.heap.size; omega)) (grown_drew1 _)
    have hp6 : geA (setP S.ps id ⟨d.l, p.A⟩) id = some ⟨d.l, p.A⟩ := by rw [geA_setP, if_pos rfl, HP.out]; rfl
    have hF := forgets k6 hp6 (gone := d.gone) (s := ag) (c := cg) (base := w4.drew.heap.size) (by simp only [setP_setP]; exact HOk2.out he) hu6
      (by rw [(gV_b h.g id v' id).2.2]; have := (HK0.out.bw.get HP.out).sm.lt; have := HQ4.out.size; have := HG.out.size; show _ < w4.heap.size; omega)
      (by have := HK0.out.hw.fm.lt; have := HQ4.out.size; have := HG.out.size; show h.fm < w4.heap.size; omega) (by have := HDid.out.2.2.1; omega) (HGd.out he)
    simp only [setP_setP] at hF
    rw [(gV_b h.g id v' id).1] at hF
    have HFo := Lib.hid hF
    have HC6 := Lib.hid c6
    clear k6 c6 hgw hu6 hp6 hF
    go_region
    generalize (w5.setCell ⟨r, 4, none⟩ (.int .i64 (max S.reg (S.reg + 1)))).drew = w6 at *
    have HE9 := Lib.hid he
    clear hE2 hfr hr4 HGo HK5 HC5 he b9
    go_wp2_with fail
    refine HFo.out.mono ?_
    rintro e w7 ⟨rfl, h7⟩
    have H7 := Lib.hid h7
    clear h7
    go_wp2_with fail
    refine H7.out.mono ?_
    rintro e w8 ⟨rfl, k8, c8⟩
    have HD8 := Lib.hid (show DnG h t r kd w w8 ((S.did2 id p d (max S.reg (S.reg + 1))).forget d.gone) from ⟨_, _, k8, HC6.out.trans c8, fun x => (gV_b h.g id v' x).1⟩)
    clear k8 c8
    go_wp2_with fail
    go_ret2
    exact .inr ⟨HE9.out, rfl, HD8.out⟩
  · have b9 : (d.err != 0) = true := by simpa using he
    have HD5 := Lib.hid (show DnG h t r kd w w5 S from by
      have e5 := HDid.out.2.2.2.2 he
      have e6 : ({ S with ps := setP S.ps id ⟨d.l, p.A⟩ } : Fl) = S := by
        rw [e5]
        show ({ S with ps := setP S.ps id ⟨p.L, p.A⟩ } : Fl) = S
        rw [show (⟨p.L, p.A⟩ : Pr) = p from rfl, setP_same _ HK0.out.bw.nd HP.out]
      have k6 := HK5.out
      rw [e6] at k6
      exact ⟨_, _, k6, HC5.out, fun x => (gV_b h.g id v' x).1⟩)
    have HE9 := Lib.hid he
    clear hk1 hr4 he
    go_wp2_with fail
    go_ret2
    exact .inl ⟨HE9.out, rfl, HD5.out⟩
set_option maxRecDepth 100000 in
set_option maxHeartbeats 16000000 in
theorem lay_cn (k : FW w kd t r h S) (hok : SOk S) {o1 o2 o3 o4 o5 ofile ooff o10 o11 o12 o13 o14 : Int} {ofix : Bool} (h3 : okI o3) (h4 : okI o4) (h5 : okI o5) (hp : geA S.ps id = some p) (hm1 : (decide (ofile > 0) && !hasF S.sz ofile) = false) (hm2 : (decide (ofile = 0) && decide (ooff ≠ 0)) = false) (hf : ofile < 0)
    (d : Did) (hd : mapV p.L o3 ⟨0, o4, ofile, ooff, true, o5, 7, 1, 0, false⟩ ofix = d) (hok2 : d.err = 0 → SOk (S.did2 id p d (max S.reg (ofile)))) (hgd : d.err = 0 → ∀ x, x ∈ d.gone → GoodE x ∧ x.f ≤ 1000000000) (hlen : p.L.length ≤ 790) :
    Calls Tryz.prog 66 #[.pointer (some ⟨r, 0, none⟩), .pointer (some ⟨(h.g id).b, 0, none⟩), .agg #[.int .i64 o1, .int .i64 o2, .int .i64 o3, .int .i64 o4, .int .i64 o5, .bool true, .int .i64 ofile, .int .i64 ooff, .bool ofix, .int .i64 o10, .int .i64 o11, .int .i64 o12, .int .i64 o13, .int .i64 o14]] w fun e w' => (d.err ≠ 0 ∧ e = .returned (.tuple #[.int .i64 0, .int .i64 d.err]) ∧ DnG h t r kd w w' S) ∨ (d.err = 0 ∧ e = .returned (.tuple #[.int .i64 d.n, .int .i64 0]) ∧ DnG h t r kd w w' ((S.did2 id p d (max S.reg (ofile))).forget d.gone)) := by
  have hpm := geA_some hp
  have hPI := hok.pi _ hpm
  have hr0 := hok.r0
  have hr1 := hok.r1
  have ga := World.grownBy_alloc w (.cells #[.int .i64 o1, .int .i64 o2, .int .i64 o3, .int .i64 o4, .int .i64 o5, .bool true, .int .i64 ofile, .int .i64 ooff, .bool ofix, .int .i64 o10, .int .i64 o11, .int .i64 o12, .int .i64 o13, .int .i64 o14] 34) none
  have hB := OpB.new w (⟨o1, o2, o3, o4, o5, true, ofile, ooff, ofix, o10, o11, o12, o13, o14⟩ : FOp)
  simp only at hB
  generalize hwB : w.alloc (.cells #[.int .i64 o1, .int .i64 o2, .int .i64 o3, .int .i64 o4, .int .i64 o5, .bool true, .int .i64 ofile, .int .i64 ooff, .bool ofix, .int .i64 o10, .int .i64 o11, .int .i64 o12, .int .i64 o13, .int .i64 o14] 34) = wB at *
  have kB := k.grow ga
  have hc1 := Calls.regrown_g (w := wB) fun W _ => has_at k hok ofile W
  obtain ⟨k0, k1, k2, k3, k4⟩ := kB.hw.at
  have c6 := hB.at.c6
  simp only at c6
  have r6 := cell_regrown c6
  have r1 := cell_regrown k1
  have r2 := cell_regrown k2
  have HK := Lib.hid (fun W (g : wB.grownBy W none) => k.grow (grown_trans ga g))
  have HO := Lib.hid (fun W (g : wB.grownBy W none) => hB.grow g)
  have HG := Lib.hid ga
  have HPI := Lib.hid hPI
  have HP := Lib.hid hp
  have HOk2 := Lib.hid hok2
  have HGd := Lib.hid hgd
  have HD := Lib.hid hd
  have HDid := Lib.hid (map_did hPI.mp o3 ⟨0, o4, ofile, ooff, true, o5, 7, 1, 0, false⟩ ofix)
  rw [hd] at HDid
  have HK0 := Lib.hid k
  clear hpm hPI hd hok2 hgd ga hB kB k0 k1 k2 k3 k4 c6 k hp
  have bf : decide (ofile > 0) = false := decide_eq_false (by omega)
  have be : (ofile == 0) = false := by simpa using (show ¬ ofile = 0 by omega)
  rw [show hasF S.sz ofile = false by unfold hasF; rw [decide_eq_false (show ¬ 0 < ofile by omega)]; rfl] at hc1
  clear hm1 hm2 hok
  go_enter Tryz.func66, Tryz.ntmps66
  go_upto_region 1 with fail
  refine wp_region_quiet_below (by kernel_rfl) (by kernel_rfl) ?_
  repeat (go_big_quiet_step (first | exact hc1 _ _ | fail))
  refine wpQuiet_nil ?_
  intro _ hw'
  obtain ⟨⟨dq, osq⟩, hw''⟩ := hw'
  subst hw''
  have HQ := Lib.hid (regrown_grown wB dq osq)
  clear r1 r2 r6 hc1
  generalize grow (redrawn wB dq) osq = w3 at *
  have HK3 := Lib.hid (HK.out w3 HQ.out)
  obtain ⟨c0, c1, c2, c3, c4, c5, c6, c7, c8, c9, c10, c11, c12, c13⟩ := (HO.out w3 HQ.out).at
  simp only at c0 c1 c2 c3 c4 c5 c6 c7 c8 c9 c10 c11 c12 c13
  have q5 := fun ob : Obj => (HO.out _ (grown_trans HQ.out (World.grownBy_alloc w3 ob none))).at.c5
  have q6 := fun ob : Obj => (HO.out _ (grown_trans HQ.out (World.grownBy_alloc w3 ob none))).at.c6
  have q4 := fun ob : Obj => (HK.out _ (grown_trans HQ.out (World.grownBy_alloc w3 ob none))).hw.at.2.2.2.2
  simp only at q5 q6
  go_upto_region 10 with fail
  obtain ⟨w4, hw4⟩ : ∃ w4, w3.alloc (.cells #[.int .i64 0, .int .i64 o4, .int .i64 (ofile), .int .i64 ooff, .bool true, .int .i64 o5, .int .i64 7, .int .i64 1, .int .i64 0, .bool false] 50) = w4 := ⟨_, rfl⟩
  have hE4 := EnB.new w3 ⟨0, o4, ofile, ooff, true, o5, 7, 1, 0, false⟩
  simp only at hE4
  rw [hw4] at hE4
  have g34 : w3.grownBy w4 none := by rw [← hw4]; exact World.grownBy_alloc _ _ _
  have HE4 := Lib.hid hE4
  have HQ4 := Lib.hid (grown_trans HQ.out g34)
  clear hE4 g34 c0 c1 c2 c3 c4 c5 c6 c7 c8 c9 c10 c11 c12 c13 q4 q5 q6 HK3
  try simp only [hw4]
  try clear hw4
  have HY := Lib.hid (show w.heap.size ≤ w3.heap.size from (grown_trans HG.out HQ.out).size)
  generalize w3.heap.size = y at *
  have HS := Lib.hid (fun W (g : w4.grownBy W none) => And.intro ((HK.out W (grown_trans HQ4.out g)).bw.get HP.out).at0 (And.intro (HO.out W (grown_trans HQ4.out g)).at.c2 (And.intro (HO.out W (grown_trans HQ4.out g)).at.c8 (HE4.out.grow g).all)))
  simp only at HS
  have HMap := Lib.hid (fun W (g : w4.grownBy W none) => map_ok ((HK.out W (grown_trans HQ4.out g)).bw.get HP.out).vm HPI.out.mp (by omega) o3 ⟨0, o4, ofile, ooff, true, o5, 7, 1, 0, false⟩ ofix h3 ⟨okS (x := 0) (by decide) (by decide), h4, ⟨h5, okS (x := 7) (by decide) (by decide)⟩⟩)
  simp only at HMap
  rw [HD.out] at HMap
  have HS5 := Lib.hid (show ∀ W, w4.grownBy W none → ∀ W', Turn ((h.g id).m :: blkL (h.g id).v) W W' → (W'.cell? ⟨(h.g id).b, 0, none⟩ = some (.pointer (some ⟨(h.g id).m, 0, none⟩)) ∧ W'.cell? ⟨w.heap.size, 2, none⟩ = some (.int .i64 o3) ∧ W'.cell? ⟨w.heap.size, 8, none⟩ = some (.bool ofix) ∧ W'.cell? ⟨y, 0, none⟩ = some (.int .i64 0) ∧ W'.cell? ⟨y, 1, none⟩ = some (.int .i64 o4) ∧ W'.cell? ⟨y, 2, none⟩ = some (.int .i64 (ofile)) ∧ W'.cell? ⟨y, 3, none⟩ = some (.int .i64 ooff) ∧ W'.cell? ⟨y, 4, none⟩ = some (.bool true) ∧ W'.cell? ⟨y, 5, none⟩ = some (.int .i64 o5) ∧ W'.cell? ⟨y, 6, none⟩ = some (.int .i64 7) ∧ W'.cell? ⟨y, 7, none⟩ = some (.int .i64 1) ∧ W'.cell? ⟨y, 8, none⟩ = some (.int .i64 0) ∧ W'.cell? ⟨y, 9, none⟩ = some (.bool false)) ∧ W'.cell? ⟨r, 4, none⟩ = some (.int .i64 S.reg) from fun W g W' hT => by
    have kW := HK.out W (grown_trans HQ4.out g)
    have hO := HO.out W (grown_trans HQ4.out g)
    have hE := HE4.out.grow g
    have hO' := hO.turn hT (HK0.out.apart HP.out (Nat.le_refl _))
    have hE' := hE.turn hT (HK0.out.apart HP.out HY.out)
    refine ⟨⟨turn_cell hT (kW.bw.get HP.out).at0 (heap_lt (kW.bw.get HP.out).hb) (kW.apartR HP.out (kW.bw.get HP.out).kb (by simp) (by simp)), hO'.at.c2, hO'.at.c8, hE'.all⟩, turn_cell hT kW.hw.at.2.2.2.2 (heap_lt kW.hw.head) (kW.apartR HP.out kW.hw.kr (by simp) (by simp))⟩)
  have hk0 := HS.out w4 (grown_refl _ _)
  have hkd := HS.out w4.drew (grown_drew1 _)
  go_region_held3 (fun w7 => w7.cell? ⟨(h.g id).b, 0, none⟩ = some (.pointer (some ⟨(h.g id).m, 0, none⟩)) ∧ w7.cell? ⟨w.heap.size, 2, none⟩ = some (.int .i64 o3) ∧ w7.cell? ⟨w.heap.size, 8, none⟩ = some (.bool ofix) ∧ w7.cell? ⟨y, 0, none⟩ = some (.int .i64 0) ∧ w7.cell? ⟨y, 1, none⟩ = some (.int .i64 o4) ∧ w7.cell? ⟨y, 2, none⟩ = some (.int .i64 (ofile)) ∧ w7.cell? ⟨y, 3, none⟩ = some (.int .i64 ooff) ∧ w7.cell? ⟨y, 4, none⟩ = some (.bool true) ∧ w7.cell? ⟨y, 5, none⟩ = some (.int .i64 o5) ∧ w7.cell? ⟨y, 6, none⟩ = some (.int .i64 7) ∧ w7.cell? ⟨y, 7, none⟩ = some (.int .i64 1) ∧ w7.cell? ⟨y, 8, none⟩ = some (.int .i64 0) ∧ w7.cell? ⟨y, 9, none⟩ = some (.bool false)) (first | with_reducible exact hk0 | with_reducible exact hkd | with_reducible exact hk1 | fail)
    (first
      | (go_at_call 116; with_reducible refine (HMap.out _ (grown_drew1 _)).mono ?_; rintro e w5 ⟨u, v', rfl, hgo, hV, hN, hT⟩; obtain ⟨ag, cg, hug⟩ := eown_form hgo; subst hug; obtain ⟨hk1, hr4⟩ := HS5.out _ (grown_drew1 _) _ hT; have HGo := Lib.hid hgo; have HV := Lib.hid hV; have HN := Lib.hid hN; have HT := Lib.hid hT; clear hgo hV hN hT)
      | fail)
  have kW := HK.out w4.drew (grown_trans HQ4.out (grown_drew1 _))
  obtain ⟨k5, c5⟩ := kW.mapped HP.out HV.out HN.out HT.out
  have HK5 := Lib.hid k5
  have HC5 := Lib.hid ((Ch.grown (R := own t) (kd := kd) (grown_trans HG.out (grown_trans HQ4.out (grown_drew1 _)))).trans c5)
  clear hk0 hkd HS HMap HS5 HV HN HT kW k5 c5
  by_cases he : d.err = 0
  · have b9 : (d.err != 0) = false := by simpa using he
    have hE2 := hk1.2.2.2.2.1
    have hfr := HK5.out.hw.frozen 4
    clear hk1
    go_upto_region 13 with fail
    have k6 := ((HK5.out.reg (max S.reg (ofile))).1).grow (grown_drew1 _)
    have c6 := (HC5.out.trans (HK5.out.reg (max S.reg (ofile))).2).trans (Ch.grown (R := own t) (grown_drew1 _))
    have hgw := HGo.out
    have hu6 := OwnOf.grow (eown_keep hgw (grown_set w5 r 4 (.int .i64 (max S.reg (ofile)))) (by have := heap_lt HK0.out.hw.head; have := HQ4.out.size; have := HG.out.size; show r < w4.heap.size; omega)) (grown_drew1 _)
    have hp6 : geA (setP S.ps id ⟨d.l, p.A⟩) id = some ⟨d.l, p.A⟩ := by rw [geA_setP, if_pos rfl, HP.out]; rfl
    have hF := forgets k6 hp6 (gone := d.gone) (s := ag) (c := cg) (base := w4.drew.heap.size) (by simp only [setP_setP]; exact HOk2.out he) hu6
      (by rw [(gV_b h.g id v' id).2.2]; have := (HK0.out.bw.get HP.out).sm.lt; have := HQ4.out.size; have := HG.out.size; show _ < w4.heap.size; omega)
      (by have := HK0.out.hw.fm.lt; have := HQ4.out.size; have := HG.out.size; show h.fm < w4.heap.size; omega) (by have := HDid.out.2.2.1; omega) (HGd.out he)
    simp only [setP_setP] at hF
    rw [(gV_b h.g id v' id).1] at hF
    have HFo := Lib.hid hF
    have HC6 := Lib.hid c6
    clear k6 c6 hgw hu6 hp6 hF
    go_region
    generalize (w5.setCell ⟨r, 4, none⟩ (.int .i64 (max S.reg (ofile)))).drew = w6 at *
    have HE9 := Lib.hid he
    clear hE2 hfr hr4 HGo HK5 HC5 he b9
    go_wp2_with fail
    refine HFo.out.mono ?_
    rintro e w7 ⟨rfl, h7⟩
    have H7 := Lib.hid h7
    clear h7
    go_wp2_with fail
    refine H7.out.mono ?_
    rintro e w8 ⟨rfl, k8, c8⟩
    have HD8 := Lib.hid (show DnG h t r kd w w8 ((S.did2 id p d (max S.reg (ofile))).forget d.gone) from ⟨_, _, k8, HC6.out.trans c8, fun x => (gV_b h.g id v' x).1⟩)
    clear k8 c8
    go_wp2_with fail
    go_ret2
    exact .inr ⟨HE9.out, rfl, HD8.out⟩
  · have b9 : (d.err != 0) = true := by simpa using he
    have HD5 := Lib.hid (show DnG h t r kd w w5 S from by
      have e5 := HDid.out.2.2.2.2 he
      have e6 : ({ S with ps := setP S.ps id ⟨d.l, p.A⟩ } : Fl) = S := by
        rw [e5]
        show ({ S with ps := setP S.ps id ⟨p.L, p.A⟩ } : Fl) = S
        rw [show (⟨p.L, p.A⟩ : Pr) = p from rfl, setP_same _ HK0.out.bw.nd HP.out]
      have k6 := HK5.out
      rw [e6] at k6
      exact ⟨_, _, k6, HC5.out, fun x => (gV_b h.g id v' x).1⟩)
    have HE9 := Lib.hid he
    clear hk1 hr4 he
    go_wp2_with fail
    go_ret2
    exact .inl ⟨HE9.out, rfl, HD5.out⟩
set_option maxRecDepth 100000 in
set_option maxHeartbeats 16000000 in
theorem lay_cp (k : FW w kd t r h S) (hok : SOk S) {o1 o2 o3 o4 o5 ofile ooff o10 o11 o12 o13 o14 : Int} {ofix : Bool} (h3 : okI o3) (h4 : okI o4) (h5 : okI o5) (hp : geA S.ps id = some p) (hm1 : (decide (ofile > 0) && !hasF S.sz ofile) = false) (hm2 : (decide (ofile = 0) && decide (ooff ≠ 0)) = false) (hf : ofile > 0)
    (d : Did) (hd : mapV p.L o3 ⟨0, o4, ofile, ooff, true, o5, 7, 1, 0, false⟩ ofix = d) (hok2 : d.err = 0 → SOk (S.did2 id p d (max S.reg (ofile)))) (hgd : d.err = 0 → ∀ x, x ∈ d.gone → GoodE x ∧ x.f ≤ 1000000000) (hlen : p.L.length ≤ 790) :
    Calls Tryz.prog 66 #[.pointer (some ⟨r, 0, none⟩), .pointer (some ⟨(h.g id).b, 0, none⟩), .agg #[.int .i64 o1, .int .i64 o2, .int .i64 o3, .int .i64 o4, .int .i64 o5, .bool true, .int .i64 ofile, .int .i64 ooff, .bool ofix, .int .i64 o10, .int .i64 o11, .int .i64 o12, .int .i64 o13, .int .i64 o14]] w fun e w' => (d.err ≠ 0 ∧ e = .returned (.tuple #[.int .i64 0, .int .i64 d.err]) ∧ DnG h t r kd w w' S) ∨ (d.err = 0 ∧ e = .returned (.tuple #[.int .i64 d.n, .int .i64 0]) ∧ DnG h t r kd w w' ((S.did2 id p d (max S.reg (ofile))).forget d.gone)) := by
  have hpm := geA_some hp
  have hPI := hok.pi _ hpm
  have hr0 := hok.r0
  have hr1 := hok.r1
  have ga := World.grownBy_alloc w (.cells #[.int .i64 o1, .int .i64 o2, .int .i64 o3, .int .i64 o4, .int .i64 o5, .bool true, .int .i64 ofile, .int .i64 ooff, .bool ofix, .int .i64 o10, .int .i64 o11, .int .i64 o12, .int .i64 o13, .int .i64 o14] 34) none
  have hB := OpB.new w (⟨o1, o2, o3, o4, o5, true, ofile, ooff, ofix, o10, o11, o12, o13, o14⟩ : FOp)
  simp only at hB
  generalize hwB : w.alloc (.cells #[.int .i64 o1, .int .i64 o2, .int .i64 o3, .int .i64 o4, .int .i64 o5, .bool true, .int .i64 ofile, .int .i64 ooff, .bool ofix, .int .i64 o10, .int .i64 o11, .int .i64 o12, .int .i64 o13, .int .i64 o14] 34) = wB at *
  have kB := k.grow ga
  have hc1 := Calls.regrown_g (w := wB) fun W _ => has_at k hok ofile W
  obtain ⟨k0, k1, k2, k3, k4⟩ := kB.hw.at
  have c6 := hB.at.c6
  simp only at c6
  have r6 := cell_regrown c6
  have r1 := cell_regrown k1
  have r2 := cell_regrown k2
  have HK := Lib.hid (fun W (g : wB.grownBy W none) => k.grow (grown_trans ga g))
  have HO := Lib.hid (fun W (g : wB.grownBy W none) => hB.grow g)
  have HG := Lib.hid ga
  have HPI := Lib.hid hPI
  have HP := Lib.hid hp
  have HOk2 := Lib.hid hok2
  have HGd := Lib.hid hgd
  have HD := Lib.hid hd
  have HDid := Lib.hid (map_did hPI.mp o3 ⟨0, o4, ofile, ooff, true, o5, 7, 1, 0, false⟩ ofix)
  rw [hd] at HDid
  have HK0 := Lib.hid k
  clear hpm hPI hd hok2 hgd ga hB kB k0 k1 k2 k3 k4 c6 k hp
  have bf : decide (ofile > 0) = true := decide_eq_true hf
  have be : (ofile == 0) = false := by simpa using (show ¬ ofile = 0 by omega)
  rw [bf, Bool.true_and] at hm1
  rw [show hasF S.sz ofile = true by simpa using hm1] at hc1
  clear hm1 hm2 hok
  go_enter Tryz.func66, Tryz.ntmps66
  go_upto_region 1 with fail
  refine wp_region_quiet_below (by kernel_rfl) (by kernel_rfl) ?_
  repeat (go_big_quiet_step (first | exact hc1 _ _ | fail))
  refine wpQuiet_nil ?_
  intro _ hw'
  obtain ⟨⟨dq, osq⟩, hw''⟩ := hw'
  subst hw''
  have HQ := Lib.hid (regrown_grown wB dq osq)
  clear r1 r2 r6 hc1
  generalize grow (redrawn wB dq) osq = w3 at *
  have HK3 := Lib.hid (HK.out w3 HQ.out)
  obtain ⟨c0, c1, c2, c3, c4, c5, c6, c7, c8, c9, c10, c11, c12, c13⟩ := (HO.out w3 HQ.out).at
  simp only at c0 c1 c2 c3 c4 c5 c6 c7 c8 c9 c10 c11 c12 c13
  have q5 := fun ob : Obj => (HO.out _ (grown_trans HQ.out (World.grownBy_alloc w3 ob none))).at.c5
  have q6 := fun ob : Obj => (HO.out _ (grown_trans HQ.out (World.grownBy_alloc w3 ob none))).at.c6
  have q4 := fun ob : Obj => (HK.out _ (grown_trans HQ.out (World.grownBy_alloc w3 ob none))).hw.at.2.2.2.2
  simp only at q5 q6
  go_upto_region 10 with fail
  obtain ⟨w4, hw4⟩ : ∃ w4, w3.alloc (.cells #[.int .i64 0, .int .i64 o4, .int .i64 (ofile), .int .i64 ooff, .bool true, .int .i64 o5, .int .i64 7, .int .i64 1, .int .i64 0, .bool false] 50) = w4 := ⟨_, rfl⟩
  have hE4 := EnB.new w3 ⟨0, o4, ofile, ooff, true, o5, 7, 1, 0, false⟩
  simp only at hE4
  rw [hw4] at hE4
  have g34 : w3.grownBy w4 none := by rw [← hw4]; exact World.grownBy_alloc _ _ _
  have HE4 := Lib.hid hE4
  have HQ4 := Lib.hid (grown_trans HQ.out g34)
  clear hE4 g34 c0 c1 c2 c3 c4 c5 c6 c7 c8 c9 c10 c11 c12 c13 q4 q5 q6 HK3
  try simp only [hw4]
  try clear hw4
  have HY := Lib.hid (show w.heap.size ≤ w3.heap.size from (grown_trans HG.out HQ.out).size)
  generalize w3.heap.size = y at *
  have HS := Lib.hid (fun W (g : w4.grownBy W none) => And.intro ((HK.out W (grown_trans HQ4.out g)).bw.get HP.out).at0 (And.intro (HO.out W (grown_trans HQ4.out g)).at.c2 (And.intro (HO.out W (grown_trans HQ4.out g)).at.c8 (HE4.out.grow g).all)))
  simp only at HS
  have HMap := Lib.hid (fun W (g : w4.grownBy W none) => map_ok ((HK.out W (grown_trans HQ4.out g)).bw.get HP.out).vm HPI.out.mp (by omega) o3 ⟨0, o4, ofile, ooff, true, o5, 7, 1, 0, false⟩ ofix h3 ⟨okS (x := 0) (by decide) (by decide), h4, ⟨h5, okS (x := 7) (by decide) (by decide)⟩⟩)
  simp only at HMap
  rw [HD.out] at HMap
  have HS5 := Lib.hid (show ∀ W, w4.grownBy W none → ∀ W', Turn ((h.g id).m :: blkL (h.g id).v) W W' → (W'.cell? ⟨(h.g id).b, 0, none⟩ = some (.pointer (some ⟨(h.g id).m, 0, none⟩)) ∧ W'.cell? ⟨w.heap.size, 2, none⟩ = some (.int .i64 o3) ∧ W'.cell? ⟨w.heap.size, 8, none⟩ = some (.bool ofix) ∧ W'.cell? ⟨y, 0, none⟩ = some (.int .i64 0) ∧ W'.cell? ⟨y, 1, none⟩ = some (.int .i64 o4) ∧ W'.cell? ⟨y, 2, none⟩ = some (.int .i64 (ofile)) ∧ W'.cell? ⟨y, 3, none⟩ = some (.int .i64 ooff) ∧ W'.cell? ⟨y, 4, none⟩ = some (.bool true) ∧ W'.cell? ⟨y, 5, none⟩ = some (.int .i64 o5) ∧ W'.cell? ⟨y, 6, none⟩ = some (.int .i64 7) ∧ W'.cell? ⟨y, 7, none⟩ = some (.int .i64 1) ∧ W'.cell? ⟨y, 8, none⟩ = some (.int .i64 0) ∧ W'.cell? ⟨y, 9, none⟩ = some (.bool false)) ∧ W'.cell? ⟨r, 4, none⟩ = some (.int .i64 S.reg) from fun W g W' hT => by
    have kW := HK.out W (grown_trans HQ4.out g)
    have hO := HO.out W (grown_trans HQ4.out g)
    have hE := HE4.out.grow g
    have hO' := hO.turn hT (HK0.out.apart HP.out (Nat.le_refl _))
    have hE' := hE.turn hT (HK0.out.apart HP.out HY.out)
    refine ⟨⟨turn_cell hT (kW.bw.get HP.out).at0 (heap_lt (kW.bw.get HP.out).hb) (kW.apartR HP.out (kW.bw.get HP.out).kb (by simp) (by simp)), hO'.at.c2, hO'.at.c8, hE'.all⟩, turn_cell hT kW.hw.at.2.2.2.2 (heap_lt kW.hw.head) (kW.apartR HP.out kW.hw.kr (by simp) (by simp))⟩)
  have hk0 := HS.out w4 (grown_refl _ _)
  have hkd := HS.out w4.drew (grown_drew1 _)
  go_region_held3 (fun w7 => w7.cell? ⟨(h.g id).b, 0, none⟩ = some (.pointer (some ⟨(h.g id).m, 0, none⟩)) ∧ w7.cell? ⟨w.heap.size, 2, none⟩ = some (.int .i64 o3) ∧ w7.cell? ⟨w.heap.size, 8, none⟩ = some (.bool ofix) ∧ w7.cell? ⟨y, 0, none⟩ = some (.int .i64 0) ∧ w7.cell? ⟨y, 1, none⟩ = some (.int .i64 o4) ∧ w7.cell? ⟨y, 2, none⟩ = some (.int .i64 (ofile)) ∧ w7.cell? ⟨y, 3, none⟩ = some (.int .i64 ooff) ∧ w7.cell? ⟨y, 4, none⟩ = some (.bool true) ∧ w7.cell? ⟨y, 5, none⟩ = some (.int .i64 o5) ∧ w7.cell? ⟨y, 6, none⟩ = some (.int .i64 7) ∧ w7.cell? ⟨y, 7, none⟩ = some (.int .i64 1) ∧ w7.cell? ⟨y, 8, none⟩ = some (.int .i64 0) ∧ w7.cell? ⟨y, 9, none⟩ = some (.bool false)) (first | with_reducible exact hk0 | with_reducible exact hkd | with_reducible exact hk1 | fail)
    (first
      | (go_at_call 116; with_reducible refine (HMap.out _ (grown_drew1 _)).mono ?_; rintro e w5 ⟨u, v', rfl, hgo, hV, hN, hT⟩; obtain ⟨ag, cg, hug⟩ := eown_form hgo; subst hug; obtain ⟨hk1, hr4⟩ := HS5.out _ (grown_drew1 _) _ hT; have HGo := Lib.hid hgo; have HV := Lib.hid hV; have HN := Lib.hid hN; have HT := Lib.hid hT; clear hgo hV hN hT)
      | fail)
  have kW := HK.out w4.drew (grown_trans HQ4.out (grown_drew1 _))
  obtain ⟨k5, c5⟩ := kW.mapped HP.out HV.out HN.out HT.out
  have HK5 := Lib.hid k5
  have HC5 := Lib.hid ((Ch.grown (R := own t) (kd := kd) (grown_trans HG.out (grown_trans HQ4.out (grown_drew1 _)))).trans c5)
  clear hk0 hkd HS HMap HS5 HV HN HT kW k5 c5
  by_cases he : d.err = 0
  · have b9 : (d.err != 0) = false := by simpa using he
    have hE2 := hk1.2.2.2.2.1
    have hfr := HK5.out.hw.frozen 4
    clear hk1
    go_upto_region 13 with fail
    have k6 := ((HK5.out.reg (max S.reg (ofile))).1).grow (grown_drew1 _)
    have c6 := (HC5.out.trans (HK5.out.reg (max S.reg (ofile))).2).trans (Ch.grown (R := own t) (grown_drew1 _))
    have hgw := HGo.out
    have hu6 := OwnOf.grow (eown_keep hgw (grown_set w5 r 4 (.int .i64 (max S.reg (ofile)))) (by have := heap_lt HK0.out.hw.head; have := HQ4.out.size; have := HG.out.size; show r < w4.heap.size; omega)) (grown_drew1 _)
    have hp6 : geA (setP S.ps id ⟨d.l, p.A⟩) id = some ⟨d.l, p.A⟩ := by rw [geA_setP, if_pos rfl, HP.out]; rfl
    have hF := forgets k6 hp6 (gone := d.gone) (s := ag) (c := cg) (base := w4.drew.heap.size) (by simp only [setP_setP]; exact HOk2.out he) hu6
      (by rw [(gV_b h.g id v' id).2.2]; have := (HK0.out.bw.get HP.out).sm.lt; have := HQ4.out.size; have := HG.out.size; show _ < w4.heap.size; omega)
      (by have := HK0.out.hw.fm.lt; have := HQ4.out.size; have := HG.out.size; show h.fm < w4.heap.size; omega) (by have := HDid.out.2.2.1; omega) (HGd.out he)
    simp only [setP_setP] at hF
    rw [(gV_b h.g id v' id).1] at hF
    have HFo := Lib.hid hF
    have HC6 := Lib.hid c6
    clear k6 c6 hgw hu6 hp6 hF
    go_region
    generalize (w5.setCell ⟨r, 4, none⟩ (.int .i64 (max S.reg (ofile)))).drew = w6 at *
    have HE9 := Lib.hid he
    clear hE2 hfr hr4 HGo HK5 HC5 he b9
    go_wp2_with fail
    refine HFo.out.mono ?_
    rintro e w7 ⟨rfl, h7⟩
    have H7 := Lib.hid h7
    clear h7
    go_wp2_with fail
    refine H7.out.mono ?_
    rintro e w8 ⟨rfl, k8, c8⟩
    have HD8 := Lib.hid (show DnG h t r kd w w8 ((S.did2 id p d (max S.reg (ofile))).forget d.gone) from ⟨_, _, k8, HC6.out.trans c8, fun x => (gV_b h.g id v' x).1⟩)
    clear k8 c8
    go_wp2_with fail
    go_ret2
    exact .inr ⟨HE9.out, rfl, HD8.out⟩
  · have b9 : (d.err != 0) = true := by simpa using he
    have HD5 := Lib.hid (show DnG h t r kd w w5 S from by
      have e5 := HDid.out.2.2.2.2 he
      have e6 : ({ S with ps := setP S.ps id ⟨d.l, p.A⟩ } : Fl) = S := by
        rw [e5]
        show ({ S with ps := setP S.ps id ⟨p.L, p.A⟩ } : Fl) = S
        rw [show (⟨p.L, p.A⟩ : Pr) = p from rfl, setP_same _ HK0.out.bw.nd HP.out]
      have k6 := HK5.out
      rw [e6] at k6
      exact ⟨_, _, k6, HC5.out, fun x => (gV_b h.g id v' x).1⟩)
    have HE9 := Lib.hid he
    clear hk1 hr4 he
    go_wp2_with fail
    go_ret2
    exact .inl ⟨HE9.out, rfl, HD5.out⟩
end
end Go.Proofs.YtefiiooibbkffaaGreat
