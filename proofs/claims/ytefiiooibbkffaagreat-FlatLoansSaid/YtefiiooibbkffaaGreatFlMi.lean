/- Layer 17 (landed): a world that is made. Layer 17 (landed): the lowest number that is free. Layer 17 (landed): a child beside its parent; slots that two processes have. -/
import Derived.Test.YtefiiooibbkffaaGreatFlMh
namespace Go.Proofs.YtefiiooibbkffaaGreat
open Go.ChangeShapes Go.WideShapes Go.ChangeAt Go.RowKit Go.Deep Go.Sort
open Go.Maps (Keyed)
set_option linter.unusedVariables false
set_option linter.unusedSimpArgs false

theorem mayNew_ok {sizes : List Int} (h : mayNewB sizes = true) : sizes.length ≤ 16 ∧ ∀ n, n ∈ sizes → okI n := by
  unfold mayNewB at h
  rw [Bool.and_eq_true, decide_eq_true_eq, List.all_eq_true] at h
  exact ⟨h.1, fun n hn => by have := of_decide_eq_true (h.2 n hn); exact ⟨by omega, by omega⟩⟩
theorem any_may (sizes : List Int) : (sizes.any fun n => !maySzB n) = !(sizes.all fun n => decide (0 ≤ n ∧ n ≤ 4096)) := by
  rw [List.not_all_eq_any_not]
  rfl
theorem sOk_new {sizes : List Int} (h : mayNewB sizes = true) : SOk (newF sizes) := by
  obtain ⟨h1, h2⟩ := mayNew_ok h
  refine ⟨h1, h2, fun q hq => ?_, fun q hq a ha => ?_, by simp [newF], by simp [newF], by simp [newF], by simp [newF], fun q hq => ?_, by simp [newF]⟩
  · simp only [newF, List.mem_singleton] at hq
    subst hq
    exact ⟨mapL_nil, by simp, by simp, by simp⟩
  · simp only [newF, List.mem_singleton] at hq
    subst hq
    cases ha
  · simp only [newF, List.mem_singleton] at hq
    subst hq
    exact okS (by decide) (by decide)
theorem new_no (w : World) {s : Option Addr} {c : Nat} {R : List Int} (h : ZR w (.slice s R.length c) R) (hl : R.length ≤ 1000000) (hno : mayNewB R = false) :
    Calls Tryz.prog 13 #[.slice s R.length c] w fun e w' => e = .returned (.tuple #[.pointer none, .int .i64 2]) ∧ w.grownBy w' none := by
  by_cases h16 : R.length ≤ 16
  · have b1 : decide ((R.length : Int) > 16) = false := decide_eq_false (by omega)
    have hC := zcontains_ok h hl
    unfold mayNewB at hno
    rw [decide_eq_true h16, Bool.true_and] at hno
    rw [any_may, hno] at hC
    have HC := Lib.hid hC
    clear h hC hno
    generalize R.length = n at *
    go_enter Tryz.func13, Tryz.ntmps13
    go_wp2_with fail
    refine HC.out.mono ?_
    rintro e w1 ⟨rfl, g1⟩
    have HG := Lib.hid g1
    clear g1
    go_wp2_with fail
    go_ret2
    exact ⟨rfl, HG.out⟩
  · have b1 : decide ((R.length : Int) > 16) = true := decide_eq_true (by omega)
    clear h hno
    generalize R.length = n at *
    go_enter Tryz.func13, Tryz.ntmps13
    go_wp2_with fail
    go_ret2
    exact ⟨rfl, grown_refl _ _⟩
/-- What the blocks of a new world are for. -/
def kdN (kd : Nat → Ro) (t pm : Nat) (G : PG) (sv : Value) (fm lm r : Nat) : Nat → Ro := fun x =>
  if x = pm then .w t .pm else if x = G.m then .w t (.vm 1) else if x = G.sm then .w t (.sm 1) else if x = G.b then .w t (.pb 1) else if x = fm then .w t .fm else if x = lm then .w t .lm else if x = r then .w t .head else if sv.ownBlock = some x then .w t .sz else kd x
set_option maxHeartbeats 2000000 in
theorem new_yes (w : World) (kd : Nat → Ro) (t : Nat) {s : Option Addr} {c : Nat} {R : List Int} (h : ZR w (.slice s R.length c) R) (hyes : mayNewB R = true) :
    Calls Tryz.prog 13 #[.slice s R.length c] w fun e w' => ∃ r kd' h', e = .returned (.tuple #[.pointer (some ⟨r, 0, none⟩), .int .i64 0]) ∧ FW w' kd' t r h' (newF R) ∧ Ch noRo kd kd' w w' := by
  obtain ⟨h16, hok⟩ := mayNew_ok hyes
  have b1 : decide ((R.length : Int) > 16) = false := decide_eq_false (by omega)
  have hC := zcontains_ok h (by omega)
  have hy := hyes
  unfold mayNewB at hy
  rw [decide_eq_true h16, Bool.true_and] at hy
  rw [any_may, hy] at hC
  have HC := Lib.hid hC
  have HZ := Lib.hid h
  have HN := Lib.hid newP_ok
  clear h hC hyes hy
  have hmk := fun W : World => (show (Instr.makeMap 52 none).run Tryz.prog W = .ok (.map (some W.heap.size)) (W.alloc (.map #[] 0)) from rfl)
  have hmk2 := fun W : World => (show (Instr.makeMap 53 none).run Tryz.prog W = .ok (.map (some W.heap.size)) (W.alloc (.map #[] 0)) from rfl)
  have hmk3 := fun W : World => (show (Instr.makeMap 56 none).run Tryz.prog W = .ok (.map (some W.heap.size)) (W.alloc (.map #[] 0)) from rfl)
  obtain ⟨n, hn⟩ : ∃ n, R.length = n := ⟨_, rfl⟩
  rw [hn] at HC b1 ⊢
  have HNn := Lib.hid hn
  have H16 := Lib.hid h16
  clear hn h16
  go_enter Tryz.func13, Tryz.ntmps13
  go_wp2_with fail
  refine HC.out.mono ?_
  rintro e w1 ⟨rfl, g1⟩
  have HG1 := Lib.hid g1
  clear g1
  go_wp2_with fail
  refine (HN.out _).mono ?_
  rintro e w2 ⟨G, rfl, hP, g2⟩
  have hm1 := MapV.made Tryz.prog 3 klI okW w1
  obtain ⟨w3, hup, hm3, t3⟩ := (hm1.kept (g2.block _ hm1.lt (by simp))).put lawsP (by simp [maxLen]) (.pointer (some ⟨G.b, 0, none⟩)) (okW_of (okS (x := 1) (by decide) (by decide)))
  rw [show kvI 1 = Value.int .i64 1 from rfl] at hup
  have ga1 := World.grownBy_alloc w1 (.map #[] 0) none
  have hs1 := World.size_alloc w1 (.map #[] 0)
  have g13 : w.grownBy w3 none := grown_at (grown_trans HG1.out (grown_trans ga1 g2)) t3.grown HG1.out.size
  have ho1 := hP.o1
  have ho2 := hP.o2
  have ho3 := hP.o3
  have hlt2 := heap_lt hP.hb
  have hs3 := t3.grown.size
  rw [hs1] at ho1
  have hP3 : NewP (w1.alloc (.map #[] 0)) w3 G := ⟨(t3.grown.block _ hlt2 (fun e => by have := Option.some.inj e; omega)).trans hP.hb, ⟨(t3.grown.block _ hP.vm.lt (fun e => by have := Option.some.inj e; omega)).trans hP.vm.head, OwnOf.kept hP.vm.own fun b hb => by rw [hP.nv] at hb; cases hb⟩, hP.nv, hP.sm.kept (t3.grown.block _ hP.sm.lt (fun e => by have := Option.some.inj e; omega)), hP.o1, hP.o2, hP.o3⟩
  have HCl := Lib.hid (zclone_ok (HZ.out.grow g13) (by have := H16.out; omega))
  rw [HNn.out] at HCl
  have HM3 := Lib.hid hm3
  have HP3 := Lib.hid hP3
  have HG3 := Lib.hid g13
  have HLt := Lib.hid (show G.b < w3.heap.size by omega)
  have HO1 := Lib.hid (And.intro ho1 (And.intro ho2 ho3))
  clear hP hm1 hm3 t3 ga1 g13 ho1 ho2 ho3 hlt2 hs3 hP3 hs1 g2
  have HPm := Lib.hid (show w.heap.size ≤ w1.heap.size from HG1.out.size)
  generalize w1.heap.size = pm at *
  go_wp2_with fail
  refine HCl.out.mono ?_
  rintro e w4 ⟨sv, rfl, hO, g4⟩
  have hO' : ZOwn w4 w3.heap.size sv R := hO
  obtain ⟨asv, csv, hsv⟩ := OwnOf.form hO'
  rw [HNn.out] at hsv
  subst hsv
  have g5 := World.grownBy_alloc w4 (.map #[] 0) none
  have g6 := World.grownBy_alloc (w4.alloc (.map #[] 0)) (.map #[] 0) none
  have e5 := World.size_alloc w4 (.map #[] 0)
  have e6 := World.size_alloc (w4.alloc (.map #[] 0)) (.map #[] 0)
  have m5 := MapV.made Tryz.prog 153 spotL okK w4
  have m6 := MapV.made Tryz.prog 3 klI okW (w4.alloc (.map #[] 0))
  have g7 := World.grownBy_alloc ((w4.alloc (.map #[] 0)).alloc (.map #[] 0)) (.cells #[.map (some pm), .slice asv n csv, .map (some w4.heap.size), .map (some (w4.heap.size + 1)), .int .i64 1000] 58) none
  have b7 := heap_alloc_new ((w4.alloc (.map #[] 0)).alloc (.map #[] 0)) (.cells #[.map (some pm), .slice asv n csv, .map (some w4.heap.size), .map (some (w4.heap.size + 1)), .int .i64 1000] 58)
  rw [e6, e5] at b7
  rw [e5] at m6
  have HF := Lib.hid (show ∃ kd' h', FW (((w4.alloc (.map #[] 0)).alloc (.map #[] 0)).alloc (.cells #[.map (some pm), .slice asv n csv, .map (some w4.heap.size), .map (some (w4.heap.size + 1)), .int .i64 1000] 58)) kd' t (w4.heap.size + 1 + 1) h' (newF R) ∧ Ch noRo kd kd' w (((w4.alloc (.map #[] 0)).alloc (.map #[] 0)).alloc (.cells #[.map (some pm), .slice asv n csv, .map (some w4.heap.size), .map (some (w4.heap.size + 1)), .int .i64 1000] 58)) from by
    have g47 := grown_trans g5 (grown_trans g6 g7)
    have g37 := grown_trans g4 g47
    have hP7 := HP3.out.grow g37
    have hs4 := g4.size
    have o1 := HO1.out.1
    have o2 := HO1.out.2.1
    have o3 := HO1.out.2.2
    have olt := HLt.out
    have osv : ∀ b, (Value.slice asv n csv).ownBlock = some b → w3.heap.size ≤ b ∧ b < w4.heap.size := fun b hb => OwnOf.lt hO' hb
    have opm : w.heap.size ≤ pm := HPm.out
    refine ⟨kdN kd t pm G (.slice asv n csv) w4.heap.size (w4.heap.size + 1) (w4.heap.size + 1 + 1), ⟨pm, w4.heap.size, w4.heap.size + 1, .slice asv n csv, fun _ => .pointer none, fun _ => .pointer none, fun _ => G, fun _ => 0, fun _ => .pointer none⟩, ⟨⟨b7, ?_, OwnOf.grow (OwnOf.lower hO' (Nat.zero_le _)) g47, (fun b hb => ?_), (m5.kept (g6.block _ m5.lt (by simp))).kept (g7.block _ (by rw [e6, e5]; omega) (by simp)), ?_, (fun n hn => by cases hn), m6.kept (g7.block _ (by rw [e6, e5]; omega) (by simp)), ?_, (fun n hn => by cases hn)⟩, ⟨HM3.out.kept (g37.block _ HM3.out.lt (by simp)), ?_⟩, ⟨by simp [newF], fun q hq => ?_, fun q hq a ha => ?_⟩⟩, ?_⟩
    · try simp only
      unfold kdN; rw [if_neg (by omega), if_neg (by omega), if_neg (by omega), if_neg (by omega), if_neg (by omega), if_neg (by omega), if_pos rfl]
    · have := osv b hb
      unfold kdN; rw [if_neg (by omega), if_neg (by omega), if_neg (by omega), if_neg (by omega), if_neg (by omega), if_neg (by omega), if_neg (by omega), if_pos hb]
    · try simp only
      unfold kdN; rw [if_neg (by omega), if_neg (by omega), if_neg (by omega), if_neg (by omega), if_pos rfl]
    · try simp only
      unfold kdN; rw [if_neg (by omega), if_neg (by omega), if_neg (by omega), if_neg (by omega), if_neg (by omega), if_pos rfl]
    · try simp only
      unfold kdN; rw [if_pos rfl]
    · simp only [newF, List.mem_singleton] at hq
      subst hq
      refine ⟨hP7.hb, ?_, hP7.vm, ?_, fun b hb => ?_, hP7.sm, ?_⟩
      · try simp only
        unfold kdN; rw [if_neg (by omega), if_neg (by omega), if_neg (by omega), if_pos rfl]
      · try simp only
        unfold kdN; rw [if_neg (by omega), if_pos rfl]
      · simp only [hP7.nv] at hb; cases hb
      · try simp only
        unfold kdN; rw [if_neg (by omega), if_neg (by omega), if_pos rfl]
    · simp only [newF, List.mem_singleton] at hq
      subst hq
      cases ha
    · refine (Ch.grown (R := noRo) (kd := kd) (grown_trans HG3.out g37)).name fun b hb => ?_
      have hne : ¬ (Value.slice asv n csv).ownBlock = some b := fun e => by have := osv b e; have := HG3.out.size; omega
      have := HG3.out.size
      unfold kdN; rw [if_neg (by omega), if_neg (by omega), if_neg (by omega), if_neg (by omega), if_neg (by omega), if_neg (by omega), if_neg (by omega), if_neg hne])
  clear hO hO' g4 g5 g6 e5 e6 m5 m6 g7 b7
  go_wp2_with fail
  go_ret2
  obtain ⟨kd', h', hF, hC⟩ := HF.out
  exact ⟨_, kd', h', rfl, hF, hC⟩
end Go.Proofs.YtefiiooibbkffaaGreat

namespace Go.Proofs.YtefiiooibbkffaaGreat
open Go.ChangeShapes Go.WideShapes Go.ChangeAt Go.RowKit Go.Deep Go.Sort
open Go.Maps (Keyed)
set_option linter.unusedVariables false
set_option linter.unusedSimpArgs false

set_option maxHeartbeats 1000000 in
theorem lowP_ok {α : Type} {w : World} {M : Nat} (N : List (Int × α)) (f : Int → α → Value) (h : MapV Tryz.prog 3 klI okW w M (N.map fun n => (n.1, f n.1 n.2))) (hl : N.length ≤ 1000000) :
    Calls Tryz.prog 132 #[.map (some M)] w fun e w' => e = .returned (.int .i64 (lowA N)) ∧ w' = w := by
  obtain ⟨i0, h0, h1, h2, h3⟩ := lowA_spec N
  rw [h0]
  have HL := Lib.hid (fun (i : Nat) (hi : i ≤ N.length) => (show (Instr.lookup 52 (.map (some M)) (.int .i64 ((i : Int) + 1)) true).run Tryz.prog w = .ok (.tuple #[((geA N ((i : Int) + 1)).map (f ((i : Int) + 1))).getD (.pointer none), .bool (geA N ((i : Int) + 1)).isSome]) w from by
    have hx := h.look2 lawsP (x := (i : Int) + 1) (okW_of ⟨by omega, by omega⟩)
    rw [lookV_map f] at hx
    have h4 : ((geA N ((i : Int) + 1)).map (f ((i : Int) + 1))).isSome = (geA N ((i : Int) + 1)).isSome := by cases geA N ((i : Int) + 1) <;> rfl
    rw [h4] at hx
    exact hx))
  have H2 := Lib.hid h2
  have H3 := Lib.hid h3
  clear h h0 h2 h3
  go_enter Tryz.func132, Tryz.ntmps132
  go_wp2_with fail
  go_loop [3] (fun nv => ∃ i : Nat, i ≤ i0 ∧ nv = .int .i64 ((i : Int) + 1)) (fun nv => i0 + 1 - (intOf nv).toNat)
  case atStart => exact ⟨0, by omega, rfl⟩
  case round =>
    obtain ⟨i, hi, rfl⟩ := hrel
    have hk := HL.out i (by omega)
    by_cases hlt : i < i0
    · have e3 := H3.out i hlt
      rw [e3] at hk
      generalize ((geA N ((i : Int) + 1)).map (f ((i : Int) + 1))).getD (.pointer none) = u at *
      clear e3
      go_wp2_with fail
      go_round
      case rel => exact ⟨i + 1, by omega, by go_num⟩
      case measure => simp [intOf]; omega
    · obtain rfl : i = i0 := by omega
      rw [H2.out] at hk
      simp only [Option.map_none, Option.getD_none, Option.isSome_none] at hk
      go_wp2_with fail
      go_ret
      exact ⟨rfl, rfl⟩
set_option maxHeartbeats 1000000 in
theorem lowH_ok {α : Type} {w : World} {M : Nat} (N : List (Int × α)) (f : Int → α → Value) (h : MapV Tryz.prog 3 klI okW w M (N.map fun n => (n.1, f n.1 n.2))) (hl : N.length ≤ 1000000) :
    Calls Tryz.prog 133 #[.map (some M)] w fun e w' => e = .returned (.int .i64 (lowA N)) ∧ w' = w := by
  obtain ⟨i0, h0, h1, h2, h3⟩ := lowA_spec N
  rw [h0]
  have HL := Lib.hid (fun (i : Nat) (hi : i ≤ N.length) => (show (Instr.lookup 56 (.map (some M)) (.int .i64 ((i : Int) + 1)) true).run Tryz.prog w = .ok (.tuple #[((geA N ((i : Int) + 1)).map (f ((i : Int) + 1))).getD (.pointer none), .bool (geA N ((i : Int) + 1)).isSome]) w from by
    have hx := h.look2 lawsH (x := (i : Int) + 1) (okW_of ⟨by omega, by omega⟩)
    rw [lookV_map f] at hx
    have h4 : ((geA N ((i : Int) + 1)).map (f ((i : Int) + 1))).isSome = (geA N ((i : Int) + 1)).isSome := by cases geA N ((i : Int) + 1) <;> rfl
    rw [h4] at hx
    exact hx))
  have H2 := Lib.hid h2
  have H3 := Lib.hid h3
  clear h h0 h2 h3
  go_enter Tryz.func133, Tryz.ntmps133
  go_wp2_with fail
  go_loop [3] (fun nv => ∃ i : Nat, i ≤ i0 ∧ nv = .int .i64 ((i : Int) + 1)) (fun nv => i0 + 1 - (intOf nv).toNat)
  case atStart => exact ⟨0, by omega, rfl⟩
  case round =>
    obtain ⟨i, hi, rfl⟩ := hrel
    have hk := HL.out i (by omega)
    by_cases hlt : i < i0
    · have e3 := H3.out i hlt
      rw [e3] at hk
      generalize ((geA N ((i : Int) + 1)).map (f ((i : Int) + 1))).getD (.pointer none) = u at *
      clear e3
      go_wp2_with fail
      go_round
      case rel => exact ⟨i + 1, by omega, by go_num⟩
      case measure => simp [intOf]; omega
    · obtain rfl : i = i0 := by omega
      rw [H2.out] at hk
      simp only [Option.map_none, Option.getD_none, Option.isSome_none] at hk
      go_wp2_with fail
      go_ret
      exact ⟨rfl, rfl⟩
end Go.Proofs.YtefiiooibbkffaaGreat

namespace Go.Proofs.YtefiiooibbkffaaGreat
open Go.ChangeShapes Go.WideShapes Go.ChangeAt Go.RowKit Go.Deep Go.Sort
open Go.Maps (Keyed)
set_option linter.unusedVariables false
set_option linter.unusedSimpArgs false

theorem EnB.ch {R : Ro → Prop} {kd kd' : Nat → Ro} {w w' : World} {y : Nat} {x : En} (h : EnB w y x) (hk : kd y = .no) (c : Ch R kd kd' w w') (hr : ¬ R .no) : EnB w' y x ∧ kd' y = .no :=
  ⟨(c.block y h.lt (by rw [hk]; exact hr)).trans h, (c.kd y h.lt).trans hk⟩
theorem geA_qs {n id : Int} {ch pa : Pr} {ps : List (Int × Pr)} {p0 : Pr} (hn : n ≠ id) (hp : geA ps id = some p0) : geA ((n, ch) :: setP ps id pa) n = some ch ∧ geA ((n, ch) :: setP ps id pa) id = some pa := by
  refine ⟨by rw [geA_cons, if_pos rfl], ?_⟩
  rw [geA_cons, if_neg hn, geA_setP, if_pos rfl, hp]
  rfl
theorem setP_no {ps : List (Int × Pr)} {n : Int} {p : Pr} (h : geA ps n = none) : setP ps n p = ps := by
  unfold setP
  conv => rhs; rw [← List.map_id ps]
  refine List.map_congr_left fun q hq => ?_
  rw [if_neg (geA_none h q hq)]
  rfl
theorem qs_ch {n id : Int} {ch ch' pa : Pr} {ps : List (Int × Pr)} (hn : n ≠ id) (h : geA ps n = none) : setP ((n, ch) :: setP ps id pa) n ch' = (n, ch') :: setP ps id pa := by
  have h1 : geA (setP ps id pa) n = none := by rw [geA_setP, if_neg hn, h]
  have h2 := setP_no (p := ch') h1
  unfold setP at h2 ⊢
  rw [List.map_cons, h2]
  simp
theorem qs_pa {n id : Int} {ch pa pa' : Pr} {ps : List (Int × Pr)} (hn : n ≠ id) : setP ((n, ch) :: setP ps id pa) id pa' = (n, ch) :: setP ps id pa' := by
  have h2 := setP_setP ps id pa pa'
  unfold setP at h2 ⊢
  rw [List.map_cons, h2, if_neg hn]
section
variable {w w' : World} {kd kd' : Nat → Ro} {t : Nat} {id : Int} {ι ι' : Nat → Nat} {p : Pr} {g : Int → PG} {sp : Nat → Value} {c : Nat → Option (List UInt8)} {qs : List (Int × Pr)}
/-- A process's page has a slot that is there already. -/
theorem BW.slot_ref (k : BW w kd t g ι sp c qs) {p : Pr} (hp : geA qs id = some p) {pg : Int} {s : Nat} (hS : SlA w kd t (ι s) s (sp s) (c s)) (hw : w.grownBy w' (some (g id).sm))
    (hm : MapV Tryz.prog 3 klI okW w' (g id).sm ((pg, .pointer (some ⟨ι s, 0, none⟩)) :: dropV (p.A.map fun a => (a.1, .pointer (some ⟨ι a.2, 0, none⟩))) pg)) :
    BW w' kd t g ι sp c (setP qs id ⟨p.L, puA p.A pg s⟩) ∧ Ch (fun ρ => ρ = .w t (.sm id)) kd kd w w' := by
  have hP := k.get hp
  have hch : Ch (fun ρ => ρ = .w t (.sm id)) kd kd w w' := Ch.one hw hP.ks
  refine ⟨⟨by rw [setP_ids]; exact k.nd, fun q hq => ?_, fun q hq a ha => ?_⟩, hch⟩
  · rcases mem_setP hq with ⟨h1, h2⟩ | rfl
    · exact (k.pr q h2).ch hch (by simp) (by simp) (by simp) (by simpa using h1)
    · refine ⟨(hch.block _ (heap_lt hP.hb) (by rw [hP.kb]; simp)).trans hP.hb, hP.kb, ⟨(hch.block _ hP.vm.lt (by rw [hP.km]; simp)).trans hP.vm.head, OwnOf.kept hP.vm.own fun x hx => hch.block x (OwnOf.lt hP.vm.own hx).2 (by rw [hP.kv x hx]; simp)⟩, hP.km, hP.kv, ?_, hP.ks⟩
      have e : ((puA p.A pg s).map fun a => (a.1, Value.pointer (some ⟨ι a.2, 0, none⟩))) = (pg, .pointer (some ⟨ι s, 0, none⟩)) :: dropV (p.A.map fun a => (a.1, .pointer (some ⟨ι a.2, 0, none⟩))) pg := by
        unfold puA drA dropV
        rw [List.map_cons, List.filter_map]
        rfl
      rw [e]
      exact hm
  · rcases mem_setP hq with ⟨h1, h2⟩ | rfl
    · exact (k.sl q h2 a ha).ch hch (by simp) (by simp)
    · rcases mem_puA ha with rfl | ⟨ha, -⟩
      · exact hS.ch hch (by simp) (by simp)
      · exact (k.sl _ (geA_some hp) a ha).ch hch (by simp) (by simp)
end
/-- What a fork may turn. -/
def forkRo (t : Nat) (n id : Int) (ρ : Ro) : Prop := ρ = .w t (.vm n) ∨ ρ = .w t (.vr n) ∨ ρ = .w t (.sm n) ∨ ρ = .w t (.sm id)
theorem fork_sm {t : Nat} {n id : Int} : ∀ ρ, ρ = .w t (.sm n) → forkRo t n id ρ := fun ρ h => .inr (.inr (.inl h))
theorem fork_sm2 {t : Nat} {n id : Int} : ∀ ρ, ρ = .w t (.sm id) → forkRo t n id ρ := fun ρ h => .inr (.inr (.inr h))
theorem fork_vm {t : Nat} {n id : Int} : ∀ ρ, vmRo t n ρ → forkRo t n id ρ := fun ρ h => by
  rcases h with h | h
  · exact .inl h
  · exact .inr (.inl h)
theorem fork_own {t : Nat} {n id : Int} : ∀ ρ, forkRo t n id ρ → own t ρ := fun ρ h => by
  rcases h with h | h | h | h <;> exact ⟨_, h⟩
/-- A fork under way. -/
structure TkS (w wr : World) (kd : Nat → Ro) (t : Nat) (g : Int → PG) (n id : Int) (ps : List (Int × Pr)) (k : Fk) (kd' : Nat → Ro) (g' : Int → PG) (ι' : Nat → Nat) (sp' : Nat → Value) : Prop where
  bw : BW wr kd' t g' ι' sp' k.c ((n, k.ch) :: setP ps id k.pa)
  ch : Ch (forkRo t n id) kd kd' w wr
  gb : ∀ x, (g' x).b = (g x).b ∧ (g' x).m = (g x).m ∧ (g' x).sm = (g x).sm
  nx : ∀ q, q ∈ (n, k.ch) :: setP ps id k.pa → ∀ a, a ∈ q.2.A → a.2 < k.nx
def Tk (w wr : World) (kd : Nat → Ro) (t : Nat) (g : Int → PG) (n id : Int) (ps : List (Int × Pr)) (k : Fk) (y : Nat) (x : En) : Prop := ∃ kd' g' ι' sp', TkS w wr kd t g n id ps k kd' g' ι' sp' ∧ EnB wr y x ∧ kd' y = .no
theorem slot_lt {p : Pr} {c : Nat → Option (List UInt8)} {nx : Nat} {pg : Int} (h : ∀ a, a ∈ p.A → a.2 < nx) : (slotF p c nx pg).s < (slotF p c nx pg).nx ∧ nx ≤ (slotF p c nx pg).nx ∧ (∀ a, a ∈ (slotF p c nx pg).p.A → a.2 < (slotF p c nx pg).nx) ∧ (slotF p c nx pg).p.L = p.L ∧ (slotF p c nx pg).p.A.length ≤ p.A.length + 1 ∧ (slotF p c nx pg).nx ≤ nx + 1 := by
  unfold slotF
  cases hg : geA p.A pg with
  | some s => exact ⟨h _ (geA_some hg), Nat.le_refl _, h, rfl, by simp, by simp⟩
  | none =>
    refine ⟨by simp, by simp, fun a ha => ?_, rfl, puA_len _ _ _, Nat.le_refl _⟩
    rcases mem_puA ha with rfl | ⟨h1, -⟩
    · simp
    · have := h a h1; simp only; omega
end Go.Proofs.YtefiiooibbkffaaGreat
