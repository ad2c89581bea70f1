/- Layer 17 (landed): a child takes an entry of its parent's, and the slots of its pages. -/
import Derived.Test.YtefiiooibbkffaaGreatFlMh
namespace Go.Proofs.YtefiiooibbkffaaGreat
open Go.ChangeShapes Go.WideShapes Go.ChangeAt Go.RowKit Go.Deep Go.Sort
set_option linter.unusedVariables false
set_option linter.unusedSimpArgs false

theorem pages_len (x : En) : (pagesE x).length = (x.e - x.s).toNat := by simp [pagesE]
theorem pages_at {x : En} {j : Nat} (h : j < (x.e - x.s).toNat) : (pagesE x)[j]? = some (x.s + j) := by
  unfold pagesE
  rw [List.getElem?_map, List.getElem?_range h]
  rfl
theorem pages_fold {α : Type} (f : α → Int → α) (k : α) {x : En} {j : Nat} (h : j < (x.e - x.s).toNat) : ((pagesE x).take (j + 1)).foldl f k = f (((pagesE x).take j).foldl f k) (x.s + j) := by
  rw [takel_at (pages_at h), List.foldl_append]
  rfl
/-- How long what a fork has under way may be. -/
def TkL (k : Fk) (a b : Nat) : Prop := k.ch.A.length ≤ a ∧ k.pa.A.length ≤ b
theorem tkL_next {k : Fk} {a b : Nat} {x : En} {pg : Int} (h : TkL k a b) (hn : ∀ q, q ∈ k.pa.A → q.2 < k.nx) : TkL (takePg x k pg) (a + 1) (b + 1) := by
  obtain ⟨h1, h2⟩ := h
  unfold takePg TkL
  split
  · have := puA_len k.ch.A pg (slotF k.pa k.c k.nx pg).s
    have := (slot_lt (c := k.c) (pg := pg) hn).2.2.2.2.1
    exact ⟨by (try simp only); omega, by (try simp only); omega⟩
  · cases ownF k.c k.pa pg with
    | none => exact ⟨by (try simp only); omega, by (try simp only); omega⟩
    | some b =>
      have := puA_len k.ch.A pg k.nx
      exact ⟨by (try simp only); omega, by (try simp only); omega⟩
section
variable {w w' : World} {kd kd' : Nat → Ro} {t : Nat} {n id : Int} {ι : Nat → Nat} {g : Int → PG} {sp : Nat → Value} {ps : List (Int × Pr)} {k : Fk}
set_option maxRecDepth 100000 in
set_option maxHeartbeats 16000000 in
theorem take_a (k0 : BW w kd t g ι sp k.c ((n, k.ch) :: setP ps id k.pa)) (hnx : ∀ q, q ∈ (n, k.ch) :: setP ps id k.pa → ∀ a, a ∈ q.2.A → a.2 < k.nx) (hn : n ≠ id) (hno : geA ps n = none) {p0 : Pr} (hp : geA ps id = some p0) (x : En) (hx : GoodE x) (hi : x.i = 0) (hm : MapL k.ch.L) (hl : k.ch.L.length ≤ 890)
    (hA1 : k.ch.A.length + (x.e - x.s).toNat ≤ 100000000) (hA2 : k.pa.A.length + (x.e - x.s).toNat ≤ 100000000) :
    Calls Tryz.prog 131 #[.pointer (some ⟨(g n).b, 0, none⟩), .pointer (some ⟨(g id).b, 0, none⟩), .agg #[.int .i64 x.s, .int .i64 x.e, .int .i64 x.f, .int .i64 x.o, .bool x.sh, .int .i64 x.p, .int .i64 x.m, .int .i64 x.i, .int .i64 x.a, .bool x.wi]] w fun e w' => e = .returned (.tuple #[]) ∧ ∃ kd' g' ι' sp', TkS w w' kd t g n id ps (takeF k x) kd' g' ι' sp' := by
  have b0 : (x.i == 0) = true := by simpa using hi
  have b1 : (x.i == 1) = false := by simpa using (show ¬ x.i = 1 by omega)
  have hTE : takeE x = { x with sh := false } := by unfold takeE; rw [if_pos hi]
  obtain ⟨d, hd⟩ : ∃ d, mapV k.ch.L x.s { x with sh := false } true = d := ⟨_, rfl⟩
  have HTF := Lib.hid (show takeF k x = if (d.err = 0 ∧ x.sh = false) then (pagesE x).foldl (takePg x) ⟨⟨d.l, k.ch.A⟩, k.pa, k.c, k.nx⟩ else ⟨⟨d.l, k.ch.A⟩, k.pa, k.c, k.nx⟩ by unfold takeF; rw [hTE, hd])
  have HI := Lib.hid (show ¬ x.i = 1 by omega)
  have hxs := hx.s0
  have hxe := hx.e1
  have hxl := hx.lt
  have ga := World.grownBy_alloc w (.cells #[.int .i64 x.s, .int .i64 x.e, .int .i64 x.f, .int .i64 x.o, .bool false, .int .i64 x.p, .int .i64 x.m, .int .i64 x.i, .int .i64 x.a, .bool x.wi] 50) none
  have hB := EnB.new w { x with sh := false }
  try simp only at hB
  have cB := Ch.new noRo kd w (.cells #[.int .i64 x.s, .int .i64 x.e, .int .i64 x.f, .int .i64 x.o, .bool false, .int .i64 x.p, .int .i64 x.m, .int .i64 x.i, .int .i64 x.a, .bool x.wi] 50) .no
  have k1 := k0.ch cB (no_ro _) (fun _ => no_ro _) (fun _ => no_ro _) (fun _ => no_ro _) (fun _ => no_ro _) (fun _ => no_ro _)
  obtain ⟨wB, hwB⟩ : ∃ wB, w.alloc (.cells #[.int .i64 x.s, .int .i64 x.e, .int .i64 x.f, .int .i64 x.o, .bool false, .int .i64 x.p, .int .i64 x.m, .int .i64 x.i, .int .i64 x.a, .bool x.wi] 50) = wB := ⟨_, rfl⟩
  rw [hwB] at ga hB cB k1
  obtain ⟨kdB, hkB⟩ : ∃ f, upd kd w.heap.size .no = f := ⟨_, rfl⟩
  rw [hkB] at cB k1
  have HkB := Lib.hid (show kdB w.heap.size = .no by rw [← hkB]; exact upd_same _ _ _)
  have HK1 := Lib.hid (fun W (g : wB.grownBy W none) => k1.ch (R := noRo) (Ch.grown g) (no_ro _) (fun _ => no_ro _) (fun _ => no_ro _) (fun _ => no_ro _) (fun _ => no_ro _) (fun _ => no_ro _))
  have HE1 := Lib.hid (fun W (g : wB.grownBy W none) => hB.grow g)
  have HCB := Lib.hid cB
  have hne := Lib.hid hn
  have hps := Lib.hid hno
  have hp0 := Lib.hid hp
  have hNX := Lib.hid hnx
  have HPn := Lib.hid (k0.get (geA_qs (ch := k.ch) (pa := k.pa) hn hp).1)
  have HS := Lib.hid (fun W (g : wB.grownBy W none) => And.intro ((HK1.out W g).get (geA_qs hn hp).1).at0 (HE1.out W g).all)
  have HMap := Lib.hid (fun W (g : wB.grownBy W none) => map_ok ((HK1.out W g).get (geA_qs hn hp).1).vm hm (by omega) x.s { x with sh := false } true ⟨by omega, by omega⟩ ⟨⟨by (try simp only); omega, by (try simp only); omega⟩, ⟨by (try simp only); omega, by (try simp only); omega⟩, hx.ok.p, hx.ok.m⟩)
  try simp only at HS
  try simp only at HMap
  rw [hd] at HMap
  have hk0 := HS.out wB (grown_refl _ _)
  have hkd := HS.out wB.drew (grown_drew1 _)
  have HS5 := Lib.hid (show ∀ W', Turn ((g n).m :: blkL (g n).v) wB.drew W' → W'.cell? ⟨(g n).b, 0, none⟩ = some (.pointer (some ⟨(g n).m, 0, none⟩)) ∧ W'.cell? ⟨w.heap.size, 0, none⟩ = some (.int .i64 x.s) ∧ W'.cell? ⟨w.heap.size, 1, none⟩ = some (.int .i64 x.e) ∧ W'.cell? ⟨w.heap.size, 2, none⟩ = some (.int .i64 x.f) ∧ W'.cell? ⟨w.heap.size, 3, none⟩ = some (.int .i64 x.o) ∧ W'.cell? ⟨w.heap.size, 4, none⟩ = some (.bool false) ∧ W'.cell? ⟨w.heap.size, 5, none⟩ = some (.int .i64 x.p) ∧ W'.cell? ⟨w.heap.size, 6, none⟩ = some (.int .i64 x.m) ∧ W'.cell? ⟨w.heap.size, 7, none⟩ = some (.int .i64 x.i) ∧ W'.cell? ⟨w.heap.size, 8, none⟩ = some (.int .i64 x.a) ∧ W'.cell? ⟨w.heap.size, 9, none⟩ = some (.bool x.wi) from fun W' hT => by
    have kW := HK1.out wB.drew (grown_drew1 _)
    have hP := kW.get (geA_qs hne.out hp0.out).1
    have hE := (HE1.out wB.drew (grown_drew1 _)).turn hT (fun hm => by
      rcases List.mem_cons.1 hm with e | hm
      · have := HPn.out.vm.lt; omega
      · have := (OwnOf.lt HPn.out.vm.own (mem_blk.1 hm)).2; omega)
    refine ⟨turn_cell hT hP.at0 (heap_lt hP.hb) (fun hm => ?_), hE.all⟩
    rcases List.mem_cons.1 hm with e | hm
    · have h1 := hP.kb; rw [e, hP.km] at h1; simp at h1
    · have h1 := hP.kb; rw [hP.kv _ (mem_blk.1 hm)] at h1; simp at h1)
  have g0 := (World.grownBy_alloc w (.cells #[.int .i64 x.s, .int .i64 x.e, .int .i64 x.f, .int .i64 x.o, .bool x.sh, .int .i64 x.p, .int .i64 x.m, .int .i64 x.i, .int .i64 x.a, .bool x.wi] 50) none)
  clear k0 hnx hn hno hp hd hTE ga hB cB k1 hkB hm hx hi g0
  go_enter Tryz.func131, Tryz.ntmps131
  go_upto_region 4 with fail
  try simp only [hwB]
  clear hwB
  go_region_held3 (fun w7 => w7.cell? ⟨(g n).b, 0, none⟩ = some (.pointer (some ⟨(g n).m, 0, none⟩)) ∧ w7.cell? ⟨w.heap.size, 0, none⟩ = some (.int .i64 x.s) ∧ w7.cell? ⟨w.heap.size, 1, none⟩ = some (.int .i64 x.e) ∧ w7.cell? ⟨w.heap.size, 2, none⟩ = some (.int .i64 x.f) ∧ w7.cell? ⟨w.heap.size, 3, none⟩ = some (.int .i64 x.o) ∧ w7.cell? ⟨w.heap.size, 4, none⟩ = some (.bool false) ∧ w7.cell? ⟨w.heap.size, 5, none⟩ = some (.int .i64 x.p) ∧ w7.cell? ⟨w.heap.size, 6, none⟩ = some (.int .i64 x.m) ∧ w7.cell? ⟨w.heap.size, 7, none⟩ = some (.int .i64 x.i) ∧ w7.cell? ⟨w.heap.size, 8, none⟩ = some (.int .i64 x.a) ∧ w7.cell? ⟨w.heap.size, 9, none⟩ = some (.bool x.wi)) (first | with_reducible exact hk0 | with_reducible exact hkd | with_reducible exact hk1 | fail)
    (first
      | (go_at_call 116; with_reducible refine (HMap.out _ (grown_drew1 _)).mono ?_; rintro e w5 ⟨u, v', rfl, hgo, hV, hN, hT⟩; have hk1 := HS5.out _ hT; have HV := Lib.hid hV; have HN := Lib.hid hN; have HT := Lib.hid hT; clear hgo hV hN hT)
      | fail)
  obtain ⟨k5, c5⟩ := (HK1.out wB.drew (grown_drew1 _)).mapped (geA_qs hne.out hp0.out).1 HV.out HN.out HT.out
  rw [qs_ch hne.out hps.out] at k5
  have hE5 : EnB w5 w.heap.size { x with sh := false } := (HE1.out wB.drew (grown_drew1 _)).turn HT.out (fun hm => by
      rcases List.mem_cons.1 hm with e | hm
      · have := HPn.out.vm.lt; omega
      · have := (OwnOf.lt HPn.out.vm.own (mem_blk.1 hm)).2; omega)
  have HTk := Lib.hid (show Tk w w5 kd t g n id ps ⟨⟨d.l, k.ch.A⟩, k.pa, k.c, k.nx⟩ w.heap.size { x with sh := false } from ⟨kdV kdB t n v', gV g n v', ι, sp, ⟨k5, ((HCB.out.mono fun _ e => (no_ro _ e).elim).trans (Ch.grown (grown_drew1 _))).trans (c5.mono fork_vm), gV_b g n v', fun q hq a ha => by
    rcases List.mem_cons.1 hq with rfl | hq
    · exact hNX.out (n, k.ch) (by simp) a ha
    · exact hNX.out q (List.mem_cons_of_mem _ hq) a ha⟩, hE5, (c5.kd _ (by have := (HE1.out wB.drew (grown_drew1 _)).lt; exact this)).trans HkB.out⟩)
  have hY := hE5.all
  try simp only at hY
  obtain ⟨y0, y1, -, -, -, -, -, y7, -, -⟩ := hY
  clear k5 c5 hE5 HV HN HT hk0 hkd HS HMap HS5 HK1 HE1 HCB HPn hk1
  by_cases he : d.err = 0
  · have b9 : (d.err != 0) = false := by simpa using he
    cases hsh : x.sh with
    | true =>
      have HR := Lib.hid (show ∃ kd' g' ι' sp', TkS w w5 kd t g n id ps (takeF k x) kd' g' ι' sp' by
        rw [HTF.out, if_neg (by rw [hsh]; simp)]
        obtain ⟨a1, a2, a3, a4, a5, -⟩ := HTk.out
        exact ⟨a1, a2, a3, a4, a5⟩)
      clear HTk HTF he y0 y1 y7
      go_wp2_with fail
      (try simp only [Exit.inBlock, Exit.then])
      refine bodyPost_ret (results_none rfl _ _ _) rfl ?_
      exact ⟨rfl, HR.out⟩
    | false =>
      have HTF2 := Lib.hid (show takeF k x = (pagesE x).foldl (takePg x) ⟨⟨d.l, k.ch.A⟩, k.pa, k.c, k.nx⟩ by rw [HTF.out, if_pos ⟨he, hsh⟩])
      clear HTF he
      obtain ⟨K0, hK0⟩ : ∃ K0 : Fk, ⟨⟨d.l, k.ch.A⟩, k.pa, k.c, k.nx⟩ = K0 := ⟨_, rfl⟩
      have HL0 := Lib.hid (show TkL K0 (k.ch.A.length) (k.pa.A.length) by rw [← hK0]; exact ⟨Nat.le_refl _, Nat.le_refl _⟩)
      rw [hK0] at HTk HTF2
      clear hK0
      obtain ⟨len, hlen⟩ : ∃ len, (x.e - x.s).toNat = len := ⟨_, rfl⟩
      have hxe2 : x.e = x.s + len := by omega
      have HLen := Lib.hid hlen
      have HXe := Lib.hid hxe2
      have hb1 : x.s + (len : Int) ≤ 67108864 := by omega
      rw [hlen] at hA1 hA2
      clear hlen hxe2 hxe hxl
      go_wp2_with fail
      go_loopw [10] (fun pv wr => ∃ j : Nat, j ≤ len ∧ pv = .int .i64 (x.s + j) ∧ Hid (Tk w wr kd t g n id ps (((pagesE x).take j).foldl (takePg x) K0) w.heap.size { x with sh := false }) ∧ Hid (TkL (((pagesE x).take j).foldl (takePg x) K0) (k.ch.A.length + j) (k.pa.A.length + j))) (fun pv _ => (x.s + len - intOf pv).toNat)
      case atStart => exact ⟨0, by omega, by go_num, HTk, HL0⟩
      case round =>
        obtain ⟨j, hj, rfl, HTj, HL⟩ := hrel
        clear HTk HL0 y0 y1 y7
        obtain ⟨kd1, g1, ι1, sp1, hT, hEB, hkB⟩ := HTj.out
        have hE1 := hEB.all.2.1
        try simp only at hE1
        rw [HXe.out] at hE1
        by_cases hlt : j < len
        · have hlt' := hlt
          rw [← HLen.out] at hlt
          obtain ⟨K, hK⟩ : ∃ K, ((pagesE x).take j).foldl (takePg x) K0 = K := ⟨_, rfl⟩
          have HK := Lib.hid hK
          rw [hK] at hT HL
          have hpg : okI (x.s + j) := ⟨by omega, by omega⟩
          have hAp : K.pa.A.length ≤ 100000000 := by have := HL.out.2; omega
          have hAc : K.ch.A.length ≤ 100000000 := by have := HL.out.1; omega
          clear hK HTj
          have hE7 := hEB.all.2.2.2.2.2.2.2.1
          have HO := Lib.hid (own_ok (sp := sp1) (c := K.c) (hT.bw.get (geA_qs hne.out hp0.out).2) (hT.bw.sl _ (geA_some (geA_qs hne.out hp0.out).2)) (pg := x.s + j) hpg)
          rw [(hT.gb id).1] at HO
          have hSh := ownV_sh (hT.bw.sl _ (geA_some (geA_qs hne.out hp0.out).2)) (x.s + j)
          have HTL := Lib.hid (tkL_next (x := x) (pg := x.s + j) HL.out (hT.nx (id, K.pa) (geA_some (geA_qs hne.out hp0.out).2)))
          have HKn := Lib.hid (show takePg x K (x.s + j) = ((pagesE x).take (j + 1)).foldl (takePg x) K0 by rw [pages_fold _ _ hlt, HK.out])
          rw [HKn.out] at HTL
          obtain ⟨u, hu⟩ : ∃ u, ownV sp1 K.c K.pa (x.s + j) = u := ⟨_, rfl⟩
          rw [hu] at hSh HO
          clear hu
          obtain ⟨q9, rfl, hq9⟩ := hSh.form
          cases hown : ownF K.c K.pa (x.s + j) with
          | none =>
            rw [hown] at HO
            have HTk := Lib.hid (show Tk w wr kd t g n id ps (((pagesE x).take (j + 1)).foldl (takePg x) K0) w.heap.size { x with sh := false } by
              rw [← HKn.out, show takePg x K (x.s + j) = K by unfold takePg; rw [if_neg HI.out, hown]]
              exact ⟨_, _, _, _, hT, hEB, hkB⟩)
            simp only [Option.isSome_none] at HO
            clear hT hEB hkB HL HK hAp hAc hSh hown
            try simp only at hE7
            go_wp2_with fail
            refine HO.out.mono ?_
            rintro e w4 ⟨rfl, e4⟩
            subst e4
            go_wp2_with fail
            go_roundw
            case rel => exact ⟨j + 1, by omega, by go_num, HTk, HTL⟩
            case measure => simp [intOf]; omega
          | some b =>
            rw [hown] at HO hSh
            have hch := hT.bw.get (geA_qs hne.out hp0.out).1
            have c1 : wr.cell? ⟨(g n).b, 1, none⟩ = some (.map (some (g n).sm)) := by have := hch.at1; rw [(hT.gb n).1, (hT.gb n).2.2] at this; exact this
            have ga := World.grownBy_alloc wr (.cells #[.pointer q9] 158 (0, 0)) none
            have hu9 := heap_alloc_new wr (.cells #[.pointer q9] 158 (0, 0))
            have hPA := hch.ch (R := noRo) (Ch.grown ga) (no_ro _) (no_ro _) (no_ro _) (no_ro _)
            have c1A := hPA.at1
            rw [(hT.gb n).1, (hT.gb n).2.2] at c1A
            obtain ⟨w9, hup, h9, t9⟩ := hPA.sm.put lawsS (by rw [List.length_map]; unfold maxLen; omega) (.pointer (some ⟨wr.heap.size, 0, none⟩)) (okW_of hpg)
            rw [show kvI (x.s + j) = Value.int .i64 (x.s + j) from rfl, (hT.gb n).2.2] at hup
            have hne9 : (g1 n).sm ≠ wr.heap.size := by have := hch.sm.lt; omega
            have hu10 : w9.heap[wr.heap.size]? = some (.cells #[.pointer q9] 158 (0, 0)) := (t9.grown.block _ (heap_lt hu9) (fun e => hne9 (Option.some.inj e).symm)).trans hu9
            have hgw : wr.grownBy w9 (some (g1 n).sm) := grown_before ga t9.grown
            have hS9 : Sh w9 kd1 (.pointer q9) (some b) := hSh.ch (R := fun ρ => ρ = .w t (.sm n)) (Ch.one hgw hch.ks) (by simp)
            obtain ⟨hbw, hch9⟩ := hT.bw.slot_new (geA_qs hne.out hp0.out).1 hT.nx (pg := x.s + j) hS9 hgw (Nat.le_refl _) hu10 h9
            rw [qs_ch hne.out hps.out] at hbw
            have hE9 := hEB.ch hkB hch9 (by simp)
            have HTk := Lib.hid (show Tk w w9 kd t g n id ps (((pagesE x).take (j + 1)).foldl (takePg x) K0) w.heap.size { x with sh := false } by
              rw [← HKn.out, show takePg x K (x.s + j) = ⟨⟨K.ch.L, puA K.ch.A (x.s + j) K.nx⟩, K.pa, upd K.c K.nx (some b), K.nx + 1⟩ by unfold takePg; rw [if_neg HI.out, hown]]
              refine ⟨_, _, _, _, ⟨hbw, hT.ch.trans (hch9.mono fork_sm), hT.gb, fun q hq a ha => ?_⟩, hE9⟩
              have h0 := hT.nx
              rcases List.mem_cons.1 hq with rfl | hq
              · rcases mem_puA ha with rfl | ⟨ha, -⟩
                · simp
                · have := h0 (n, K.ch) (by simp) a ha; simp only; omega
              · have := h0 q (List.mem_cons_of_mem _ hq) a ha; simp only; omega)
            simp only [Option.isSome_some] at HO
            clear hT hEB hkB HL HK hAp hAc hSh hown hch ga hu9 hPA h9 t9 hne9 hu10 hgw hS9 hbw hch9 hE9
            try simp only at hE7
            go_wp2_with fail
            refine HO.out.mono ?_
            rintro e w4 ⟨rfl, e4⟩
            subst e4
            go_wp2_with fail
            go_roundw
            case rel => exact ⟨j + 1, by omega, by go_num, HTk, HTL⟩
            case measure => simp [intOf]; omega
        · obtain rfl : j = len := by omega
          have HR := Lib.hid (show ∃ kd' g' ι' sp', TkS w wr kd t g n id ps (takeF k x) kd' g' ι' sp' by
            rw [HTF2.out]
            rw [List.take_of_length_le (by rw [pages_len, HLen.out]; exact Nat.le_refl _)] at hT
            exact ⟨_, _, _, _, hT⟩)
          clear hT hEB hkB HL HTj
          go_wp2_with fail
          go_end0
          exact ⟨rfl, HR.out⟩
  · have b9 : (d.err != 0) = true := by simpa using he
    have HR := Lib.hid (show ∃ kd' g' ι' sp', TkS w w5 kd t g n id ps (takeF k x) kd' g' ι' sp' by
      rw [HTF.out, if_neg (fun e => he e.1)]
      obtain ⟨a1, a2, a3, a4, a5, -⟩ := HTk.out
      exact ⟨a1, a2, a3, a4, a5⟩)
    clear HTk HTF he y0 y1 y7
    go_wp2_with fail
    (try simp only [Exit.inBlock, Exit.then])
    refine bodyPost_ret (results_none rfl _ _ _) rfl ?_
    exact ⟨rfl, HR.out⟩
set_option maxRecDepth 100000 in
set_option maxHeartbeats 16000000 in
theorem take_b (k0 : BW w kd t g ι sp k.c ((n, k.ch) :: setP ps id k.pa)) (hnx : ∀ q, q ∈ (n, k.ch) :: setP ps id k.pa → ∀ a, a ∈ q.2.A → a.2 < k.nx) (hn : n ≠ id) (hno : geA ps n = none) {p0 : Pr} (hp : geA ps id = some p0) (x : En) (hx : GoodE x) (hi : x.i = 1) (hm : MapL k.ch.L) (hl : k.ch.L.length ≤ 890)
    (hA1 : k.ch.A.length + (x.e - x.s).toNat ≤ 100000000) (hA2 : k.pa.A.length + (x.e - x.s).toNat ≤ 100000000) :
    Calls Tryz.prog 131 #[.pointer (some ⟨(g n).b, 0, none⟩), .pointer (some ⟨(g id).b, 0, none⟩), .agg #[.int .i64 x.s, .int .i64 x.e, .int .i64 x.f, .int .i64 x.o, .bool x.sh, .int .i64 x.p, .int .i64 x.m, .int .i64 x.i, .int .i64 x.a, .bool x.wi]] w fun e w' => e = .returned (.tuple #[]) ∧ ∃ kd' g' ι' sp', TkS w w' kd t g n id ps (takeF k x) kd' g' ι' sp' := by
  have b0 : (x.i == 0) = false := by simpa using (show ¬ x.i = 0 by omega)
  have b1 : (x.i == 1) = true := by simpa using hi
  have hTE : takeE x = x := by unfold takeE; rw [if_neg (by omega)]
  obtain ⟨d, hd⟩ : ∃ d, mapV k.ch.L x.s x true = d := ⟨_, rfl⟩
  have HTF := Lib.hid (show takeF k x = if (d.err = 0 ∧ x.sh = false) then (pagesE x).foldl (takePg x) ⟨⟨d.l, k.ch.A⟩, k.pa, k.c, k.nx⟩ else ⟨⟨d.l, k.ch.A⟩, k.pa, k.c, k.nx⟩ by unfold takeF; rw [hTE, hd])
  have HI := Lib.hid hi
  have hxs := hx.s0
  have hxe := hx.e1
  have hxl := hx.lt
  have ga := World.grownBy_alloc w (.cells #[.int .i64 x.s, .int .i64 x.e, .int .i64 x.f, .int .i64 x.o, .bool x.sh, .int .i64 x.p, .int .i64 x.m, .int .i64 x.i, .int .i64 x.a, .bool x.wi] 50) none
  have hB := EnB.new w x
  try simp only at hB
  have cB := Ch.new noRo kd w (.cells #[.int .i64 x.s, .int .i64 x.e, .int .i64 x.f, .int .i64 x.o, .bool x.sh, .int .i64 x.p, .int .i64 x.m, .int .i64 x.i, .int .i64 x.a, .bool x.wi] 50) .no
  have k1 := k0.ch cB (no_ro _) (fun _ => no_ro _) (fun _ => no_ro _) (fun _ => no_ro _) (fun _ => no_ro _) (fun _ => no_ro _)
  obtain ⟨wB, hwB⟩ : ∃ wB, w.alloc (.cells #[.int .i64 x.s, .int .i64 x.e, .int .i64 x.f, .int .i64 x.o, .bool x.sh, .int .i64 x.p, .int .i64 x.m, .int .i64 x.i, .int .i64 x.a, .bool x.wi] 50) = wB := ⟨_, rfl⟩
  rw [hwB] at ga hB cB k1
  obtain ⟨kdB, hkB⟩ : ∃ f, upd kd w.heap.size .no = f := ⟨_, rfl⟩
  rw [hkB] at cB k1
  have HkB := Lib.hid (show kdB w.heap.size = .no by rw [← hkB]; exact upd_same _ _ _)
  have HK1 := Lib.hid (fun W (g : wB.grownBy W none) => k1.ch (R := noRo) (Ch.grown g) (no_ro _) (fun _ => no_ro _) (fun _ => no_ro _) (fun _ => no_ro _) (fun _ => no_ro _) (fun _ => no_ro _))
  have HE1 := Lib.hid (fun W (g : wB.grownBy W none) => hB.grow g)
  have HCB := Lib.hid cB
  have hne := Lib.hid hn
  have hps := Lib.hid hno
  have hp0 := Lib.hid hp
  have hNX := Lib.hid hnx
  have HPn := Lib.hid (k0.get (geA_qs (ch := k.ch) (pa := k.pa) hn hp).1)
  have HS := Lib.hid (fun W (g : wB.grownBy W none) => And.intro ((HK1.out W g).get (geA_qs hn hp).1).at0 (HE1.out W g).all)
  have HMap := Lib.hid (fun W (g : wB.grownBy W none) => map_ok ((HK1.out W g).get (geA_qs hn hp).1).vm hm (by omega) x.s x true ⟨by omega, by omega⟩ ⟨⟨by (try simp only); omega, by (try simp only); omega⟩, ⟨by (try simp only); omega, by (try simp only); omega⟩, hx.ok.p, hx.ok.m⟩)
  try simp only at HS
  try simp only at HMap
  rw [hd] at HMap
  have hk0 := HS.out wB (grown_refl _ _)
  have hkd := HS.out wB.drew (grown_drew1 _)
  have HS5 := Lib.hid (show ∀ W', Turn ((g n).m :: blkL (g n).v) wB.drew W' → W'.cell? ⟨(g n).b, 0, none⟩ = some (.pointer (some ⟨(g n).m, 0, none⟩)) ∧ W'.cell? ⟨w.heap.size, 0, none⟩ = some (.int .i64 x.s) ∧ W'.cell? ⟨w.heap.size, 1, none⟩ = some (.int .i64 x.e) ∧ W'.cell? ⟨w.heap.size, 2, none⟩ = some (.int .i64 x.f) ∧ W'.cell? ⟨w.heap.size, 3, none⟩ = some (.int .i64 x.o) ∧ W'.cell? ⟨w.heap.size, 4, none⟩ = some (.bool x.sh) ∧ W'.cell? ⟨w.heap.size, 5, none⟩ = some (.int .i64 x.p) ∧ W'.cell? ⟨w.heap.size, 6, none⟩ = some (.int .i64 x.m) ∧ W'.cell? ⟨w.heap.size, 7, none⟩ = some (.int .i64 x.i) ∧ W'.cell? ⟨w.heap.size, 8, none⟩ = some (.int .i64 x.a) ∧ W'.cell? ⟨w.heap.size, 9, none⟩ = some (.bool x.wi) from fun W' hT => by
    have kW := HK1.out wB.drew (grown_drew1 _)
    have hP := kW.get (geA_qs hne.out hp0.out).1
    have hE := (HE1.out wB.drew (grown_drew1 _)).turn hT (fun hm => by
      rcases List.mem_cons.1 hm with e | hm
      · have := HPn.out.vm.lt; omega
      · have := (OwnOf.lt HPn.out.vm.own (mem_blk.1 hm)).2; omega)
    refine ⟨turn_cell hT hP.at0 (heap_lt hP.hb) (fun hm => ?_), hE.all⟩
    rcases List.mem_cons.1 hm with e | hm
    · have h1 := hP.kb; rw [e, hP.km] at h1; simp at h1
    · have h1 := hP.kb; rw [hP.kv _ (mem_blk.1 hm)] at h1; simp at h1)
  have g0 := (World.grownBy_alloc w (.cells #[.int .i64 x.s, .int .i64 x.e, .int .i64 x.f, .int .i64 x.o, .bool x.sh, .int .i64 x.p, .int .i64 x.m, .int .i64 x.i, .int .i64 x.a, .bool x.wi] 50) none)
  clear k0 hnx hn hno hp hd hTE ga hB cB k1 hkB hm hx hi g0
  go_enter Tryz.func131, Tryz.ntmps131
  go_upto_region 4 with fail
  try simp only [hwB]
  clear hwB
  go_region_held3 (fun w7 => w7.cell? ⟨(g n).b, 0, none⟩ = some (.pointer (some ⟨(g n).m, 0, none⟩)) ∧ w7.cell? ⟨w.heap.size, 0, none⟩ = some (.int .i64 x.s) ∧ w7.cell? ⟨w.heap.size, 1, none⟩ = some (.int .i64 x.e) ∧ w7.cell? ⟨w.heap.size, 2, none⟩ = some (.int .i64 x.f) ∧ w7.cell? ⟨w.heap.size, 3, none⟩ = some (.int .i64 x.o) ∧ w7.cell? ⟨w.heap.size, 4, none⟩ = some (.bool x.sh) ∧ w7.cell? ⟨w.heap.size, 5, none⟩ = some (.int .i64 x.p) ∧ w7.cell? ⟨w.heap.size, 6, none⟩ = some (.int .i64 x.m) ∧ w7.cell? ⟨w.heap.size, 7, none⟩ = some (.int .i64 x.i) ∧ w7.cell? ⟨w.heap.size, 8, none⟩ = some (.int .i64 x.a) ∧ w7.cell? ⟨w.heap.size, 9, none⟩ = some (.bool x.wi)) (first | with_reducible exact hk0 | with_reducible exact hkd | with_reducible exact hk1 | fail)
    (first
      | (go_at_call 116; with_reducible refine (HMap.out _ (grown_drew1 _)).mono ?_; rintro e w5 ⟨u, v', rfl, hgo, hV, hN, hT⟩; have hk1 := HS5.out _ hT; have HV := Lib.hid hV; have HN := Lib.hid hN; have HT := Lib.hid hT; clear hgo hV hN hT)
      | fail)
  obtain ⟨k5, c5⟩ := (HK1.out wB.drew (grown_drew1 _)).mapped (geA_qs hne.out hp0.out).1 HV.out HN.out HT.out
  rw [qs_ch hne.out hps.out] at k5
  have hE5 : EnB w5 w.heap.size x := (HE1.out wB.drew (grown_drew1 _)).turn HT.out (fun hm => by
      rcases List.mem_cons.1 hm with e | hm
      · have := HPn.out.vm.lt; omega
      · have := (OwnOf.lt HPn.out.vm.own (mem_blk.1 hm)).2; omega)
  have HTk := Lib.hid (show Tk w w5 kd t g n id ps ⟨⟨d.l, k.ch.A⟩, k.pa, k.c, k.nx⟩ w.heap.size x from ⟨kdV kdB t n v', gV g n v', ι, sp, ⟨k5, ((HCB.out.mono fun _ e => (no_ro _ e).elim).trans (Ch.grown (grown_drew1 _))).trans (c5.mono fork_vm), gV_b g n v', fun q hq a ha => by
    rcases List.mem_cons.1 hq with rfl | hq
    · exact hNX.out (n, k.ch) (by simp) a ha
    · exact hNX.out q (List.mem_cons_of_mem _ hq) a ha⟩, hE5, (c5.kd _ (by have := (HE1.out wB.drew (grown_drew1 _)).lt; exact this)).trans HkB.out⟩)
  have hY := hE5.all
  try simp only at hY
  obtain ⟨y0, y1, -, -, -, -, -, y7, -, -⟩ := hY
  clear k5 c5 hE5 HV HN HT hk0 hkd HS HMap HS5 HK1 HE1 HCB HPn hk1
  by_cases he : d.err = 0
  · have b9 : (d.err != 0) = false := by simpa using he
    cases hsh : x.sh with
    | true =>
      have HR := Lib.hid (show ∃ kd' g' ι' sp', TkS w w5 kd t g n id ps (takeF k x) kd' g' ι' sp' by
        rw [HTF.out, if_neg (by rw [hsh]; simp)]
        obtain ⟨a1, a2, a3, a4, a5, -⟩ := HTk.out
        exact ⟨a1, a2, a3, a4, a5⟩)
      clear HTk HTF he y0 y1 y7
      go_wp2_with fail
      (try simp only [Exit.inBlock, Exit.then])
      refine bodyPost_ret (results_none rfl _ _ _) rfl ?_
      exact ⟨rfl, HR.out⟩
    | false =>
      have HTF2 := Lib.hid (show takeF k x = (pagesE x).foldl (takePg x) ⟨⟨d.l, k.ch.A⟩, k.pa, k.c, k.nx⟩ by rw [HTF.out, if_pos ⟨he, hsh⟩])
      clear HTF he
      obtain ⟨K0, hK0⟩ : ∃ K0 : Fk, ⟨⟨d.l, k.ch.A⟩, k.pa, k.c, k.nx⟩ = K0 := ⟨_, rfl⟩
      have HL0 := Lib.hid (show TkL K0 (k.ch.A.length) (k.pa.A.length) by rw [← hK0]; exact ⟨Nat.le_refl _, Nat.le_refl _⟩)
      rw [hK0] at HTk HTF2
      clear hK0
      obtain ⟨len, hlen⟩ : ∃ len, (x.e - x.s).toNat = len := ⟨_, rfl⟩
      have hxe2 : x.e = x.s + len := by omega
      have HLen := Lib.hid hlen
      have HXe := Lib.hid hxe2
      have hb1 : x.s + (len : Int) ≤ 67108864 := by omega
      rw [hlen] at hA1 hA2
      clear hlen hxe2 hxe hxl
      go_wp2_with fail
      go_loopw [10] (fun pv wr => ∃ j : Nat, j ≤ len ∧ pv = .int .i64 (x.s + j) ∧ Hid (Tk w wr kd t g n id ps (((pagesE x).take j).foldl (takePg x) K0) w.heap.size x) ∧ Hid (TkL (((pagesE x).take j).foldl (takePg x) K0) (k.ch.A.length + j) (k.pa.A.length + j))) (fun pv _ => (x.s + len - intOf pv).toNat)
      case atStart => exact ⟨0, by omega, by go_num, HTk, HL0⟩
      case round =>
        obtain ⟨j, hj, rfl, HTj, HL⟩ := hrel
        clear HTk HL0 y0 y1 y7
        obtain ⟨kd1, g1, ι1, sp1, hT, hEB, hkB⟩ := HTj.out
        have hE1 := hEB.all.2.1
        try simp only at hE1
        rw [HXe.out] at hE1
        by_cases hlt : j < len
        · have hlt' := hlt
          rw [← HLen.out] at hlt
          obtain ⟨K, hK⟩ : ∃ K, ((pagesE x).take j).foldl (takePg x) K0 = K := ⟨_, rfl⟩
          have HK := Lib.hid hK
          rw [hK] at hT HL
          have hpg : okI (x.s + j) := ⟨by omega, by omega⟩
          have hAp : K.pa.A.length ≤ 100000000 := by have := HL.out.2; omega
          have hAc : K.ch.A.length ≤ 100000000 := by have := HL.out.1; omega
          clear hK HTj
          have HNe2 := Lib.hid (show takePg x K (x.s + j) = ⟨⟨K.ch.L, puA K.ch.A (x.s + j) (slotF K.pa K.c K.nx (x.s + j)).s⟩, (slotF K.pa K.c K.nx (x.s + j)).p, (slotF K.pa K.c K.nx (x.s + j)).c, (slotF K.pa K.c K.nx (x.s + j)).nx⟩ by unfold takePg; rw [if_pos HI.out])
          have hch := hT.bw.get (geA_qs hne.out hp0.out).1
          have c1 : wr.cell? ⟨(g n).b, 1, none⟩ = some (.map (some (g n).sm)) := by have := hch.at1; rw [(hT.gb n).1, (hT.gb n).2.2] at this; exact this
          have HSl := Lib.hid (slotAt_ok (hT.bw.ch (R := noRo) (Ch.grown (grown_drew1 wr)) (no_ro _) (fun _ => no_ro _) (fun _ => no_ro _) (fun _ => no_ro _) (fun _ => no_ro _) (fun _ => no_ro _)) (geA_qs hne.out hp0.out).2 hT.nx hAp (pg := x.s + j) hpg)
          rw [(hT.gb id).1] at HSl
          have HFin := Lib.hid (show ∀ w5 kd5 ι5 sp5, SlotD wr.drew w5 kd1 t g1 ι1 sp1 K.c K.nx ((n, K.ch) :: setP ps id K.pa) id K.pa (x.s + j) kd5 ι5 sp5 → ∃ w9, (Instr.mapUpdate 106 (.map (some (g n).sm)) (.int .i64 (x.s + j)) (.pointer (some ⟨ι5 (slotF K.pa K.c K.nx (x.s + j)).s, 0, none⟩))).run Tryz.prog w5 = .ok () w9 ∧ w9.cell? ⟨(g n).b, 1, none⟩ = some (.map (some (g n).sm)) ∧ Tk w w9 kd t g n id ps (takePg x K (x.s + j)) w.heap.size x from fun w5 kd5 ι5 sp5 hD => by
            have hb := hD.bw
            rw [qs_pa hne.out] at hb
            have hg := geA_qs (n := n) (id := id) (ch := K.ch) (pa := (slotF K.pa K.c K.nx (x.s + j)).p) hne.out hp0.out
            have hc5 := hb.get hg.1
            obtain ⟨w9, hup, h9, t9⟩ := hc5.sm.put lawsS (by rw [List.length_map]; unfold maxLen; omega) (.pointer (some ⟨ι5 (slotF K.pa K.c K.nx (x.s + j)).s, 0, none⟩)) (okW_of hpg)
            obtain ⟨k9, c9⟩ := hb.slot_ref hg.1 hD.hb t9.grown h9
            rw [qs_ch hne.out hps.out] at k9
            have hcc := k9.get (geA_qs hne.out hp0.out).1
            rw [show kvI (x.s + j) = Value.int .i64 (x.s + j) from rfl] at hup
            rw [(hT.gb n).2.2] at hup
            have hE5 := (hEB.grow (grown_drew1 wr)).ch hkB hD.ch (by simp)
            have hE9 := hE5.1.ch hE5.2 c9 (by simp)
            refine ⟨w9, hup, by have := hcc.at1; rw [(hT.gb n).1, (hT.gb n).2.2] at this; exact this, kd5, g1, ι5, sp5, ⟨?_, ((hT.ch.trans (Ch.grown (grown_drew1 wr))).trans (hD.ch.mono fork_sm2)).trans (c9.mono fork_sm), hT.gb, ?_⟩, hE9⟩
            · rw [HNe2.out]; exact k9
            · rw [HNe2.out]
              have hsl := slot_lt (c := K.c) (pg := x.s + j) (hT.nx (id, K.pa) (geA_some (geA_qs hne.out hp0.out).2))
              have h0 := hT.nx
              intro q hq a ha
              rcases List.mem_cons.1 hq with rfl | hq
              · rcases mem_puA ha with rfl | ⟨ha, -⟩
                · exact hsl.1
                · exact Nat.lt_of_lt_of_le (h0 (n, K.ch) (by simp) a ha) hsl.2.1
              · rcases mem_setP hq with ⟨h1, h2⟩ | rfl
                · have h3 : q ∈ setP ps id K.pa := List.mem_map.2 ⟨q, h2, by rw [if_neg h1]⟩
                  exact Nat.lt_of_lt_of_le (h0 q (List.mem_cons_of_mem _ h3) a ha) hsl.2.1
                · exact hsl.2.2.1 a ha)
          have hkd := ((hT.bw.ch (R := noRo) (Ch.grown (grown_drew1 wr)) (no_ro _) (fun _ => no_ro _) (fun _ => no_ro _) (fun _ => no_ro _) (fun _ => no_ro _) (fun _ => no_ro _)).get (geA_qs hne.out hp0.out).1).at1
          rw [(hT.gb n).1, (hT.gb n).2.2] at hkd
          have hE7 := hEB.all.2.2.2.2.2.2.2.1
          have hbw5 := Lib.hid (show ∀ w5 kd5 ι5 sp5, SlotD wr.drew w5 kd1 t g1 ι1 sp1 K.c K.nx ((n, K.ch) :: setP ps id K.pa) id K.pa (x.s + j) kd5 ι5 sp5 → w5.cell? ⟨(g n).b, 1, none⟩ = some (.map (some (g n).sm)) from fun w5 kd5 ι5 sp5 hD => by
            have hb := hD.bw
            rw [qs_pa hne.out] at hb
            have := (hb.get (geA_qs hne.out hp0.out).1).at1
            rw [(hT.gb n).1, (hT.gb n).2.2] at this
            exact this)
          have HTL := Lib.hid (tkL_next (x := x) (pg := x.s + j) HL.out (hT.nx (id, K.pa) (geA_some (geA_qs hne.out hp0.out).2)))
          have HKn := Lib.hid (show takePg x K (x.s + j) = ((pagesE x).take (j + 1)).foldl (takePg x) K0 by rw [pages_fold _ _ hlt, HK.out])
          rw [HKn.out] at HTL
          clear hT hEB hkB hch HL HK hAp hAc
          try simp only at hE7
          go_upto_region 10 with fail
          go_region_held3 (fun w7 => w7.cell? ⟨(g n).b, 1, none⟩ = some (.map (some (g n).sm))) (first | with_reducible exact c1 | with_reducible exact hkd | with_reducible exact hk1 | with_reducible exact hk9 | fail)
            (first
              | (go_at_call 129; with_reducible refine HSl.out.mono ?_; rintro e w5 ⟨kd5, ι5, sp5, rfl, hD⟩; have hk1 := hbw5.out _ _ _ _ hD; obtain ⟨w9, hup, hk9, hTk⟩ := HFin.out _ _ _ _ hD; have HTk := Lib.hid hTk; generalize ι5 (slotF K.pa K.c K.nx (x.s + j)).s = gs at *; clear hD hTk)
              | fail)
          rw [HKn.out] at HTk
          go_wp2_with fail
          go_roundw
          case rel => exact ⟨j + 1, by omega, by go_num, HTk, HTL⟩
          case measure => simp [intOf]; omega
        · obtain rfl : j = len := by omega
          have HR := Lib.hid (show ∃ kd' g' ι' sp', TkS w wr kd t g n id ps (takeF k x) kd' g' ι' sp' by
            rw [HTF2.out]
            rw [List.take_of_length_le (by rw [pages_len, HLen.out]; exact Nat.le_refl _)] at hT
            exact ⟨_, _, _, _, hT⟩)
          clear hT hEB hkB HL HTj
          go_wp2_with fail
          go_end0
          exact ⟨rfl, HR.out⟩
  · have b9 : (d.err != 0) = true := by simpa using he
    have HR := Lib.hid (show ∃ kd' g' ι' sp', TkS w w5 kd t g n id ps (takeF k x) kd' g' ι' sp' by
      rw [HTF.out, if_neg (fun e => he e.1)]
      obtain ⟨a1, a2, a3, a4, a5, -⟩ := HTk.out
      exact ⟨a1, a2, a3, a4, a5⟩)
    clear HTk HTF he y0 y1 y7
    go_wp2_with fail
    (try simp only [Exit.inBlock, Exit.then])
    refine bodyPost_ret (results_none rfl _ _ _) rfl ?_
    exact ⟨rfl, HR.out⟩
set_option maxRecDepth 100000 in
set_option maxHeartbeats 16000000 in
theorem take_c (k0 : BW w kd t g ι sp k.c ((n, k.ch) :: setP ps id k.pa)) (hnx : ∀ q, q ∈ (n, k.ch) :: setP ps id k.pa → ∀ a, a ∈ q.2.A → a.2 < k.nx) (hn : n ≠ id) (hno : geA ps n = none) {p0 : Pr} (hp : geA ps id = some p0) (x : En) (hx : GoodE x) (hi0 : x.i ≠ 0) (hi : x.i ≠ 1) (hm : MapL k.ch.L) (hl : k.ch.L.length ≤ 890)
    (hA1 : k.ch.A.length + (x.e - x.s).toNat ≤ 100000000) (hA2 : k.pa.A.length + (x.e - x.s).toNat ≤ 100000000) :
    Calls Tryz.prog 131 #[.pointer (some ⟨(g n).b, 0, none⟩), .pointer (some ⟨(g id).b, 0, none⟩), .agg #[.int .i64 x.s, .int .i64 x.e, .int .i64 x.f, .int .i64 x.o, .bool x.sh, .int .i64 x.p, .int .i64 x.m, .int .i64 x.i, .int .i64 x.a, .bool x.wi]] w fun e w' => e = .returned (.tuple #[]) ∧ ∃ kd' g' ι' sp', TkS w w' kd t g n id ps (takeF k x) kd' g' ι' sp' := by
  have b0 : (x.i == 0) = false := by simpa using hi0
  have b1 : (x.i == 1) = false := by simpa using hi
  have hTE : takeE x = x := by unfold takeE; rw [if_neg hi0]
  obtain ⟨d, hd⟩ : ∃ d, mapV k.ch.L x.s x true = d := ⟨_, rfl⟩
  have HTF := Lib.hid (show takeF k x = if (d.err = 0 ∧ x.sh = false) then (pagesE x).foldl (takePg x) ⟨⟨d.l, k.ch.A⟩, k.pa, k.c, k.nx⟩ else ⟨⟨d.l, k.ch.A⟩, k.pa, k.c, k.nx⟩ by unfold takeF; rw [hTE, hd])
  have HI := Lib.hid hi
  have hxs := hx.s0
  have hxe := hx.e1
  have hxl := hx.lt
  have ga := World.grownBy_alloc w (.cells #[.int .i64 x.s, .int .i64 x.e, .int .i64 x.f, .int .i64 x.o, .bool x.sh, .int .i64 x.p, .int .i64 x.m, .int .i64 x.i, .int .i64 x.a, .bool x.wi] 50) none
  have hB := EnB.new w x
  try simp only at hB
  have cB := Ch.new noRo kd w (.cells #[.int .i64 x.s, .int .i64 x.e, .int .i64 x.f, .int .i64 x.o, .bool x.sh, .int .i64 x.p, .int .i64 x.m, .int .i64 x.i, .int .i64 x.a, .bool x.wi] 50) .no
  have k1 := k0.ch cB (no_ro _) (fun _ => no_ro _) (fun _ => no_ro _) (fun _ => no_ro _) (fun _ => no_ro _) (fun _ => no_ro _)
  obtain ⟨wB, hwB⟩ : ∃ wB, w.alloc (.cells #[.int .i64 x.s, .int .i64 x.e, .int .i64 x.f, .int .i64 x.o, .bool x.sh, .int .i64 x.p, .int .i64 x.m, .int .i64 x.i, .int .i64 x.a, .bool x.wi] 50) = wB := ⟨_, rfl⟩
  rw [hwB] at ga hB cB k1
  obtain ⟨kdB, hkB⟩ : ∃ f, upd kd w.heap.size .no = f := ⟨_, rfl⟩
  rw [hkB] at cB k1
  have HkB := Lib.hid (show kdB w.heap.size = .no by rw [← hkB]; exact upd_same _ _ _)
  have HK1 := Lib.hid (fun W (g : wB.grownBy W none) => k1.ch (R := noRo) (Ch.grown g) (no_ro _) (fun _ => no_ro _) (fun _ => no_ro _) (fun _ => no_ro _) (fun _ => no_ro _) (fun _ => no_ro _))
  have HE1 := Lib.hid (fun W (g : wB.grownBy W none) => hB.grow g)
  have HCB := Lib.hid cB
  have hne := Lib.hid hn
  have hps := Lib.hid hno
  have hp0 := Lib.hid hp
  have hNX := Lib.hid hnx
  have HPn := Lib.hid (k0.get (geA_qs (ch := k.ch) (pa := k.pa) hn hp).1)
  have HS := Lib.hid (fun W (g : wB.grownBy W none) => And.intro ((HK1.out W g).get (geA_qs hn hp).1).at0 (HE1.out W g).all)
  have HMap := Lib.hid (fun W (g : wB.grownBy W none) => map_ok ((HK1.out W g).get (geA_qs hn hp).1).vm hm (by omega) x.s x true ⟨by omega, by omega⟩ ⟨⟨by (try simp only); omega, by (try simp only); omega⟩, ⟨by (try simp only); omega, by (try simp only); omega⟩, hx.ok.p, hx.ok.m⟩)
  try simp only at HS
  try simp only at HMap
  rw [hd] at HMap
  have hk0 := HS.out wB (grown_refl _ _)
  have hkd := HS.out wB.drew (grown_drew1 _)
  have HS5 := Lib.hid (show ∀ W', Turn ((g n).m :: blkL (g n).v) wB.drew W' → W'.cell? ⟨(g n).b, 0, none⟩ = some (.pointer (some ⟨(g n).m, 0, none⟩)) ∧ W'.cell? ⟨w.heap.size, 0, none⟩ = some (.int .i64 x.s) ∧ W'.cell? ⟨w.heap.size, 1, none⟩ = some (.int .i64 x.e) ∧ W'.cell? ⟨w.heap.size, 2, none⟩ = some (.int .i64 x.f) ∧ W'.cell? ⟨w.heap.size, 3, none⟩ = some (.int .i64 x.o) ∧ W'.cell? ⟨w.heap.size, 4, none⟩ = some (.bool x.sh) ∧ W'.cell? ⟨w.heap.size, 5, none⟩ = some (.int .i64 x.p) ∧ W'.cell? ⟨w.heap.size, 6, none⟩ = some (.int .i64 x.m) ∧ W'.cell? ⟨w.heap.size, 7, none⟩ = some (.int .i64 x.i) ∧ W'.cell? ⟨w.heap.size, 8, none⟩ = some (.int .i64 x.a) ∧ W'.cell? ⟨w.heap.size, 9, none⟩ = some (.bool x.wi) from fun W' hT => by
    have kW := HK1.out wB.drew (grown_drew1 _)
    have hP := kW.get (geA_qs hne.out hp0.out).1
    have hE := (HE1.out wB.drew (grown_drew1 _)).turn hT (fun hm => by
      rcases List.mem_cons.1 hm with e | hm
      · have := HPn.out.vm.lt; omega
      · have := (OwnOf.lt HPn.out.vm.own (mem_blk.1 hm)).2; omega)
    refine ⟨turn_cell hT hP.at0 (heap_lt hP.hb) (fun hm => ?_), hE.all⟩
    rcases List.mem_cons.1 hm with e | hm
    · have h1 := hP.kb; rw [e, hP.km] at h1; simp at h1
    · have h1 := hP.kb; rw [hP.kv _ (mem_blk.1 hm)] at h1; simp at h1)
  have g0 := (World.grownBy_alloc w (.cells #[.int .i64 x.s, .int .i64 x.e, .int .i64 x.f, .int .i64 x.o, .bool x.sh, .int .i64 x.p, .int .i64 x.m, .int .i64 x.i, .int .i64 x.a, .bool x.wi] 50) none)
  clear k0 hnx hn hno hp hd hTE ga hB cB k1 hkB hm hx hi0 hi g0
  go_enter Tryz.func131, Tryz.ntmps131
  go_upto_region 4 with fail
  try simp only [hwB]
  clear hwB
  go_region_held3 (fun w7 => w7.cell? ⟨(g n).b, 0, none⟩ = some (.pointer (some ⟨(g n).m, 0, none⟩)) ∧ w7.cell? ⟨w.heap.size, 0, none⟩ = some (.int .i64 x.s) ∧ w7.cell? ⟨w.heap.size, 1, none⟩ = some (.int .i64 x.e) ∧ w7.cell? ⟨w.heap.size, 2, none⟩ = some (.int .i64 x.f) ∧ w7.cell? ⟨w.heap.size, 3, none⟩ = some (.int .i64 x.o) ∧ w7.cell? ⟨w.heap.size, 4, none⟩ = some (.bool x.sh) ∧ w7.cell? ⟨w.heap.size, 5, none⟩ = some (.int .i64 x.p) ∧ w7.cell? ⟨w.heap.size, 6, none⟩ = some (.int .i64 x.m) ∧ w7.cell? ⟨w.heap.size, 7, none⟩ = some (.int .i64 x.i) ∧ w7.cell? ⟨w.heap.size, 8, none⟩ = some (.int .i64 x.a) ∧ w7.cell? ⟨w.heap.size, 9, none⟩ = some (.bool x.wi)) (first | with_reducible exact hk0 | with_reducible exact hkd | with_reducible exact hk1 | fail)
    (first
      | (go_at_call 116; with_reducible refine (HMap.out _ (grown_drew1 _)).mono ?_; rintro e w5 ⟨u, v', rfl, hgo, hV, hN, hT⟩; have hk1 := HS5.out _ hT; have HV := Lib.hid hV; have HN := Lib.hid hN; have HT := Lib.hid hT; clear hgo hV hN hT)
      | fail)
  obtain ⟨k5, c5⟩ := (HK1.out wB.drew (grown_drew1 _)).mapped (geA_qs hne.out hp0.out).1 HV.out HN.out HT.out
  rw [qs_ch hne.out hps.out] at k5
  have hE5 : EnB w5 w.heap.size x := (HE1.out wB.drew (grown_drew1 _)).turn HT.out (fun hm => by
      rcases List.mem_cons.1 hm with e | hm
      · have := HPn.out.vm.lt; omega
      · have := (OwnOf.lt HPn.out.vm.own (mem_blk.1 hm)).2; omega)
  have HTk := Lib.hid (show Tk w w5 kd t g n id ps ⟨⟨d.l, k.ch.A⟩, k.pa, k.c, k.nx⟩ w.heap.size x from ⟨kdV kdB t n v', gV g n v', ι, sp, ⟨k5, ((HCB.out.mono fun _ e => (no_ro _ e).elim).trans (Ch.grown (grown_drew1 _))).trans (c5.mono fork_vm), gV_b g n v', fun q hq a ha => by
    rcases List.mem_cons.1 hq with rfl | hq
    · exact hNX.out (n, k.ch) (by simp) a ha
    · exact hNX.out q (List.mem_cons_of_mem _ hq) a ha⟩, hE5, (c5.kd _ (by have := (HE1.out wB.drew (grown_drew1 _)).lt; exact this)).trans HkB.out⟩)
  have hY := hE5.all
  try simp only at hY
  obtain ⟨y0, y1, -, -, -, -, -, y7, -, -⟩ := hY
  clear k5 c5 hE5 HV HN HT hk0 hkd HS HMap HS5 HK1 HE1 HCB HPn hk1
  by_cases he : d.err = 0
  · have b9 : (d.err != 0) = false := by simpa using he
    cases hsh : x.sh with
    | true =>
      have HR := Lib.hid (show ∃ kd' g' ι' sp', TkS w w5 kd t g n id ps (takeF k x) kd' g' ι' sp' by
        rw [HTF.out, if_neg (by rw [hsh]; simp)]
        obtain ⟨a1, a2, a3, a4, a5, -⟩ := HTk.out
        exact ⟨a1, a2, a3, a4, a5⟩)
      clear HTk HTF he y0 y1 y7
      go_wp2_with fail
      (try simp only [Exit.inBlock, Exit.then])
      refine bodyPost_ret (results_none rfl _ _ _) rfl ?_
      exact ⟨rfl, HR.out⟩
    | false =>
      have HTF2 := Lib.hid (show takeF k x = (pagesE x).foldl (takePg x) ⟨⟨d.l, k.ch.A⟩, k.pa, k.c, k.nx⟩ by rw [HTF.out, if_pos ⟨he, hsh⟩])
      clear HTF he
      obtain ⟨K0, hK0⟩ : ∃ K0 : Fk, ⟨⟨d.l, k.ch.A⟩, k.pa, k.c, k.nx⟩ = K0 := ⟨_, rfl⟩
      have HL0 := Lib.hid (show TkL K0 (k.ch.A.length) (k.pa.A.length) by rw [← hK0]; exact ⟨Nat.le_refl _, Nat.le_refl _⟩)
      rw [hK0] at HTk HTF2
      clear hK0
      obtain ⟨len, hlen⟩ : ∃ len, (x.e - x.s).toNat = len := ⟨_, rfl⟩
      have hxe2 : x.e = x.s + len := by omega
      have HLen := Lib.hid hlen
      have HXe := Lib.hid hxe2
      have hb1 : x.s + (len : Int) ≤ 67108864 := by omega
      rw [hlen] at hA1 hA2
      clear hlen hxe2 hxe hxl
      go_wp2_with fail
      go_loopw [10] (fun pv wr => ∃ j : Nat, j ≤ len ∧ pv = .int .i64 (x.s + j) ∧ Hid (Tk w wr kd t g n id ps (((pagesE x).take j).foldl (takePg x) K0) w.heap.size x) ∧ Hid (TkL (((pagesE x).take j).foldl (takePg x) K0) (k.ch.A.length + j) (k.pa.A.length + j))) (fun pv _ => (x.s + len - intOf pv).toNat)
      case atStart => exact ⟨0, by omega, by go_num, HTk, HL0⟩
      case round =>
        obtain ⟨j, hj, rfl, HTj, HL⟩ := hrel
        clear HTk HL0 y0 y1 y7
        obtain ⟨kd1, g1, ι1, sp1, hT, hEB, hkB⟩ := HTj.out
        have hE1 := hEB.all.2.1
        try simp only at hE1
        rw [HXe.out] at hE1
        by_cases hlt : j < len
        · have hlt' := hlt
          rw [← HLen.out] at hlt
          obtain ⟨K, hK⟩ : ∃ K, ((pagesE x).take j).foldl (takePg x) K0 = K := ⟨_, rfl⟩
          have HK := Lib.hid hK
          rw [hK] at hT HL
          have hpg : okI (x.s + j) := ⟨by omega, by omega⟩
          have hAp : K.pa.A.length ≤ 100000000 := by have := HL.out.2; omega
          have hAc : K.ch.A.length ≤ 100000000 := by have := HL.out.1; omega
          clear hK HTj
          have hE7 := hEB.all.2.2.2.2.2.2.2.1
          have HO := Lib.hid (own_ok (sp := sp1) (c := K.c) (hT.bw.get (geA_qs hne.out hp0.out).2) (hT.bw.sl _ (geA_some (geA_qs hne.out hp0.out).2)) (pg := x.s + j) hpg)
          rw [(hT.gb id).1] at HO
          have hSh := ownV_sh (hT.bw.sl _ (geA_some (geA_qs hne.out hp0.out).2)) (x.s + j)
          have HTL := Lib.hid (tkL_next (x := x) (pg := x.s + j) HL.out (hT.nx (id, K.pa) (geA_some (geA_qs hne.out hp0.out).2)))
          have HKn := Lib.hid (show takePg x K (x.s + j) = ((pagesE x).take (j + 1)).foldl (takePg x) K0 by rw [pages_fold _ _ hlt, HK.out])
          rw [HKn.out] at HTL
          obtain ⟨u, hu⟩ : ∃ u, ownV sp1 K.c K.pa (x.s + j) = u := ⟨_, rfl⟩
          rw [hu] at hSh HO
          clear hu
          obtain ⟨q9, rfl, hq9⟩ := hSh.form
          cases hown : ownF K.c K.pa (x.s + j) with
          | none =>
            rw [hown] at HO
            have HTk := Lib.hid (show Tk w wr kd t g n id ps (((pagesE x).take (j + 1)).foldl (takePg x) K0) w.heap.size x by
              rw [← HKn.out, show takePg x K (x.s + j) = K by unfold takePg; rw [if_neg HI.out, hown]]
              exact ⟨_, _, _, _, hT, hEB, hkB⟩)
            simp only [Option.isSome_none] at HO
            clear hT hEB hkB HL HK hAp hAc hSh hown
            try simp only at hE7
            go_wp2_with fail
            refine HO.out.mono ?_
            rintro e w4 ⟨rfl, e4⟩
            subst e4
            go_wp2_with fail
            go_roundw
            case rel => exact ⟨j + 1, by omega, by go_num, HTk, HTL⟩
            case measure => simp [intOf]; omega
          | some b =>
            rw [hown] at HO hSh
            have hch := hT.bw.get (geA_qs hne.out hp0.out).1
            have c1 : wr.cell? ⟨(g n).b, 1, none⟩ = some (.map (some (g n).sm)) := by have := hch.at1; rw [(hT.gb n).1, (hT.gb n).2.2] at this; exact this
            have ga := World.grownBy_alloc wr (.cells #[.pointer q9] 158 (0, 0)) none
            have hu9 := heap_alloc_new wr (.cells #[.pointer q9] 158 (0, 0))
            have hPA := hch.ch (R := noRo) (Ch.grown ga) (no_ro _) (no_ro _) (no_ro _) (no_ro _)
            have c1A := hPA.at1
            rw [(hT.gb n).1, (hT.gb n).2.2] at c1A
            obtain ⟨w9, hup, h9, t9⟩ := hPA.sm.put lawsS (by rw [List.length_map]; unfold maxLen; omega) (.pointer (some ⟨wr.heap.size, 0, none⟩)) (okW_of hpg)
            rw [show kvI (x.s + j) = Value.int .i64 (x.s + j) from rfl, (hT.gb n).2.2] at hup
            have hne9 : (g1 n).sm ≠ wr.heap.size := by have := hch.sm.lt; omega
            have hu10 : w9.heap[wr.heap.size]? = some (.cells #[.pointer q9] 158 (0, 0)) := (t9.grown.block _ (heap_lt hu9) (fun e => hne9 (Option.some.inj e).symm)).trans hu9
            have hgw : wr.grownBy w9 (some (g1 n).sm) := grown_before ga t9.grown
            have hS9 : Sh w9 kd1 (.pointer q9) (some b) := hSh.ch (R := fun ρ => ρ = .w t (.sm n)) (Ch.one hgw hch.ks) (by simp)
            obtain ⟨hbw, hch9⟩ := hT.bw.slot_new (geA_qs hne.out hp0.out).1 hT.nx (pg := x.s + j) hS9 hgw (Nat.le_refl _) hu10 h9
            rw [qs_ch hne.out hps.out] at hbw
            have hE9 := hEB.ch hkB hch9 (by simp)
            have HTk := Lib.hid (show Tk w w9 kd t g n id ps (((pagesE x).take (j + 1)).foldl (takePg x) K0) w.heap.size x by
              rw [← HKn.out, show takePg x K (x.s + j) = ⟨⟨K.ch.L, puA K.ch.A (x.s + j) K.nx⟩, K.pa, upd K.c K.nx (some b), K.nx + 1⟩ by unfold takePg; rw [if_neg HI.out, hown]]
              refine ⟨_, _, _, _, ⟨hbw, hT.ch.trans (hch9.mono fork_sm), hT.gb, fun q hq a ha => ?_⟩, hE9⟩
              have h0 := hT.nx
              rcases List.mem_cons.1 hq with rfl | hq
              · rcases mem_puA ha with rfl | ⟨ha, -⟩
                · simp
                · have := h0 (n, K.ch) (by simp) a ha; simp only; omega
              · have := h0 q (List.mem_cons_of_mem _ hq) a ha; simp only; omega)
            simp only [Option.isSome_some] at HO
            clear hT hEB hkB HL HK hAp hAc hSh hown hch ga hu9 hPA h9 t9 hne9 hu10 hgw hS9 hbw hch9 hE9
            try simp only at hE7
            go_wp2_with fail
            refine HO.out.mono ?_
            rintro e w4 ⟨rfl, e4⟩
            subst e4
            go_wp2_with fail
            go_roundw
            case rel => exact ⟨j + 1, by omega, by go_num, HTk, HTL⟩
            case measure => simp [intOf]; omega
        · obtain rfl : j = len := by omega
          have HR := Lib.hid (show ∃ kd' g' ι' sp', TkS w wr kd t g n id ps (takeF k x) kd' g' ι' sp' by
            rw [HTF2.out]
            rw [List.take_of_length_le (by rw [pages_len, HLen.out]; exact Nat.le_refl _)] at hT
            exact ⟨_, _, _, _, hT⟩)
          clear hT hEB hkB HL HTj
          go_wp2_with fail
          go_end0
          exact ⟨rfl, HR.out⟩
  · have b9 : (d.err != 0) = true := by simpa using he
    have HR := Lib.hid (show ∃ kd' g' ι' sp', TkS w w5 kd t g n id ps (takeF k x) kd' g' ι' sp' by
      rw [HTF.out, if_neg (fun e => he e.1)]
      obtain ⟨a1, a2, a3, a4, a5, -⟩ := HTk.out
      exact ⟨a1, a2, a3, a4, a5⟩)
    clear HTk HTF he y0 y1 y7
    go_wp2_with fail
    (try simp only [Exit.inBlock, Exit.then])
    refine bodyPost_ret (results_none rfl _ _ _) rfl ?_
    exact ⟨rfl, HR.out⟩
end
end Go.Proofs.YtefiiooibbkffaaGreat
