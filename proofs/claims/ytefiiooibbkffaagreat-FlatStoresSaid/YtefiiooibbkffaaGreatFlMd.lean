/- Layer 17 (landed): the slot of a page, which is there from then on. Layer 17 (landed): what a world's calls may take for granted; sheets and loans turn. Layer 17 (landed): a byte that is stored. -/
import Derived.Test.YtefiiooibbkffaaGreatFlMc
namespace Go.Proofs.YtefiiooibbkffaaGreat
open Go.ChangeShapes Go.WideShapes Go.ChangeAt Go.RowKit Go.Deep Go.Sort
set_option linter.unusedVariables false
set_option linter.unusedSimpArgs false

/-- What slotAt leaves. -/
structure SlotD (w w' : World) (kd : Nat → Ro) (t : Nat) (g : Int → PG) (ι : Nat → Nat) (sp : Nat → Value) (c : Nat → Option (List UInt8)) (nx : Nat) (qs : List (Int × Pr)) (id : Int) (p : Pr) (pg : Int) (kd' : Nat → Ro) (ι' : Nat → Nat) (sp' : Nat → Value) : Prop where
  bw : BW w' kd' t g ι' sp' (slotF p c nx pg).c (setP qs id (slotF p c nx pg).p)
  ch : Ch (fun ρ => ρ = .w t (.sm id)) kd kd' w w'
  hb : SlA w' kd' t (ι' (slotF p c nx pg).s) (slotF p c nx pg).s (sp' (slotF p c nx pg).s) ((slotF p c nx pg).c (slotF p c nx pg).s)
  old : ∀ s, s < nx → ι' s = ι s ∧ sp' s = sp s
theorem upd_same {α : Type} (c : Nat → α) (s : Nat) (b : α) : upd c s b s = b := by simp [upd]
theorem upd_ne {α : Type} (c : Nat → α) {s x : Nat} (b : α) (h : x ≠ s) : upd c s b x = c x := by simp [upd, h]
section
variable {w w' : World} {kd kd' : Nat → Ro} {t : Nat} {id : Int} {ι ι' : Nat → Nat} {p : Pr} {g : Int → PG} {sp : Nat → Value} {c : Nat → Option (List UInt8)} {qs : List (Int × Pr)} {nx : Nat}
set_option maxHeartbeats 1000000 in
theorem slotAt_ok (k : BW w kd t g ι sp c qs) (hp : geA qs id = some p) (hnx : ∀ q, q ∈ qs → ∀ a, a ∈ q.2.A → a.2 < nx) (hA : p.A.length ≤ 100000000) {pg : Int} (hpg : okI pg) :
    Calls Tryz.prog 129 #[.pointer (some ⟨(g id).b, 0, none⟩), .int .i64 pg] w fun e w' => ∃ kd' ι' sp', e = .returned (.pointer (some ⟨ι' (slotF p c nx pg).s, 0, none⟩)) ∧ SlotD w w' kd t g ι sp c nx qs id p pg kd' ι' sp' := by
  have hP := k.get hp
  have c1 := hP.at1
  have hk := hP.slot1 hpg
  cases hg : geA p.A pg with
  | some s =>
    have e0 : slotF p c nx pg = ⟨p, c, nx, s⟩ := by unfold slotF; rw [hg]
    have HD := Lib.hid (show SlotD w w kd t g ι sp c nx qs id p pg kd ι sp from ⟨by rw [e0, setP_same qs k.nd hp]; exact k, Ch.refl _ _ _, by rw [e0]; exact k.sl _ (geA_some hp) _ (geA_some hg), fun _ _ => ⟨rfl, rfl⟩⟩)
    have HE := Lib.hid (show (slotF p c nx pg).s = s by rw [e0])
    rw [hg] at hk
    simp only [Option.map_some] at hk
    clear k hP hp hnx hA hg e0 hpg
    go_enter Tryz.func129, Tryz.ntmps129
    go_wp2_with fail
    go_ret
    exact ⟨kd, ι, sp, by rw [HE.out]; rfl, HD.out⟩
  | none =>
    have e0 : slotF p c nx pg = ⟨⟨p.L, puA p.A pg nx⟩, upd c nx none, nx + 1, nx⟩ := by unfold slotF; rw [hg]
    rw [hg] at hk
    simp only [Option.map_none] at hk
    have ga := World.grownBy_alloc w (.cells #[.pointer none] 158 (0, 0)) none
    have hu := heap_alloc_new w (.cells #[.pointer none] 158 (0, 0))
    generalize hwA : w.alloc (.cells #[.pointer none] 158 (0, 0)) = wA at *
    have hPA := hP.ch (R := noRo) (Ch.grown ga) (no_ro _) (no_ro _) (no_ro _) (no_ro _)
    have c1A := hPA.at1
    obtain ⟨w9, hup, h9, t9⟩ := hPA.sm.put lawsS (by rw [List.length_map]; unfold maxLen; omega) (.pointer (some ⟨w.heap.size, 0, none⟩)) (okW_of hpg)
    rw [show kvI pg = Value.int .i64 pg from rfl] at hup
    have hne : (g id).sm ≠ w.heap.size := by have := hP.sm.lt; omega
    have hu9 : w9.heap[w.heap.size]? = some (.cells #[.pointer none] 158 (0, 0)) := (t9.grown.block _ (heap_lt hu) (fun e => hne (Option.some.inj e).symm)).trans hu
    have hgw : w.grownBy w9 (some (g id).sm) := ⟨t9.grown.os.trans ga.os, t9.grown.tape.trans ga.tape, t9.grown.output.trans ga.output, Nat.le_trans ga.size t9.grown.size, fun b hb hne => (t9.grown.block b (Nat.lt_of_lt_of_le hb ga.size) hne).trans (ga.block b hb (by simp))⟩
    obtain ⟨hbw, hch⟩ := k.slot_new hp hnx (pg := pg) (Sh.none_ w9 kd) hgw (Nat.le_refl _) hu9 h9
    have hb9 : w9.cell? ⟨(g id).b, 1, none⟩ = some (.map (some (g id).sm)) := t9.grown.cell c1A (by
      simp only
      intro e
      have e2 := Option.some.inj e
      have h1 := hP.kb
      rw [e2, hP.ks] at h1
      simp at h1)
    have hk9 : (Instr.lookup 106 (.map (some (g id).sm)) (.int .i64 pg) false).run Tryz.prog w9 = .ok (.pointer (some ⟨w.heap.size, 0, none⟩)) w9 := by
      have h1 := h9.look lawsS (zd := .held (.pointer none)) (okW_of hpg)
      rw [show lookV ((pg, Value.pointer (some ⟨w.heap.size, 0, none⟩)) :: dropV (p.A.map fun a => (a.1, Value.pointer (some ⟨ι a.2, 0, none⟩))) pg) pg = some (.pointer (some ⟨w.heap.size, 0, none⟩)) by unfold lookV; simp] at h1
      exact h1
    have HD := Lib.hid (show SlotD w w9 kd t g ι sp c nx qs id p pg (upd kd w.heap.size (.w t (.sl nx))) (upd ι nx w.heap.size) (upd sp nx (.pointer none)) from ⟨by rw [e0]; exact hbw, hch, by
      rw [e0]
      simp only [upd_same]
      exact ⟨upd_same _ _ _, hu9, Sh.none_ _ _⟩, fun s hs => ⟨upd_ne _ _ (by omega), upd_ne _ _ (by omega)⟩⟩)
    have HE := Lib.hid (show (slotF p c nx pg).s = nx by rw [e0])
    clear k hP hp hnx hA hg e0 hpg ga hu hPA h9 t9 hne hu9 hgw hbw hch
    go_enter Tryz.func129, Tryz.ntmps129
    go_wp2_with fail
    go_ret
    exact ⟨_, _, _, by rw [HE.out, upd_same]; rfl, HD.out⟩
end
end Go.Proofs.YtefiiooibbkffaaGreat

namespace Go.Proofs.YtefiiooibbkffaaGreat
open Go.ChangeShapes Go.WideShapes Go.ChangeAt Go.RowKit Go.Deep Go.Sort
open Go.Maps (Keyed)
set_option linter.unusedVariables false
set_option linter.unusedSimpArgs false

structure PInv (p : Pr) : Prop where
  mp : MapL p.L
  ln : p.L.length ≤ 800
  fb : ∀ x, x ∈ p.L → x.f ≤ 1000000000
  al : p.A.length ≤ 100000000
structure SOk (S : Fl) : Prop where
  hl : S.sz.length ≤ 16
  hz : ∀ n, n ∈ S.sz → okI n
  pi : ∀ q, q ∈ S.ps → PInv q.2
  nx : ∀ q, q ∈ S.ps → ∀ a, a ∈ q.2.A → a.2 < S.nx
  fl : S.F.length ≤ 100000000
  r0 : 0 ≤ S.reg
  r1 : S.reg ≤ 100000000
  pl : S.ps.length ≤ 16
  io : ∀ q, q ∈ S.ps → okI q.1
  hh : S.H.length ≤ 64
section
variable {w w' : World} {kd kd' : Nat → Ro} {t r : Nat} {h : Gh} {S : Fl} {id : Int} {p : Pr} {sz : List Int} {F : List ((Int × Int) × List UInt8)} {H : List (Int × Option (List UInt8))} {reg : Int}
theorem FW.vw (k : FW w kd t r h S) (o : SOk S) (hp : geA S.ps id = some p) : Vw w kd t r h S (h.g id) id p :=
  have hm := geA_some hp
  ⟨k.hw, k.bw.get hp, k.bw.sl _ hm, o.hl, o.hz, (o.pi _ hm).mp, (o.pi _ hm).ln, (o.pi _ hm).fb⟩
/-- A sheet is put. -/
theorem HW.sheet_put (k : HW w kd t r h sz F H reg) {q : Int × Int} {u : Value} {l : List UInt8} (hS : Sh w' kd u (some l)) (hg : w.grownBy w' (some h.fm))
    (hm : MapV Tryz.prog 153 spotL okK w' h.fm ((q, u) :: dropV (F.map fun n => (n.1, h.fv n.1)) q)) :
    HW w' kd t r { h with fv := fun x => if x = q then u else h.fv x } sz (puA F q l) H reg ∧ Ch (fun ρ => ρ = .w t .fm) kd kd w w' := by
  have hch : Ch (fun ρ => ρ = .w t .fm) kd kd w w' := Ch.one hg k.kf
  refine ⟨⟨(hch.block _ (heap_lt k.head) (by rw [k.kr]; simp)).trans k.head, k.kr, OwnOf.kept k.sz fun b hb => hch.block b (OwnOf.lt k.sz hb).2 (by rw [k.kz b hb]; simp), k.kz, ?_, k.kf, fun n hn => ?_, k.lm.kept (hch.block _ k.lm.lt (by rw [k.kl]; simp)), k.kl, fun n hn => (k.ls n hn).ch hch (by simp)⟩, hch⟩
  · have e : ((puA F q l).map fun n => (n.1, if n.1 = q then u else h.fv n.1)) = (q, u) :: dropV (F.map fun n => (n.1, h.fv n.1)) q := by
      unfold puA drA dropV
      rw [List.map_cons, List.filter_map]
      congr 1
      · simp
      · refine List.map_congr_left fun n hn => ?_
        have := of_decide_eq_true (List.mem_filter.1 hn).2
        rw [if_neg this]
    show MapV Tryz.prog 153 spotL okK w' h.fm ((puA F q l).map fun n => (n.1, if n.1 = q then u else h.fv n.1))
    rw [e]
    exact hm
  · rcases mem_puA hn with rfl | ⟨h1, h2⟩
    · simp only [if_true]; exact hS
    · simp only [h2, if_false]
      exact (k.fs n h1).ch hch (by simp)
/-- Some sheets are gone. -/
theorem HW.sheets_less (k : HW w kd t r h sz F H reg) {F' : List ((Int × Int) × List UInt8)} (hs : ∀ n, n ∈ F' → n ∈ F) (hg : w.grownBy w' (some h.fm))
    (hm : MapV Tryz.prog 153 spotL okK w' h.fm (F'.map fun n => (n.1, h.fv n.1))) : HW w' kd t r h sz F' H reg ∧ Ch (fun ρ => ρ = .w t .fm) kd kd w w' := by
  have hch : Ch (fun ρ => ρ = .w t .fm) kd kd w w' := Ch.one hg k.kf
  exact ⟨⟨(hch.block _ (heap_lt k.head) (by rw [k.kr]; simp)).trans k.head, k.kr, OwnOf.kept k.sz fun b hb => hch.block b (OwnOf.lt k.sz hb).2 (by rw [k.kz b hb]; simp), k.kz, hm, k.kf, fun n hn => (k.fs n (hs n hn)).ch hch (by simp), k.lm.kept (hch.block _ k.lm.lt (by rw [k.kl]; simp)), k.kl, fun n hn => (k.ls n hn).ch hch (by simp)⟩, hch⟩
/-- A page is lent. -/
theorem HW.loan_put (k : HW w kd t r h sz F H reg) {q : Int} {u : Value} {b : Option (List UInt8)} (hS : Sh w' kd u b) (hg : w.grownBy w' (some h.lm))
    (hm : MapV Tryz.prog 3 klI okW w' h.lm ((q, u) :: dropV (H.map fun n => (n.1, h.hv n.1)) q)) :
    HW w' kd t r { h with hv := fun x => if x = q then u else h.hv x } sz F (puA H q b) reg ∧ Ch (fun ρ => ρ = .w t .lm) kd kd w w' := by
  have hch : Ch (fun ρ => ρ = .w t .lm) kd kd w w' := Ch.one hg k.kl
  refine ⟨⟨(hch.block _ (heap_lt k.head) (by rw [k.kr]; simp)).trans k.head, k.kr, OwnOf.kept k.sz fun b hb => hch.block b (OwnOf.lt k.sz hb).2 (by rw [k.kz b hb]; simp), k.kz, k.fm.kept (hch.block _ k.fm.lt (by rw [k.kf]; simp)), k.kf, fun n hn => (k.fs n hn).ch hch (by simp), ?_, k.kl, fun n hn => ?_⟩, hch⟩
  · have e : ((puA H q b).map fun n => (n.1, if n.1 = q then u else h.hv n.1)) = (q, u) :: dropV (H.map fun n => (n.1, h.hv n.1)) q := by
      unfold puA drA dropV
      rw [List.map_cons, List.filter_map]
      congr 1
      · simp
      · refine List.map_congr_left fun n hn => ?_
        have := of_decide_eq_true (List.mem_filter.1 hn).2
        rw [if_neg this]
    show MapV Tryz.prog 3 klI okW w' h.lm ((puA H q b).map fun n => (n.1, if n.1 = q then u else h.hv n.1))
    rw [e]
    exact hm
  · rcases mem_puA hn with rfl | ⟨h1, h2⟩
    · simp only [if_true]; exact hS
    · simp only [h2, if_false]
      exact (k.ls n h1).ch hch (by simp)
theorem HW.loans_less (k : HW w kd t r h sz F H reg) {H' : List (Int × Option (List UInt8))} (hs : ∀ n, n ∈ H' → n ∈ H) (hg : w.grownBy w' (some h.lm))
    (hm : MapV Tryz.prog 3 klI okW w' h.lm (H'.map fun n => (n.1, h.hv n.1))) : HW w' kd t r h sz F H' reg ∧ Ch (fun ρ => ρ = .w t .lm) kd kd w w' := by
  have hch : Ch (fun ρ => ρ = .w t .lm) kd kd w w' := Ch.one hg k.kl
  exact ⟨⟨(hch.block _ (heap_lt k.head) (by rw [k.kr]; simp)).trans k.head, k.kr, OwnOf.kept k.sz fun b hb => hch.block b (OwnOf.lt k.sz hb).2 (by rw [k.kz b hb]; simp), k.kz, k.fm.kept (hch.block _ k.fm.lt (by rw [k.kf]; simp)), k.kf, fun n hn => (k.fs n hn).ch hch (by simp), hm, k.kl, fun n hn => (k.ls n (hs n hn)).ch hch (by simp)⟩, hch⟩
theorem drop_map {K α : Type} [DecidableEq K] (f : K → α → Value) (N : List (K × α)) (x : K) : dropV (N.map fun n => (n.1, f n.1 n.2)) x = (drA N x).map fun n => (n.1, f n.1 n.2) := by
  unfold dropV drA
  rw [List.filter_map]
  rfl
theorem own_mono {t : Nat} {x : Rx} : ∀ ρ, ρ = .w t x → own t ρ := fun ρ e => ⟨x, e⟩
/-- A new sheet: what its block is for. -/
theorem Sh.new {l : List UInt8} (hl : l.length = 4096) (w : World) (kd : Nat → Ro) : Sh (w.alloc (.cells (pgC l) 207)) (upd kd w.heap.size .sh) (.pointer (some ⟨w.heap.size, 0, none⟩)) (some l) :=
  .inr ⟨_, l, rfl, rfl, hl, upd_same _ _ _, heap_alloc_new w _⟩
theorem Ch.new (R : Ro → Prop) (kd : Nat → Ro) (w : World) (o : Obj) (ρ : Ro) : Ch R kd (upd kd w.heap.size ρ) w (w.alloc o) := (Ch.grown (R := R) (kd := kd) (World.grownBy_alloc w o none)).name fun b hb => upd_ne _ _ (by omega)
theorem FW.chNo (k : FW w kd t r h S) (c : Ch noRo kd kd' w w') : FW w' kd' t r h S := k.ch c (no_ro _) fun _ => no_ro _
theorem Sh.len {u : Value} {b : Option (List UInt8)} (h : Sh w kd u b) : ∀ l, b = some l → l.length = 4096 := by
  rintro l rfl
  rcases h with ⟨-, h⟩ | ⟨g, l', -, h2, h3, -⟩
  · cases h
  · cases h2; exact h3
end
end Go.Proofs.YtefiiooibbkffaaGreat

namespace Go.Proofs.YtefiiooibbkffaaGreat
open Go.ChangeShapes Go.WideShapes Go.ChangeAt Go.RowKit Go.Deep Go.Sort
set_option linter.unusedVariables false
set_option linter.unusedSimpArgs false

/-- A world behind a call. -/
def Dn (t r : Nat) (kd : Nat → Ro) (w w' : World) (S' : Fl) : Prop := ∃ kd' h', FW w' kd' t r h' S' ∧ Ch (own t) kd kd' w w'
section
variable {w w' : World} {kd kd' : Nat → Ro} {t r : Nat} {h : Gh} {S : Fl} {id : Int} {p : Pr}
theorem Dn.grown (k : FW w kd t r h S) (g : w.grownBy w' none) : Dn t r kd w w' S := ⟨kd, h, k.grow g, Ch.grown g⟩
/-- What store asks ahead: the errors, the page as it is. -/
structure StF (S : Fl) (p : Pr) (o : FOp) (x : En) (l : List UInt8) : Prop where
  at_ : atV p.L o.addr = some x
  ati : isAtB o.ati = true
  v : isByB o.v = true
  e : (S.reach p o.addr 2 (isAtB o.ati && isByB o.v)).2 = 0
  l : withB (S.reach p o.addr 2 (isAtB o.ati && isByB o.v)).1 o.ati o.v = l
theorem stF {S : Fl} {p : Pr} {o : FOp} (h0 : (S.reach p o.addr 2 (isAtB o.ati && isByB o.v)).2 = 0) : ∃ x l, StF S p o x l := by
  have h1 := reach_may (.inr h0)
  rw [Bool.and_eq_true] at h1
  have h2 := h0
  unfold Fl.reach at h2
  rw [h1.1, h1.2] at h2
  simp only [Bool.and_true, if_true] at h2
  cases hat : atV p.L o.addr with
  | none => rw [hat] at h2; cases h2
  | some x => exact ⟨x, _, hat, h1.1, h1.2, h0, rfl⟩
set_option maxHeartbeats 2000000 in
theorem store_no (k : FW w kd t r h S) (hok : SOk S) (o : FOp) (hp : geA S.ps o.proc = some p) (hne : (S.reach p o.addr 2 (isAtB o.ati && isByB o.v)).2 ≠ 0) :
    Calls Tryz.prog 73 #[.pointer (some ⟨r, 0, none⟩), .pointer (some ⟨(h.g o.proc).b, 0, none⟩), .agg #[.int .i64 o.k, .int .i64 o.proc, .int .i64 o.addr, .int .i64 o.n, .int .i64 o.prot, .bool o.sh, .int .i64 o.file, .int .i64 o.off, .bool o.fixed, .int .i64 o.how, .int .i64 o.ati, .int .i64 o.v, .int .i64 o.hd, .int .i64 o.to]] w fun e w' => e = .returned (.int .i64 (S.store p o).e) ∧ Dn t r kd w w' (S.store p o).S := by
  have hst : S.store p o = S.no (S.reach p o.addr 2 (isAtB o.ati && isByB o.v)).2 := by unfold Fl.store; rw [if_neg hne]
  rw [hst]
  show Calls _ _ _ _ fun e w' => e = .returned (.int .i64 (S.reach p o.addr 2 (isAtB o.ati && isByB o.v)).2) ∧ Dn t r kd w w' S
  have ga := World.grownBy_alloc w (.cells #[.int .i64 o.k, .int .i64 o.proc, .int .i64 o.addr, .int .i64 o.n, .int .i64 o.prot, .bool o.sh, .int .i64 o.file, .int .i64 o.off, .bool o.fixed, .int .i64 o.how, .int .i64 o.ati, .int .i64 o.v, .int .i64 o.hd, .int .i64 o.to] 34) none
  have hB := OpB.new w o
  generalize hwB : w.alloc (.cells #[.int .i64 o.k, .int .i64 o.proc, .int .i64 o.addr, .int .i64 o.n, .int .i64 o.prot, .bool o.sh, .int .i64 o.file, .int .i64 o.off, .bool o.fixed, .int .i64 o.how, .int .i64 o.ati, .int .i64 o.v, .int .i64 o.hd, .int .i64 o.to] 34) = wB at *
  have kB := (k.vw hok hp).grow ga
  obtain ⟨c0, c1, c2, c3, c4, c5, c6, c7, c8, c9, c10, c11, c12, c13⟩ := hB.at
  have hc1 := Calls.regrown_g (w := wB) fun W _ => (isAt_ok W o.ati).mono fun e w' ⟨he, hw⟩ => ⟨he, by rw [hw]; exact grown_refl _ _⟩
  have hc3 := Calls.regrown_g (w := wB) fun W _ => (isByte_ok W o.v).mono fun e w' ⟨he, hw⟩ => ⟨he, by rw [hw]; exact grown_refl _ _⟩
  have hc2 := Calls.regrown_g (w := wB) fun W g => reach_ok (kB.grow g) o 2 (.inr rfl) (isAtB o.ati && isByB o.v)
  have HG := Lib.hid ga
  have HD := Lib.hid (fun W (g : w.grownBy W none) => Dn.grown k g)
  generalize (S.reach p o.addr 2 (isAtB o.ati && isByB o.v)).2 = er at *
  generalize reachU h S p o.addr 2 (isAtB o.ati && isByB o.v) = u at *
  have bne : decide (er ≠ 0) = true := decide_eq_true hne
  have bne2 : (er != 0) = true := by simpa using hne
  generalize isAtB o.ati = d at *
  generalize isByB o.v = d2 at *
  have r0 := cell_regrown c0
  have r1 := cell_regrown c1
  have r2 := cell_regrown c2
  have r3 := cell_regrown c3
  have r4 := cell_regrown c4
  have r5 := cell_regrown c5
  have r6 := cell_regrown c6
  have r7 := cell_regrown c7
  have r8 := cell_regrown c8
  have r9 := cell_regrown c9
  have r10 := cell_regrown c10
  have r11 := cell_regrown c11
  have r12 := cell_regrown c12
  have r13 := cell_regrown c13
  clear k kB ga hB c0 c1 c2 c3 c4 c5 c6 c7 c8 c9 c10 c11 c12 c13 hst hne hok
  cases d with
  | true =>
    rw [Bool.true_and] at hc2
    go_enter Tryz.func73, Tryz.ntmps73
    go_upto_region 1 with fail
    refine wp_region_quiet_below (by kernel_rfl) (by kernel_rfl) ?_
    repeat (go_big_quiet_step (first | exact hc1 _ _ | exact hc2 _ _ | exact hc3 _ _ | fail))
    refine wpQuiet_nil ?_
    intro _ hw'
    obtain ⟨⟨dq, osq⟩, hw''⟩ := hw'
    subst hw''
    have HQ := Lib.hid (regrown_grown wB dq osq)
    clear r0 r1 r2 r3 r4 r5 r6 r7 r8 r9 r10 r11 r12 r13 hc1 hc2 hc3
    generalize grow (redrawn wB dq) osq = w3 at *
    go_wp2_with fail
    go_ret
    exact ⟨rfl, HD.out _ (grown_trans HG.out HQ.out)⟩
  | false =>
    rw [Bool.false_and] at hc2
    go_enter Tryz.func73, Tryz.ntmps73
    go_upto_region 1 with fail
    refine wp_region_quiet_below (by kernel_rfl) (by kernel_rfl) ?_
    repeat (go_big_quiet_step (first | exact hc1 _ _ | exact hc2 _ _ | exact hc3 _ _ | fail))
    refine wpQuiet_nil ?_
    intro _ hw'
    obtain ⟨⟨dq, osq⟩, hw''⟩ := hw'
    subst hw''
    have HQ := Lib.hid (regrown_grown wB dq osq)
    clear r0 r1 r2 r3 r4 r5 r6 r7 r8 r9 r10 r11 r12 r13 hc1 hc2 hc3
    generalize grow (redrawn wB dq) osq = w3 at *
    go_wp2_with fail
    go_ret
    exact ⟨rfl, HD.out _ (grown_trans HG.out HQ.out)⟩
end
end Go.Proofs.YtefiiooibbkffaaGreat
