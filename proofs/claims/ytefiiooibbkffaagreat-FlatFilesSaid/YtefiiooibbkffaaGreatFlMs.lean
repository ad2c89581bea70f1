/- Layer 17, plainly: slots lie under private entries; what is shared is of a file; files' pages have numbers above 0. No program. Layer 17, plainly: what a child has, page by page; what worlds keep, whatever is done. No program. Layer 17, plainly: a child and its parent, byte by byte; a store of the parent's. Layer 17, plainly: a byte of a file's page, put, got, seen through shared entries, and gone. -/
import Derived.Test.YtefiiooibbkffaaGreatFlMq
namespace Go.Proofs.YtefiiooibbkffaaGreat
open Go.ChangeShapes Go.WideShapes Go.ChangeAt Go.RowKit Go.Deep Go.Sort
set_option linter.unusedVariables false
set_option linter.unusedSimpArgs false

structure PvA (p : Pr) : Prop where
  pv : ∀ a, a ∈ p.A → ∃ v, pageOf p.L a.1 = some v ∧ v.sh = false
  fp : ∀ pg v, pageOf p.L pg = some v → v.sh = true → 0 < v.f
theorem PvA.no {p : Pr} (h : PvA p) {pg : Int} (hv : ∀ v, pageOf p.L pg = some v → v.sh = true) : geA p.A pg = none := by
  cases hg : geA p.A pg with
  | none => rfl
  | some s =>
    obtain ⟨u, h1, h2⟩ := h.pv _ (geA_some hg)
    rw [hv u h1] at h2
    cases h2
theorem PvA.own {p : Pr} (h : PvA p) {pg : Int} (hv : ∀ v, pageOf p.L pg = some v → v.sh = true) (c : Nat → Option (List UInt8)) : ownF c p pg = none := by
  unfold ownF
  rw [h.no hv]
theorem setV_same (k v : Int) (on : Bool) (x : En) : (setV k v on x).sh = x.sh ∧ (setV k v on x).f = x.f := by
  unfold setV
  split
  · exact ⟨rfl, rfl⟩
  · split
    · exact ⟨rfl, rfl⟩
    · split <;> exact ⟨rfl, rfl⟩
/-- What a call that changes entries alone makes of the pages. -/
def Viewed (l m : List En) : Prop := ∃ g : Int → En → En, (∀ pg x, (g pg x).sh = x.sh ∧ (g pg x).f = x.f) ∧ ∀ pg, pageOf m pg = (pageOf l pg).map (g pg)
theorem viewed_refl (l : List En) : Viewed l l := ⟨fun _ => id, fun _ _ => ⟨rfl, rfl⟩, fun pg => by cases pageOf l pg <;> rfl⟩
theorem viewed_set {l : List En} (h : MapL l) {lo n k v : Int} {on : Bool} (hr : RF 0 (chgE (setV k v on) l lo (lo + n))) : Viewed l (mergeE (chgE (setV k v on) l lo (lo + n))) := by
  refine ⟨fun pg x => if lo ≤ pg ∧ pg < lo + n then setV k v on x else x, fun pg x => ?_, fun pg => ?_⟩
  · by_cases hin : lo ≤ pg ∧ pg < lo + n
    · simp only [if_pos hin]; exact setV_same k v on x
    · simp only [if_neg hin]; exact ⟨trivial, trivial⟩
  · rw [page_set h hr]
    by_cases hin : lo ≤ pg ∧ pg < lo + n
    · simp only [if_pos hin]
    · simp only [if_neg hin]
      cases pageOf l pg <;> rfl
theorem viewed_other {l : List En} (h : MapL l) {lo n k v most : Int} {on : Bool} (hk : (k = 3 ∧ most ≤ 2) ∨ (k = 4 ∧ most ≤ 4) ∨ k = 5) : Viewed l (otherV l lo n k v most on).l := by
  unfold otherV
  split
  · next hc =>
    split
    · exact viewed_set h (rf_other h.rf hc.2.1 hc.2.2 hk)
    · exact viewed_refl l
  · exact viewed_refl l
theorem viewed_prot {l : List En} (h : MapL l) {lo n p : Int} : Viewed l (protV l lo n p).l := by
  unfold protV
  split
  · next hc =>
    split
    · split
      · next hp => exact viewed_set h (rf_prot h.rf hc.1 hc.2.1 hc.2.2 hp)
      · exact viewed_refl l
    · exact viewed_refl l
  · exact viewed_refl l
theorem PvA.viewed {p : Pr} (h : PvA p) {l : List En} (hv : Viewed p.L l) : PvA ⟨l, p.A⟩ := by
  obtain ⟨g, hg, he⟩ := hv
  refine ⟨fun a ha => ?_, fun pg v h1 h2 => ?_⟩
  · obtain ⟨v, h1, h2⟩ := h.pv a ha
    exact ⟨g a.1 v, by show pageOf l a.1 = _; rw [he, h1]; rfl, by rw [(hg a.1 v).1]; exact h2⟩
  · have h3 : pageOf l pg = some v := h1
    rw [he] at h3
    cases e : pageOf p.L pg with
    | none => rw [e] at h3; cases h3
    | some u =>
      rw [e] at h3
      have h4 : g pg u = v := Option.some.inj h3
      subst h4
      rw [(hg pg u).2]
      rw [(hg pg u).1] at h2
      exact h.fp pg u e h2
theorem inGone_no {g : List En} {pg : Int} (h : inGone g pg = false) : pageOf g pg = none := by
  refine page_none fun x hx hp => ?_
  unfold inGone at h
  have := List.any_eq_false.1 h x hx
  simp only [decide_eq_true_eq] at this
  exact this hp
/-- Slots that are left lie where nothing has gone. -/
theorem PvA.went {p : Pr} (h : PvA p) {d : Did} (hv : ∀ pg v, pageOf p.L pg = some v → pageOf d.gone pg = none → pageOf d.l pg = some v) (hf : ∀ pg v, pageOf d.l pg = some v → v.sh = true → 0 < v.f) : PvA ⟨d.l, forgetP p.A d.gone⟩ := by
  refine ⟨fun a ha => ?_, hf⟩
  obtain ⟨h1, h2⟩ := List.mem_filter.1 ha
  obtain ⟨v, h3, h4⟩ := h.pv a h1
  exact ⟨v, hv _ _ h3 (inGone_no (by simpa using h2)), h4⟩
theorem PvA.unmap {p : Pr} (h : PvA p) (hm : MapL p.L) {lo n : Int} (he : (unmapV p.L lo n).err = 0) : PvA ⟨(unmapV p.L lo n).l, forgetP p.A (unmapV p.L lo n).gone⟩ := by
  have hr : rangeV lo n = true := by
    unfold unmapV at he
    split at he
    · assumption
    · cases he
  refine h.went (fun pg v h1 h2 => ?_) fun pg v h1 h2 => ?_
  · unfold unmapV at h2
    rw [if_pos hr] at h2
    have h3 : pageOf (goneE p.L lo (lo + n)) pg = none := h2
    rw [page_gone lo (lo + n) pg hm.rf] at h3
    rw [page_unmap hm hr]
    by_cases hin : lo ≤ pg ∧ pg < lo + n
    · rw [if_pos hin, h1] at h3; cases h3
    · rw [if_neg hin]; exact h1
  · rw [page_unmap hm hr] at h1
    by_cases hin : lo ≤ pg ∧ pg < lo + n
    · rw [if_pos hin] at h1; cases h1
    · rw [if_neg hin] at h1; exact h.fp pg v h1 h2
theorem norm_sh (x : En) (pg : Int) : (normE x pg).sh = x.sh ∧ (normE x pg).f = x.f ∧ (normE x pg).i = x.i := ⟨rfl, rfl, rfl⟩
theorem PvA.map {p : Pr} (h : PvA p) (hm : MapL p.L) {a : Int} {x : En} {fx : Bool} (he : (mapV p.L a x fx).err = 0) (hx : x.sh = true → 0 < x.f) : PvA ⟨(mapV p.L a x fx).l, forgetP p.A (mapV p.L a x fx).gone⟩ := by
  obtain ⟨b, -, -, -, -, -, -, -, -, -, hp, hg⟩ := page_map16 hm he
  refine h.went (fun pg v h1 h2 => ?_) fun pg v h1 h2 => ?_
  · rw [hp]
    by_cases hin : b ≤ pg ∧ pg < b + (x.e - x.s)
    · rw [(hg pg hin.1 hin.2).1, h1] at h2; cases h2
    · rw [if_neg hin]; exact h1
  · rw [hp] at h1
    by_cases hin : b ≤ pg ∧ pg < b + (x.e - x.s)
    · rw [if_pos hin] at h1
      have h3 : normE (moveE x b) pg = v := Option.some.inj h1
      subst h3
      exact hx h2
    · rw [if_neg hin] at h1; exact h.fp pg v h1 h2
theorem slotF_A {p : Pr} {c : Nat → Option (List UInt8)} {nx : Nat} {pg : Int} : (slotF p c nx pg).p.L = p.L ∧ ∀ a, a ∈ (slotF p c nx pg).p.A → a ∈ p.A ∨ a.1 = pg := by
  unfold slotF
  cases hg : geA p.A pg with
  | some s => exact ⟨rfl, fun a ha => .inl ha⟩
  | none =>
    refine ⟨rfl, fun a ha => ?_⟩
    rcases mem_puA ha with rfl | ⟨h1, -⟩
    · exact .inr rfl
    · exact .inl h1
theorem PvA.slot {p : Pr} (h : PvA p) {pg : Int} {v : En} (hv : pageOf p.L pg = some v) (hs : v.sh = false) (c : Nat → Option (List UInt8)) (nx : Nat) : PvA (slotF p c nx pg).p := by
  obtain ⟨e1, e2⟩ := slotF_A (p := p) (c := c) (nx := nx) (pg := pg)
  refine ⟨fun a ha => ?_, fun pg v h1 h2 => h.fp pg v (by rw [← e1]; exact h1) h2⟩
  rw [e1]
  rcases e2 a ha with h1 | h1
  · exact h.pv a h1
  · exact ⟨v, by rw [h1]; exact hv, hs⟩
theorem page_at {L : List En} {pg : Int} {e : En} (h : atV L pg = some e) : pageOf L pg = some (normE e pg) := by rw [at_page, h]; rfl
theorem at_pageN {L : List En} {pg : Int} (h : pageOf L pg = none) : atV L pg = none := by
  rw [at_page] at h
  cases e : atV L pg with
  | none => rfl
  | some x => rw [e] at h; cases h
theorem at_pageS {L : List En} {pg : Int} {v : En} (h : pageOf L pg = some v) : ∃ e, atV L pg = some e ∧ normE e pg = v := by
  rw [at_page] at h
  cases e : atV L pg with
  | none => rw [e] at h; cases h
  | some x => rw [e] at h; exact ⟨x, rfl, Option.some.inj h⟩
/-- What worlds keep. -/
structure Iv (S : Fl) : Prop where
  pv : ∀ q, q ∈ S.ps → PvA q.2
  fp : ∀ n, n ∈ S.F → 0 < n.1.1
  sz : S.sz.length = 2
theorem PvA.empty : PvA ⟨[], []⟩ := ⟨fun a ha => (by cases ha), fun pg v h => (by cases h)⟩
theorem iv_new : Iv (newF [3, 2]) := by
  refine ⟨fun q hq => ?_, fun n hn => (by cases hn), rfl⟩
  simp only [newF, List.mem_singleton] at hq
  subst hq
  exact PvA.empty
theorem pv_setP {ps : List (Int × Pr)} {id : Int} {p : Pr} (h : ∀ q, q ∈ ps → PvA q.2) (hp : PvA p) : ∀ q, q ∈ setP ps id p → PvA q.2 := fun q hq => by
  rcases mem_setP hq with ⟨-, h1⟩ | rfl
  · exact h q h1
  · exact hp
theorem fp_filter {F : List ((Int × Int) × List UInt8)} (g : (Int × Int) × List UInt8 → Bool) (h : ∀ n, n ∈ F → 0 < n.1.1) : ∀ n, n ∈ F.filter g → 0 < n.1.1 := fun n hn => h n (List.mem_filter.1 hn).1
theorem fp_put {F : List ((Int × Int) × List UInt8)} {k : Int × Int} {b : List UInt8} (h : ∀ n, n ∈ F → 0 < n.1.1) (hk : 0 < k.1) : ∀ n, n ∈ puA F k b → 0 < n.1.1 := fun n hn => by
  rcases mem_puA hn with rfl | ⟨h1, -⟩
  · exact hk
  · exact h n h1
section
variable {S : Fl} {j : Nat} {n : Int} {p tp : Pr} {o : FOp} {id : Int}
theorem Iv.turned (h : Iv S) (hp : PvA p) {d : Did} (hv : Viewed p.L d.l) : Iv (S.turned id p d).S := ⟨pv_setP h.pv (hp.viewed hv), h.fp, h.sz⟩
theorem Iv.went (h : Iv S) {d : Did} (hp : PvA ⟨d.l, forgetP p.A d.gone⟩) (reg : Int) : Iv (({ S with reg := reg } : Fl).went id p d) := ⟨pv_setP h.pv hp, fp_filter _ h.fp, h.sz⟩
theorem layE_sh (hr : 0 ≤ S.reg) (hx : mayB o.addr (layE S.reg o) o.fixed = true) : (layE S.reg o).sh = true → 0 < (layE S.reg o).f := fun hs => by
  obtain ⟨-, -, hg⟩ := may_parts hx
  have h0 : 0 ≤ (layE S.reg o).f := hg.f0
  have h1 : o.sh = true := hs
  unfold layE at h0 ⊢
  simp only [h1, Bool.true_and] at h0 ⊢
  by_cases hz : o.file = 0
  · simp only [hz, decide_true, if_true]; omega
  · simp only [hz, decide_false, Bool.false_eq_true, if_false] at h0 ⊢; omega
theorem map_may {l : List En} {a : Int} {x : En} {fx : Bool} (he : (mapV l a x fx).err = 0) : mayB a x fx = true := by
  unfold mapV at he
  by_cases e : mayB a x fx = true
  · exact e
  · rw [if_neg e] at he; cases he
theorem Iv.lay (h : Iv S) (hr : 0 ≤ S.reg) (hm : MapL p.L) (hp : PvA p) : Iv (S.lay id p o).S := by
  unfold Fl.lay
  split
  · exact h
  · split
    · exact h
    · split
      · next he => exact h.went (hp.map hm he (layE_sh hr (map_may he))) _
      · exact h
theorem Iv.unmap (h : Iv S) (hm : MapL p.L) (hp : PvA p) : Iv (S.unmap p o).S := by
  unfold Fl.unmap
  split
  · next he => exact h.went (p := p) (hp.unmap hm he) S.reg
  · exact h
theorem Iv.store (h : Iv S) (hp : PvA p) : Iv (S.store p o).S := by
  unfold Fl.store
  split
  · split
    · exact h
    · next e he =>
      have hv := page_at he
      split
      · next hs => exact ⟨h.pv, fp_put h.fp (show 0 < e.f from hp.fp o.addr (normE e o.addr) hv hs), h.sz⟩
      · next hs => exact ⟨pv_setP h.pv (hp.slot hv (show e.sh = false by simpa using hs) _ _), h.fp, h.sz⟩
  · exact h
theorem Iv.advise (h : Iv S) (hm : MapL p.L) (hp : PvA p) : Iv (S.advise p o).S := by
  have hv := viewed_other hm (lo := o.addr) (n := o.n) (v := o.how) (on := false) (k := 4) (most := 4) (.inr (.inl ⟨rfl, by omega⟩))
  unfold Fl.advise
  split
  · exact ⟨pv_setP h.pv (hp.viewed hv), h.fp, h.sz⟩
  · exact h.turned hp hv
theorem Iv.exit (h : Iv S) : Iv (S.exit id p).S := ⟨fun q hq => h.pv q (drA_sub hq), fp_filter _ h.fp, h.sz⟩
theorem Iv.lend (h : Iv S) : Iv (S.lend p o).S := by
  unfold Fl.lend
  split
  · split <;> exact ⟨h.pv, h.fp, h.sz⟩
  · exact h
theorem hasF_pos {sz : List Int} {f : Int} (h : hasF sz f = true) : 0 < f ∧ f ≤ sz.length := by
  unfold hasF at h
  rw [Bool.and_eq_true, decide_eq_true_eq, decide_eq_true_eq] at h
  exact h
theorem Iv.put (h : Iv S) : Iv (S.put o).S := by
  unfold Fl.put
  split
  · next he =>
    refine ⟨h.pv, fp_put h.fp ?_, h.sz⟩
    unfold Fl.ofFile at he
    split at he
    · next hf => exact (hasF_pos hf).1
    · cases he
  · exact h
theorem Iv.size (h : Iv S) : Iv (S.size o).S := by
  unfold Fl.size
  split
  · split
    · exact ⟨h.pv, fp_filter _ h.fp, by show (S.sz.set _ _).length = 2; rw [List.length_set]; exact h.sz⟩
    · exact h
  · exact h
theorem sendK_pv {S5 : Fl} {t2 : Pr} {a : Int} {l : List (Option (List UInt8))} (hp : PvA t2) (hv : ∀ i : Nat, i < l.length → ∃ v, pageOf t2.L (a + i) = some v ∧ v.sh = false) : ∀ i, i ≤ l.length → PvA (sendK S5 t2 a l i).p ∧ (sendK S5 t2 a l i).p.L = t2.L
  | 0, _ => ⟨hp, rfl⟩
  | i + 1, hi => by
    obtain ⟨b, hb⟩ : ∃ b, l[i]? = some b := ⟨_, List.getElem?_eq_getElem (by omega)⟩
    obtain ⟨h1, h2⟩ := sendK_pv (S5 := S5) hp hv i (by omega)
    rw [sendK_next hb]
    unfold sendPg
    cases b with
    | none => exact ⟨h1, h2⟩
    | some b =>
      obtain ⟨v, h3, h4⟩ := hv i (by omega)
      refine ⟨h1.slot (v := v) (by rw [h2]; exact h3) h4 _ _, ?_⟩
      simp only
      rw [slotF_A.1, h2]
end
end Go.Proofs.YtefiiooibbkffaaGreat

namespace Go.Proofs.YtefiiooibbkffaaGreat
open Go.ChangeShapes Go.WideShapes Go.ChangeAt Go.RowKit Go.Deep Go.Sort
set_option linter.unusedVariables false
set_option linter.unusedSimpArgs false

theorem own_upd {p : Pr} {c : Nat → Option (List UInt8)} {nx : Nat} (h : ∀ a, a ∈ p.A → a.2 < nx) (b : Option (List UInt8)) (pg : Int) : ownF (upd c nx b) p pg = ownF c p pg := by
  unfold ownF
  cases hg : geA p.A pg with
  | none => rfl
  | some s =>
    have := h _ (geA_some hg)
    simp only
    exact upd_ne _ _ (by have h2 : s < nx := this; omega)
theorem slot_at (p : Pr) (c : Nat → Option (List UInt8)) (nx : Nat) (pg : Int) : geA (slotF p c nx pg).p.A pg = some (slotF p c nx pg).s := by
  unfold slotF
  cases hg : geA p.A pg with
  | some s => exact hg
  | none => simp only; rw [geA_put, if_pos rfl]
theorem slot_off (p : Pr) (c : Nat → Option (List UInt8)) (nx : Nat) {pg x : Int} (h : x ≠ pg) : geA (slotF p c nx pg).p.A x = geA p.A x := by
  unfold slotF
  cases hg : geA p.A pg with
  | some s => rfl
  | none => simp only; rw [geA_put, if_neg (fun e => h e.symm)]
theorem slot_own {p : Pr} {c : Nat → Option (List UInt8)} {nx : Nat} (h : ∀ a, a ∈ p.A → a.2 < nx) (pg x : Int) : ownF (slotF p c nx pg).c (slotF p c nx pg).p x = ownF c p x := by
  cases hg : geA p.A pg with
  | some s => unfold slotF; rw [hg]
  | none =>
    by_cases e : x = pg
    · subst e
      have h1 := slot_at p c nx x
      unfold ownF
      rw [h1, hg]
      unfold slotF
      rw [hg]
      simp only
      exact upd_same _ _ _
    · have h1 := slot_off p c nx e
      have h2 := own_upd (c := c) h none x
      unfold ownF at h2 ⊢
      rw [h1]
      unfold slotF
      rw [hg]
      exact h2
theorem slot_num {p : Pr} {c : Nat → Option (List UInt8)} {nx : Nat} {pg : Int} : (∀ a, a ∈ (slotF p c nx pg).p.A → a ∈ p.A ∨ a = (pg, nx)) ∧ (∀ s, s < nx → (slotF p c nx pg).c s = c s) ∧ nx ≤ (slotF p c nx pg).nx := by
  unfold slotF
  cases hg : geA p.A pg with
  | some s => exact ⟨fun a ha => .inl ha, fun s _ => rfl, Nat.le_refl _⟩
  | none =>
    refine ⟨fun a ha => ?_, fun s hs => ?_, by simp⟩
    · rcases mem_puA ha with rfl | ⟨h1, -⟩
      · exact .inr rfl
      · exact .inl h1
    · exact upd_ne _ _ (by omega)

/-- What a fork has under way. -/
structure FkK (k : Fk) (S : Fl) (p : Pr) : Prop where
  ow : ∀ pg, ownF k.c k.pa pg = ownF S.c p pg
  nx : ∀ a, a ∈ k.pa.A → a.2 < k.nx
  nc : ∀ a, a ∈ k.ch.A → a.2 < k.nx
def DN (k : Fk) (pg : Int) : Prop := geA k.ch.A pg = none
def DS (k : Fk) (pg : Int) : Prop := ∃ s, geA k.ch.A pg = some s ∧ geA k.pa.A pg = some s
def DC (S : Fl) (p : Pr) (k : Fk) (pg : Int) : Prop := (∀ b, ownF S.c p pg = some b → ∃ s, geA k.ch.A pg = some s ∧ k.c s = some b ∧ s < k.nx ∧ ∀ a, a ∈ k.pa.A → a.2 ≠ s) ∧ (ownF S.c p pg = none → geA k.ch.A pg = none)
def DX (S : Fl) (p : Pr) (i : Int) (k : Fk) (pg : Int) : Prop := if i = 1 then DS k pg else DC S p k pg
structure Kp17 (S : Fl) (p : Pr) (k k' : Fk) (pg : Int) : Prop where
  n : DN k pg → DN k' pg
  s : DS k pg → DS k' pg
  c : DC S p k pg → DC S p k' pg
section
variable {S : Fl} {p : Pr} {k k' k2 : Fk} {pg pg' : Int} {x : En}
theorem Kp17.refl : Kp17 S p k k pg := ⟨id, id, id⟩
theorem Kp17.trans (h : Kp17 S p k k' pg) (g : Kp17 S p k' k2 pg) : Kp17 S p k k2 pg := ⟨fun e => g.n (h.n e), fun e => g.s (h.s e), fun e => g.c (h.c e)⟩
theorem Kp17.dx (h : Kp17 S p k k' pg) {i : Int} (d : DX S p i k pg) : DX S p i k' pg := by
  unfold DX at d ⊢
  split
  · next e => rw [if_pos e] at d; exact h.s d
  · next e => rw [if_neg e] at d; exact h.c d
theorem step_K (h : FkK k S p) (x : En) (pg : Int) : FkK (takePg x k pg) S p := by
  refine ⟨fun y => ?_, pg_nx h.nx x pg, (pg_nc h.nx h.nc x pg).1⟩
  unfold takePg
  split
  · exact (slot_own h.nx pg y).trans (h.ow y)
  · split
    · exact (own_upd h.nx _ y).trans (h.ow y)
    · exact h.ow y
theorem step_pa (x : En) (k : Fk) (pg : Int) : ∀ a, a ∈ (takePg x k pg).pa.A → a ∈ k.pa.A ∨ a.1 = pg := by
  unfold takePg
  split
  · intro a ha
    rcases slot_num.1 a ha with h | h
    · exact .inl h
    · exact .inr (by rw [h])
  · split
    · exact fun a ha => .inl ha
    · exact fun a ha => .inl ha
theorem step_other (h : FkK k S p) (x : En) (hne : pg' ≠ pg) : Kp17 S p k (takePg x k pg) pg' := by
  have hne2 : ¬ pg = pg' := fun e => hne e.symm
  unfold takePg
  split
  · refine ⟨fun e => ?_, fun ⟨s, e1, e2⟩ => ⟨s, ?_, ?_⟩, fun ⟨e1, e2⟩ => ⟨fun b hb => ?_, fun hb => ?_⟩⟩
    · unfold DN; simp only; rw [geA_put, if_neg hne2]; exact e
    · simp only; rw [geA_put, if_neg hne2]; exact e1
    · simp only; rw [slot_off _ _ _ hne]; exact e2
    · obtain ⟨s, g1, g2, g3, g4⟩ := e1 b hb
      refine ⟨s, ?_, ?_, ?_, fun a ha => ?_⟩
      · simp only; rw [geA_put, if_neg hne2]; exact g1
      · simp only; rw [slot_num.2.1 s g3]; exact g2
      · have := (slot_num (p := k.pa) (c := k.c) (nx := k.nx) (pg := pg)).2.2
        simp only; omega
      · rcases slot_num.1 a ha with h1 | h1
        · exact g4 a h1
        · rw [h1]; simp only; omega
    · simp only; rw [geA_put, if_neg hne2]; exact e2 hb
  · split
    · refine ⟨fun e => ?_, fun ⟨s, e1, e2⟩ => ⟨s, ?_, e2⟩, fun ⟨e1, e2⟩ => ⟨fun b hb => ?_, fun hb => ?_⟩⟩
      · unfold DN; simp only; rw [geA_put, if_neg hne2]; exact e
      · simp only; rw [geA_put, if_neg hne2]; exact e1
      · obtain ⟨s, g1, g2, g3, g4⟩ := e1 b hb
        refine ⟨s, ?_, ?_, ?_, g4⟩
        · simp only; rw [geA_put, if_neg hne2]; exact g1
        · simp only; rw [upd_ne _ _ (by omega)]; exact g2
        · simp only; omega
      · simp only; rw [geA_put, if_neg hne2]; exact e2 hb
    · exact Kp17.refl
theorem step_at (h : FkK k S p) (x : En) (hn : DN k pg) : DX S p x.i (takePg x k pg) pg := by
  unfold DX
  split
  · next hi =>
    unfold takePg
    rw [if_pos hi]
    exact ⟨_, by simp only; rw [geA_put, if_pos rfl], slot_at _ _ _ _⟩
  · next hi =>
    unfold takePg
    rw [if_neg hi]
    have ho := h.ow pg
    cases e : ownF k.c k.pa pg with
    | none =>
      rw [e] at ho
      exact ⟨fun b hb => (by rw [← ho] at hb; cases hb), fun _ => hn⟩
    | some b =>
      rw [e] at ho
      refine ⟨fun b2 hb => ⟨k.nx, ?_, ?_, ?_, fun a ha => ?_⟩, fun hb => (by rw [← ho] at hb; cases hb)⟩
      · simp only; rw [geA_put, if_pos rfl]
      · simp only; rw [upd_same, ho, hb]
      · simp only; omega
      · have := h.nx a ha; omega
theorem pages17_fold (x : En) : ∀ (l : List Int) {k : Fk}, l.Nodup → FkK k S p → FkK (l.foldl (takePg x) k) S p ∧ (∀ pg, pg ∉ l → Kp17 S p k (l.foldl (takePg x) k) pg) ∧ (∀ pg, pg ∈ l → DN k pg → DX S p x.i (l.foldl (takePg x) k) pg) ∧ (∀ a, a ∈ (l.foldl (takePg x) k).pa.A → a ∈ k.pa.A ∨ a.1 ∈ l)
  | [], k, _, h => ⟨h, fun _ _ => Kp17.refl, fun _ hm => (by cases hm), fun a ha => .inl ha⟩
  | y :: l, k, hn, h => by
    obtain ⟨hy, hn⟩ := List.nodup_cons.1 hn
    obtain ⟨g1, g2, g3, g4⟩ := pages17_fold x l hn (step_K h x y)
    rw [List.foldl_cons]
    refine ⟨g1, fun pg hm => ?_, fun pg hm hd => ?_, fun a ha => ?_⟩
    · have h1 : pg ≠ y := fun e => hm (by simp [e])
      exact (step_other h x h1).trans (g2 pg fun e => hm (List.mem_cons_of_mem _ e))
    · rcases List.mem_cons.1 hm with rfl | hm
      · exact (g2 _ hy).dx (step_at h x hd)
      · have h1 : pg ≠ y := fun e => hy (by rw [← e]; exact hm)
        exact g3 pg hm ((step_other h x h1).n hd)
    · rcases g4 a ha with h1 | h1
      · rcases step_pa x k y a h1 with h2 | h2
        · exact .inl h2
        · exact .inr (by simp [h2])
      · exact .inr (List.mem_cons_of_mem _ h1)
theorem mem_pages {x : En} {pg : Int} : pg ∈ pagesE x ↔ x.s ≤ pg ∧ pg < x.e := by
  unfold pagesE
  rw [List.mem_map]
  constructor
  · rintro ⟨i, hi, rfl⟩
    have := List.mem_range.1 hi
    omega
  · rintro ⟨h1, h2⟩
    exact ⟨(pg - x.s).toNat, List.mem_range.2 (by omega), by omega⟩
theorem pages_nd (x : En) : (pagesE x).Nodup := by
  unfold pagesE
  exact List.pairwise_map.2 (List.nodup_range.imp fun {a b} h e => h (by omega))
theorem take_step (h : FkK k S p) (x : En) (he : (mapV k.ch.L x.s (takeE x) true).err = 0) : FkK (takeF k x) S p ∧ (∀ pg, ¬ (x.s ≤ pg ∧ pg < x.e) ∨ x.sh = true → Kp17 S p k (takeF k x) pg) ∧ (∀ pg, x.s ≤ pg → pg < x.e → x.sh = false → DN k pg → DX S p x.i (takeF k x) pg) ∧ (∀ a, a ∈ (takeF k x).pa.A → a ∈ k.pa.A ∨ (x.s ≤ a.1 ∧ a.1 < x.e ∧ x.sh = false)) := by
  have h0 : FkK ⟨⟨(mapV k.ch.L x.s (takeE x) true).l, k.ch.A⟩, k.pa, k.c, k.nx⟩ S p := ⟨h.ow, h.nx, h.nc⟩
  have k0 : ∀ pg, Kp17 S p k ⟨⟨(mapV k.ch.L x.s (takeE x) true).l, k.ch.A⟩, k.pa, k.c, k.nx⟩ pg := fun pg => ⟨id, id, id⟩
  unfold takeF
  split
  · next hc =>
    obtain ⟨g1, g2, g3, g4⟩ := pages17_fold x (pagesE x) (pages_nd x) h0
    refine ⟨g1, fun pg hp => ?_, fun pg h1 h2 _ hd => g3 pg (mem_pages.2 ⟨h1, h2⟩) hd, fun a ha => ?_⟩
    · rcases hp with hp | hp
      · exact (k0 pg).trans (g2 pg fun hm => hp (mem_pages.1 hm))
      · rw [hc.2] at hp; cases hp
    · rcases g4 a ha with h1 | h1
      · exact .inl h1
      · exact .inr ⟨(mem_pages.1 h1).1, (mem_pages.1 h1).2, hc.2⟩
  · next hc =>
    refine ⟨h0, fun pg _ => k0 pg, fun pg _ _ hs _ => (hc ⟨he, hs⟩).elim, fun a ha => .inl ha⟩
theorem takeE_parts (x : En) : (takeE x).s = x.s ∧ (takeE x).e = x.e ∧ (takeE x).f = x.f ∧ (takeE x).o = x.o ∧ (takeE x).p = x.p ∧ (takeE x).m = x.m ∧ (takeE x).i = x.i ∧ (takeE x).a = x.a ∧ ((takeE x).sh = true → x.sh = true) ∧ (x.i ≠ 0 → (takeE x).sh = x.sh) ∧ (x.sh = false → (takeE x).sh = false) := by
  unfold takeE
  split
  · next hi => exact ⟨rfl, rfl, rfl, rfl, rfl, rfl, rfl, rfl, fun h => (by cases h), fun h => (h hi).elim, fun _ => rfl⟩
  · exact ⟨rfl, rfl, rfl, rfl, rfl, rfl, rfl, rfl, id, fun _ => rfl, id⟩
theorem takeE_norm (x : En) (pg : Int) : normE (moveE (takeE x) x.s) pg = takeE (normE x pg) := by
  unfold takeE
  by_cases hi : x.i = 0
  · rw [if_pos hi, if_pos (show (normE x pg).i = 0 from hi)]
    rfl
  · rw [if_neg hi, if_neg (show ¬ (normE x pg).i = 0 from hi)]
    rfl
theorem take_err (l : List En) {x : En} (hx : GoodE x) (hs : x.e - x.s ≤ 4096) : (mapV l x.s (takeE x) true).err = 0 := by
  obtain ⟨e1, e2, e3, e4, e5, e6, e7, e8, -⟩ := takeE_parts x
  have h0 := hx.s0
  have h1 := hx.lt
  have h2 := hx.e1
  have hm : mayB x.s (takeE x) true = true := by
    unfold mayB
    rw [Bool.and_eq_true, Bool.and_eq_true]
    refine ⟨⟨sized_iff.2 ⟨by omega, by omega, by omega⟩, ?_⟩, ?_⟩
    · rw [Bool.or_eq_true]
      exact .inr (range_iff.2 ⟨h0, by omega, by omega, by omega⟩)
    · refine (goodB_iff _).2 ⟨Int.le_refl _, ?_, ?_, ?_, ?_, ?_, ?_, ?_, ?_, ?_, ?_, ?_⟩
      · show (0 : Int) < 0 + ((takeE x).e - (takeE x).s); omega
      · show 0 + ((takeE x).e - (takeE x).s) ≤ 67108864; omega
      · show 0 ≤ (takeE x).f; rw [e3]; exact hx.f0
      · show 0 ≤ (takeE x).o; rw [e4]; exact hx.o0
      · show fitsB (takeE x).p (takeE x).m = true; rw [e5, e6]; exact hx.pm
      · show 0 ≤ (takeE x).i; rw [e7]; exact hx.i0
      · show (takeE x).i ≤ 2; rw [e7]; exact hx.i1
      · show 0 ≤ (takeE x).a; rw [e8]; exact hx.a0
      · show (takeE x).a ≤ 4; rw [e8]; exact hx.a1
      · show (takeE x).f = 0 → (takeE x).o = 0; rw [e3, e4]; exact hx.oz
      · show 0 < (takeE x).f → (takeE x).o ≤ 4096 - (0 + ((takeE x).e - (takeE x).s) - 0)
        rw [e3, e4, e1, e2]
        intro hf
        have := hx.oe hf
        omega
  unfold mapV
  rw [if_pos hm, if_pos rfl]
theorem page_up {l : List En} {b pg : Int} (h : RF b l) (hp : pg < b) : pageOf l pg = none := page_none fun x hx hin => by
  have := (rf_good h x hx).2
  omega
theorem take_fold : ∀ (L : List En) {k : Fk} {b : Int}, RF b L → (∀ x, x ∈ L → x.e - x.s ≤ 4096) → MapL k.ch.L → FkK k S p → FkK (L.foldl takeF k) S p ∧ (∀ pg, pageOf L pg = none → pageOf (L.foldl takeF k).ch.L pg = pageOf k.ch.L pg ∧ Kp17 S p k (L.foldl takeF k) pg) ∧ (∀ pg v, pageOf L pg = some v → pageOf (L.foldl takeF k).ch.L pg = some (takeE v) ∧ (v.sh = false → DN k pg → DX S p v.i (L.foldl takeF k) pg) ∧ (v.sh = true → Kp17 S p k (L.foldl takeF k) pg)) ∧ (∀ a, a ∈ (L.foldl takeF k).pa.A → a ∈ k.pa.A ∨ ∃ v, pageOf L a.1 = some v ∧ v.sh = false)
  | [], k, b, _, _, _, h => ⟨h, fun _ _ => ⟨rfl, Kp17.refl⟩, fun _ _ hv => (by cases hv), fun a ha => .inl ha⟩
  | x :: r, k, b, hr, hs, hm, h => by
    obtain ⟨r1, r2, r3⟩ := hr
    have hlt := r2.lt
    have he := take_err k.ch.L r2 (hs x (by simp))
    obtain ⟨g1, g2, g3, g4⟩ := take_step h x he
    obtain ⟨a0, -, -, -, -, -, -, -, ha, -, hpg, -⟩ := page_map16 hm he
    have ha0 : a0 = x.s := ha rfl
    subst ha0
    obtain ⟨e1, e2, -⟩ := takeE_parts x
    rw [e1, e2] at hpg
    have hL : (takeF k x).ch.L = (mapV k.ch.L x.s (takeE x) true).l := (takeF_L k x).1
    have hm1 : MapL (takeF k x).ch.L := by rw [hL]; exact (map_did hm x.s (takeE x) true).1
    obtain ⟨i1, i2, i3, i4⟩ := take_fold r r3 (fun y hy => hs y (List.mem_cons_of_mem _ hy)) hm1 g1
    rw [List.foldl_cons]
    have hsp : ∀ pg, x.s ≤ pg → pg < x.e → pageOf (takeF k x).ch.L pg = some (takeE (normE x pg)) := fun pg p1 p2 => by
      rw [hL, hpg, if_pos ⟨p1, by omega⟩, takeE_norm]
    have hso : ∀ pg, ¬ (x.s ≤ pg ∧ pg < x.e) → pageOf (takeF k x).ch.L pg = pageOf k.ch.L pg := fun pg hn => by
      rw [hL, hpg, if_neg (by omega)]
    refine ⟨i1, fun pg hn => ?_, fun pg v hv => ?_, fun a ha => ?_⟩
    · unfold pageOf at hn
      by_cases p2 : pg < x.e
      · rw [if_pos p2] at hn
        by_cases p1 : x.s ≤ pg
        · rw [if_pos p1] at hn; cases hn
        · obtain ⟨q1, q2⟩ := i2 pg (page_up r3 p2)
          exact ⟨q1.trans (hso pg (by omega)), (g2 pg (.inl (by omega))).trans q2⟩
      · rw [if_neg p2] at hn
        obtain ⟨q1, q2⟩ := i2 pg hn
        exact ⟨q1.trans (hso pg (by omega)), (g2 pg (.inl (by omega))).trans q2⟩
    · unfold pageOf at hv
      by_cases p2 : pg < x.e
      · rw [if_pos p2] at hv
        by_cases p1 : x.s ≤ pg
        · rw [if_pos p1] at hv
          have hv2 : normE x pg = v := Option.some.inj hv
          subst hv2
          obtain ⟨q1, q2⟩ := i2 pg (page_up r3 p2)
          exact ⟨q1.trans (hsp pg p1 p2), fun s1 s2 => q2.dx (g3 pg p1 p2 s1 s2), fun s1 => (g2 pg (.inr s1)).trans q2⟩
        · rw [if_neg p1] at hv; cases hv
      · rw [if_neg p2] at hv
        obtain ⟨q1, q2, q3⟩ := i3 pg v hv
        have hk := g2 pg (.inl (by omega))
        exact ⟨q1, fun s1 s2 => q2 s1 (hk.n s2), fun s1 => hk.trans (q3 s1)⟩
    · rcases i4 a ha with h1 | ⟨v, h1, h2⟩
      · rcases g4 a h1 with h3 | ⟨h3, h4, h5⟩
        · exact .inl h3
        · refine .inr ⟨normE x a.1, ?_, h5⟩
          unfold pageOf
          rw [if_pos h4, if_pos h3]
      · refine .inr ⟨v, ?_, h2⟩
        unfold pageOf
        by_cases p2 : a.1 < x.e
        · rw [page_up r3 p2] at h1; cases h1
        · rw [if_neg p2]; exact h1
theorem mem_sumE : ∀ (l : List En), (∀ x, x ∈ l → x.s ≤ x.e) → ∀ x, x ∈ l → x.e - x.s ≤ sumE l
  | [], _, x, hx => by cases hx
  | y :: l, h, x, hx => by
    have h0 : 0 ≤ sumE l := by
      clear hx
      induction l with
      | nil => exact Int.le_refl _
      | cons z l ih =>
        rw [sumE_cons]
        have h1 := h z (by simp)
        have h2 := ih fun u hu => h u (by rcases List.mem_cons.1 hu with e | e <;> simp [e])
        omega
    rw [sumE_cons]
    rcases List.mem_cons.1 hx with rfl | hx
    · omega
    · have h1 := h y (by simp)
      have h2 := mem_sumE l (fun u hu => h u (List.mem_cons_of_mem _ hu)) x hx
      omega
/-- What a fork makes. -/
structure Forked (S : Fl) (p : Pr) (k : Fk) : Prop where
  pl : k.pa.L = p.L
  kk : FkK k S p
  pa : PvA k.pa
  ch : PvA k.ch
  no : ∀ pg, (∀ v, pageOf p.L pg = some v → v.i = 2) → pageOf k.ch.L pg = none
  yes : ∀ pg v, pageOf p.L pg = some v → v.i ≠ 2 → pageOf k.ch.L pg = some (takeE (unwire v)) ∧ (v.sh = false → DX S p v.i k pg) ∧ (v.sh = true → geA k.ch.A pg = none)
theorem fork_made {j : Nat} {n : Int} {id : Int} (h : SI S j n) (hn : n ≤ 490) (hp : geA S.ps id = some p) (hpv : PvA p) : Forked S p (forkF S p) := by
  have hm := geA_some hp
  have hLI : LI p.L n (1000 + j) := (h.ps.pr _ hm).1
  have hF := mapL_fork hLI.mp
  have hle := rf_le hF.rf
  have hss : sumE (forkV p.L) ≤ sumE p.L := sum_fork hLI.mp
  have hsm : sumE p.L ≤ n := hLI.sm
  have h0 : FkK ⟨⟨[], []⟩, p, S.c, S.nx⟩ S p := ⟨fun _ => rfl, h.ps.nx _ hm, fun a ha => by cases ha⟩
  obtain ⟨g1, g2, g3, g4⟩ := take_fold (forkV p.L) hF.rf (fun x hx => by have := mem_sumE _ hle x hx; omega) (k := ⟨⟨[], []⟩, p, S.c, S.nx⟩) mapL_nil h0
  have hpl : (forkF S p).pa.L = p.L := by
    unfold forkF
    have : ∀ (L : List En) (k : Fk), (L.foldl takeF k).pa.L = k.pa.L := by
      intro L
      induction L with
      | nil => intro k; rfl
      | cons x L ih => intro k; rw [List.foldl_cons, ih, (takeF_L k x).2]
    exact this _ _
  have hfk := page_fork hLI.mp
  have hdn : ∀ pg, DN ⟨⟨[], []⟩, p, S.c, S.nx⟩ pg := fun pg => geA_nil pg
  have hup : ∀ pg u, pageOf (forkV p.L) pg = some u → ∃ v, pageOf p.L pg = some v ∧ v.i ≠ 2 ∧ u = unwire v := fun pg u hu => by
    have h1 := hfk pg
    cases e : pageOf p.L pg with
    | none => rw [e] at h1; rw [h1] at hu; cases hu
    | some v =>
      rw [e] at h1
      simp only at h1
      by_cases hi : v.i ≠ 2
      · rw [if_pos hi] at h1
        rw [h1] at hu
        exact ⟨v, rfl, hi, (Option.some.inj hu).symm⟩
      · rw [if_neg hi] at h1; rw [h1] at hu; cases hu
  have hnu : ∀ pg, (∀ v, pageOf p.L pg = some v → v.i = 2) → pageOf (forkV p.L) pg = none := fun pg hv => by
    cases e : pageOf (forkV p.L) pg with
    | none => rfl
    | some u =>
      obtain ⟨v, h1, h2, -⟩ := hup pg u e
      exact (h2 (hv v h1)).elim
  refine ⟨hpl, g1, ⟨fun a ha => ?_, fun pg v hv => hpv.fp pg v (by rw [← hpl]; exact hv)⟩, ⟨fun a ha => ?_, fun pg v hv hs => ?_⟩, fun pg hv => (g2 pg (hnu pg hv)).1, fun pg v hv hi => ?_⟩
  · rw [hpl]
    rcases g4 a ha with h1 | ⟨u, h1, h2⟩
    · exact hpv.pv a h1
    · obtain ⟨v, h3, -, rfl⟩ := hup _ _ h1
      exact ⟨v, h3, h2⟩
  · have hne : geA (forkF S p).ch.A a.1 ≠ none := fun e => geA_none e a ha rfl
    cases e : pageOf (forkV p.L) a.1 with
    | none => exact (hne ((g2 a.1 e).2.n (hdn a.1))).elim
    | some u =>
      obtain ⟨q1, q2, q3⟩ := g3 a.1 u e
      cases hs : u.sh with
      | true => exact (hne ((q3 hs).n (hdn a.1))).elim
      | false => exact ⟨takeE u, q1, (takeE_parts u).2.2.2.2.2.2.2.2.2.2 hs⟩
  · cases e : pageOf (forkV p.L) pg with
    | none =>
      have h1 := (g2 pg e).1
      have h2 : pageOf (forkF S p).ch.L pg = some v := hv
      rw [show pageOf (forkF S p).ch.L pg = pageOf [] pg from h1] at h2
      cases h2
    | some u =>
      have h1 := (g3 pg u e).1
      have h2 : some (takeE u) = some v := h1.symm.trans hv
      have h3 : takeE u = v := Option.some.inj h2
      subst h3
      obtain ⟨u0, h4, -, rfl⟩ := hup _ _ e
      rw [(takeE_parts (unwire u0)).2.2.1]
      exact hpv.fp pg u0 h4 ((takeE_parts (unwire u0)).2.2.2.2.2.2.2.2.1 hs)
  · have h1 := hfk pg
    rw [hv] at h1
    simp only at h1
    rw [if_pos hi] at h1
    obtain ⟨q1, q2, q3⟩ := g3 pg _ h1
    exact ⟨q1, fun hs => q2 hs (hdn pg), fun hs => (q3 hs).n (hdn pg)⟩
end
section
variable {S : Fl} {j : Nat} {n : Int} {p tp : Pr} {o : FOp} {id : Int}
theorem Iv.fork (h : Iv S) (hs : SI S j n) (hn : n ≤ 490) (hp : geA S.ps id = some p) : Iv (S.fork id p).S := by
  unfold Fl.fork
  split
  · have hF := fork_made hs hn hp (h.pv _ (geA_some hp))
    refine ⟨fun q hq => ?_, h.fp, h.sz⟩
    rcases List.mem_cons.1 hq with rfl | hq
    · exact hF.ch
    · exact pv_setP h.pv hF.pa q hq
  · exact h
theorem Iv.send (h : Iv S) (hs : SI S j n) (hp : geA S.ps o.proc = some p) : Iv (S.send p o).S := by
  cases ht : geA S.ps o.to with
  | none => rw [send_no7 ht]; exact h
  | some tp =>
    by_cases hm : mayB3 o.addr o.n = true
    · by_cases hl : (S.loadAll p o.addr (o.addr + o.n)).2 = 0
      · by_cases he : (S.lay o.to tp (layO o.n)).e = 0
        · have hmt := geA_some ht
          have hLt : LI tp.L n (1000 + j) := (hs.ps.pr _ hmt).1
          have hpt := h.pv _ hmt
          have hr0 := hs.gs.r0
          have hiv := Iv.lay (id := o.to) (o := layO o.n) h (by omega) hLt.mp hpt
          obtain ⟨t2, ht2, -, -, -, -⟩ := (sendLay (o := o) hs ht).1 _ rfl he
          have hlay : ∃ d, d = mapV tp.L (-1) (layE S.reg (layO o.n)) false ∧ d.err = 0 ∧ t2 = ⟨d.l, forgetP tp.A d.gone⟩ ∧ (S.lay o.to tp (layO o.n)).n = d.n := by
            refine ⟨_, rfl, ?_, ?_, ?_⟩
            all_goals
              have hno2 : ¬ (decide ((layO o.n).file > 0) && !hasF S.sz (layO o.n).file) = true := by simp [layO]
              have hno3 : ¬ (decide ((layO o.n).file = 0) && decide ((layO o.n).off ≠ 0)) = true := by simp [layO]
              have h0 := he
              unfold Fl.lay at h0
              rw [if_neg hno2, if_neg hno3] at h0
              by_cases e : (mapV tp.L (layO o.n).addr (layE S.reg (layO o.n)) (layO o.n).fixed).err = 0
              · first
                | exact e
                | (unfold Fl.lay at ht2 ⊢
                   rw [if_neg hno2, if_neg hno3, if_pos e] at ht2 ⊢
                   first
                   | rfl
                   | (have h5 : geA (setP S.ps o.to _) o.to = some t2 := ht2
                      rw [geA_setP, if_pos rfl, ht] at h5
                      exact (Option.some.inj h5).symm))
                | (unfold Fl.lay at ht2
                   rw [if_neg hno2, if_neg hno3, if_pos e] at ht2
                   have h5 : geA (setP S.ps o.to _) o.to = some t2 := ht2
                   rw [geA_setP, if_pos rfl, ht] at h5
                   exact (Option.some.inj h5).symm)
              · rw [if_neg e] at h0; exact (e h0).elim
          obtain ⟨d, hd, hde, hdt, hdn⟩ := hlay
          subst hd
          obtain ⟨b, hb, -, -, -, -, -, -, -, -, hpg, -⟩ := page_map16 hLt.mp hde
          have hln : (S.loadAll p o.addr (o.addr + o.n)).1.length ≤ (layE S.reg (layO o.n)).e - (layE S.reg (layO o.n)).s := by
            have hLI : LI p.L n (1000 + j) := (hs.ps.pr _ (geA_some hp)).1
            have hgr := rf_gone o.addr (o.addr + o.n) hLI.mp.rf
            have hll := loadAll_len S p o.addr (o.addr + o.n)
            rw [pagesL_len] at hll
            have hlN := sumN_E _ (rf_le hgr)
            have hmm : 1 ≤ o.n := by unfold mayB3 at hm; rw [decide_eq_true_eq] at hm; exact hm.1
            have h1 := sum_gone (show o.addr ≤ o.addr + o.n by omega) p.L fun x hx => (rf_good hLI.mp.rf x hx).1.lt
            have h2 := (sum_whole hLI.mp.rf (show o.addr ≤ o.addr + o.n by omega)).1
            have h3 : (layE S.reg (layO o.n)).e - (layE S.reg (layO o.n)).s = o.n := by show o.n - 0 = o.n; omega
            rw [h3]
            omega
          rw [send_all ht hm hl he ht2]
          have hpv2 : PvA t2 := hiv.pv _ (geA_some ht2)
          refine ⟨pv_setP hiv.pv (sendK_pv hpv2 (fun i hi => ?_) _ (Nat.le_refl _)).1, hiv.fp, hiv.sz⟩
          rw [hdn, hb, hdt]
          simp only
          rw [hpg, if_pos ⟨by omega, by omega⟩]
          exact ⟨_, rfl, rfl⟩
        · rw [send_noE ht hm hl he]; exact h
      · rw [send_noL ht hm hl]; exact h
    · rw [send_no2 ht hm]; exact h
theorem Iv.act (h : Iv S) (hs : SI S j n) (hn : n ≤ 490) : Iv (S.act o).S := by
  by_cases hnm : namesB o.k = true
  · cases hp : geA S.ps o.proc with
    | none => rw [act_N hnm hp]; exact h
    | some p =>
      rw [act_P hnm hp]
      have hm := geA_some hp
      have hLI := (hs.ps.pr _ hm).1
      have hpv := h.pv _ hm
      have hr := hs.gs.r0
      unfold Fl.actP
      rcases names_cases hnm with hk | hk | hk | hk | hk | hk | hk | hk | hk | hk | hk | hk | hk <;> simp only [hk]
      · exact h.lay (by omega) hLI.mp hpv
      · exact h.unmap hLI.mp hpv
      · exact h.turned hpv (viewed_prot hLI.mp)
      · exact h.turned hpv (viewed_other hLI.mp (.inl ⟨rfl, by omega⟩))
      · exact h.advise hLI.mp hpv
      · exact h.turned hpv (viewed_other hLI.mp (.inr (.inr rfl)))
      · exact h.turned hpv (viewed_other hLI.mp (.inr (.inr rfl)))
      · exact h
      · exact h.store hpv
      · exact h.fork hs hn hp
      · exact h.exit
      · exact h.lend
      · exact h.send hs hp
  · unfold Fl.act
    rw [if_neg hnm]
    split
    · rw [peek_S]; exact h
    · split
      · unfold Fl.back
        split
        · exact h
        · exact ⟨h.pv, h.fp, h.sz⟩
      · split
        · exact h.put
        · split
          · exact h
          · split
            · exact h.size
            · split
              · rw [sync_n.2]; exact h
              · split <;> exact h
theorem Iv.run (h : Iv S) (hs : SI S j n) (hn0 : 0 ≤ n) {os : List FOp} (hn : n + pgsO os ≤ 490) : ∀ q, q ≤ os.length → Iv (runF S (os.take q))
  | 0, _ => by simpa [runF] using h
  | q + 1, hq => by
    obtain ⟨o, ho⟩ : ∃ o, os[q]? = some o := ⟨_, List.getElem?_eq_getElem (by omega)⟩
    have h1 := SI.run hs hn0 hn q (by omega)
    have h2 := pgsO_le os q
    have h3 := Iv.run h hs hn0 hn q (by omega)
    rw [runF_next ho]
    exact h3.act h1 (by omega)
end
end Go.Proofs.YtefiiooibbkffaaGreat

namespace Go.Proofs.YtefiiooibbkffaaGreat
open Go.ChangeShapes Go.WideShapes Go.ChangeAt Go.RowKit Go.Deep Go.Sort
set_option linter.unusedVariables false
set_option linter.unusedSimpArgs false

/-- What a page means, by its entry seen from the page. -/
def lookP (S : Fl) (own : Option (List UInt8)) (f o : Int) : Option (List UInt8) × Int := match own with
  | some b => (some b, 0)
  | none => if 0 < f then (match findF S.sz S.F (f, o) with | some b => (b, 0) | none => (none, 4)) else (none, 0)
theorem spot_norm {e : En} {pg : Int} (hf : 0 < e.f) : spotF e pg = ((normE e pg).f, (normE e pg).o) := by
  unfold spotF normE
  simp only [if_pos hf]
  rw [Prod.mk.injEq]
  exact ⟨rfl, by omega⟩
theorem find_no {S : Fl} (hfp : ∀ n, n ∈ S.F → 0 < n.1.1) {f o : Int} (hf : ¬ 0 < f) : findF S.sz S.F (f, o) = some none := by
  have h1 : hasF S.sz f = false := by
    unfold hasF
    rw [decide_eq_false hf]
    rfl
  have h2 : geA S.F (f, o) = none := by
    cases e : geA S.F (f, o) with
    | none => rfl
    | some b => exact (hf (hfp _ (geA_some e))).elim
  unfold findF
  simp only [h1, Bool.false_and, Bool.false_eq_true, if_false, h2]
theorem look_page {S : Fl} {p : Pr} {pg : Int} {v : En} (hfp : ∀ n, n ∈ S.F → 0 < n.1.1) (hv : pageOf p.L pg = some v) : S.look p pg = lookP S (ownF S.c p pg) v.f v.o := by
  obtain ⟨e, he, hn⟩ := at_pageS hv
  unfold Fl.look
  rw [he]
  simp only
  unfold Fl.means lookP
  cases ho : ownF S.c p pg with
  | some b => rfl
  | none =>
    simp only
    by_cases hf : 0 < e.f
    · have h1 : 0 < v.f := by rw [← hn]; exact hf
      rw [spot_norm hf, hn, if_pos h1]
      cases findF S.sz S.F (v.f, v.o) <;> rfl
    · have h1 : ¬ 0 < v.f := by rw [← hn]; exact hf
      rw [show spotF e pg = (e.f, (spotF e pg).2) from rfl, find_no hfp hf, if_neg h1]
theorem look_none {S : Fl} {p : Pr} {pg : Int} (hv : pageOf p.L pg = none) : S.look p pg = (none, 4) := by
  unfold Fl.look
  rw [at_pageN hv]
theorem byte_look {S : Fl} {id pg i : Int} {p : Pr} (hp : geA S.ps id = some p) : S.byte id pg i = if isAtB i = true then (atB (S.look p pg).1 i, (S.look p pg).2) else (0, 2) := by
  unfold Fl.byte
  rw [hp]
theorem atB_range (b : Option (List UInt8)) (i : Int) : 0 ≤ atB b i ∧ atB b i ≤ 255 := by
  unfold atB
  cases b with
  | none => simp only; omega
  | some l =>
    have := (l.getD i.toNat 0).toNat_lt
    simp only
    omega
theorem byte_range (S : Fl) (id pg i : Int) : 0 ≤ (S.byte id pg i).1 ∧ (S.byte id pg i).1 ≤ 255 := by
  unfold Fl.byte
  split
  · exact ⟨Int.le_refl _, by decide⟩
  · split
    · exact atB_range _ _
    · exact ⟨Int.le_refl _, by decide⟩
theorem isAtB_iff {i : Int} : isAtB i = true ↔ 0 ≤ i ∧ i < 4096 := by unfold isAtB; rw [decide_eq_true_eq]
theorem isByB_iff {i : Int} : isByB i = true ↔ 0 ≤ i ∧ i ≤ 255 := by unfold isByB; rw [decide_eq_true_eq]
theorem atB_with {b : Option (List UInt8)} (h : ∀ l, b = some l → l.length = 4096) {i v : Int} (hi : isAtB i = true) (hv : isByB v = true) : atB (some (withB b i v)) i = v := by
  rw [isAtB_iff] at hi
  rw [isByB_iff] at hv
  have hl : (b.getD zeroPg).length = 4096 := by
    cases b with
    | none => exact zeroPg_length
    | some l => exact h l rfl
  unfold atB withB
  simp only
  rw [List.getD_eq_getElem?_getD, List.getElem?_set_self (by rw [hl]; omega)]
  simp only [Option.getD_some]
  exact u8_of hv.1 hv.2
theorem atB_other {b : Option (List UInt8)} {i a v : Int} (hi : isAtB i = true) (ha : isAtB a = true) (hne : a ≠ i) : atB (some (withB b i v)) a = atB b a := by
  rw [isAtB_iff] at hi ha
  have h1 : i.toNat ≠ a.toNat := by omega
  unfold atB withB
  cases b with
  | none =>
    simp only [Option.getD_none]
    rw [List.getD_eq_getElem?_getD, List.getElem?_set_ne h1]
    unfold zeroPg
    rw [List.getElem?_replicate]
    split <;> rfl
  | some l =>
    simp only [Option.getD_some]
    rw [List.getD_eq_getElem?_getD, List.getElem?_set_ne h1, ← List.getD_eq_getElem?_getD]
/-- All pages are whole. -/
structure Lens (S : Fl) : Prop where
  f : ∀ n, n ∈ S.F → n.2.length = 4096
  c : ∀ q, q ∈ S.ps → ∀ a, a ∈ q.2.A → ∀ l, S.c a.2 = some l → l.length = 4096
theorem FW.lens {w : World} {kd : Nat → Ro} {t r : Nat} {h : Gh} {S : Fl} (k : FW w kd t r h S) : Lens S :=
  ⟨fun n hn => (k.hw.fs n hn).len _ rfl, fun q hq a ha l hl => by have := (k.bw.sl q hq a ha).sh; rw [hl] at this; exact this.len _ rfl⟩
theorem find_len {S : Fl} (hl : Lens S) {k : Int × Int} {l : List UInt8} (h : findF S.sz S.F k = some (some l)) : l.length = 4096 := by
  unfold findF at h
  split at h
  · cases h
  · exact hl.f _ (geA_some (Option.some.inj h))
theorem own_len {S : Fl} (hl : Lens S) {id : Int} {p : Pr} (hp : geA S.ps id = some p) {pg : Int} {l : List UInt8} (h : ownF S.c p pg = some l) : l.length = 4096 := by
  unfold ownF at h
  split at h
  · cases h
  · next s hs => exact hl.c _ (geA_some hp) _ (geA_some hs) l h
theorem look_len {S : Fl} (hl : Lens S) {id : Int} {p : Pr} (hp : geA S.ps id = some p) {pg : Int} : ∀ l, (S.look p pg).1 = some l → l.length = 4096 := fun l h => by
  unfold Fl.look at h
  split at h
  · next e he =>
    unfold Fl.means at h
    cases ho : ownF S.c p pg with
    | some b =>
      rw [ho] at h
      simp only at h
      have := own_len hl hp ho
      injection h with h; subst h; exact this
    | none =>
      rw [ho] at h
      simp only at h
      cases hf : findF S.sz S.F (spotF e pg) with
      | none => rw [hf] at h; cases h
      | some b =>
        rw [hf] at h
        simp only at h
        subst h
        exact find_len hl hf
  · cases h
/-- What a list says of a page in the end. -/
def hwF (l : List En) (pg : Int) (a : Int × Bool) : Int × Bool := l.foldl (fun a e => if e.s ≤ pg ∧ pg < e.e then (e.i, !e.sh) else a) a
theorem hw_page : ∀ {l : List En} {b : Int} (pg : Int) (a : Int × Bool), RF b l → hwF l pg a = match pageOf l pg with | some v => (v.i, !v.sh) | none => a
  | [], _, pg, a, _ => rfl
  | x :: r, b, pg, a, h => by
    obtain ⟨h1, h2, h3⟩ := h
    have ih := hw_page pg (if x.s ≤ pg ∧ pg < x.e then (x.i, !x.sh) else a) h3
    unfold hwF at ih ⊢
    rw [List.foldl_cons, ih]
    rw [show pageOf (x :: r) pg = (if pg < x.e then if x.s ≤ pg then some (normE x pg) else none else pageOf r pg) from rfl]
    by_cases p2 : pg < x.e
    · rw [if_pos p2]
      have h4 := page_up h3 p2
      rw [h4]
      simp only
      by_cases p1 : x.s ≤ pg
      · rw [if_pos p1, if_pos ⟨p1, p2⟩]
        rfl
      · rw [if_neg p1, if_neg (fun e => p1 e.1)]
    · rw [if_neg p2, if_neg (fun e => p2 e.2)]
theorem hw_next {l : List En} {pg : Int} {q : Nat} {x : En} (hx : l[q]? = some x) (a : Int × Bool) : hwF (l.take (q + 1)) pg a = if x.s ≤ pg ∧ pg < x.e then (x.i, !x.sh) else hwF (l.take q) pg a := by
  unfold hwF
  rw [takel_at hx, List.foldl_append]
  rfl
def o10 : FOp := ⟨10, 1, 0, 0, 0, false, 0, 0, false, 0, 0, 0, 0, 0⟩
def o9 (proc pg a v : Int) : FOp := ⟨9, proc, pg, 0, 0, false, 0, 0, false, 0, a, v, 0, 0⟩
theorem fork_act {S : Fl} : ((S.act o10).e = 0 ∧ ∃ p, geA S.ps 1 = some p ∧ S.doN o10 = lowA S.ps ∧ (S.act o10).S = { S with ps := (lowA S.ps, (forkF S p).ch) :: setP S.ps 1 (forkF S p).pa, c := (forkF S p).c, nx := (forkF S p).nx }) ∨ (S.act o10).e = 7 ∨ (S.act o10).e = 5 := by
  have hnm : namesB o10.k = true := by decide
  cases hp : geA S.ps 1 with
  | none => rw [act_N hnm hp]; exact .inr (.inl rfl)
  | some p =>
    have e1 : S.act o10 = S.fork 1 p := by rw [act_P hnm hp]; rfl
    by_cases h16 : S.ps.length < 16
    · refine .inl ⟨?_, p, rfl, ?_, ?_⟩
      · rw [e1]; unfold Fl.fork; rw [if_pos h16]
      · unfold Fl.doN; rw [e1]; unfold Fl.fork; rw [if_pos h16]; rfl
      · rw [e1]; unfold Fl.fork; rw [if_pos h16]
    · rw [e1]; unfold Fl.fork; rw [if_neg h16]; exact .inr (.inr rfl)
/-- A parent and its child. -/
structure Kin (S : Fl) (N : Int) (S0 : Fl) (p pa ch : Pr) (k : Fk) : Prop where
  n1 : N ≠ 1
  gp : geA S.ps 1 = some pa
  gc : geA S.ps N = some ch
  fk : Forked S0 p k
  ep : pa = k.pa
  ec : ch = k.ch
  cc : S.c = k.c
  nx : S.nx = k.nx
  fp : ∀ n, n ∈ S.F → 0 < n.1.1
theorem fork_kin {S : Fl} {j : Nat} {n : Int} (h : SI S j n) (hn : n ≤ 490) (hv : Iv S) {p : Pr} (hp : geA S.ps 1 = some p) : Kin { S with ps := (lowA S.ps, (forkF S p).ch) :: setP S.ps 1 (forkF S p).pa, c := (forkF S p).c, nx := (forkF S p).nx } (lowA S.ps) S p (forkF S p).pa (forkF S p).ch (forkF S p) := by
  obtain ⟨i0, e0, -, e2, -⟩ := lowA_spec S.ps
  have hne : lowA S.ps ≠ 1 := fun e => by
    rw [← e0, e, hp] at e2
    cases e2
  obtain ⟨q1, q2⟩ := geA_qs (ch := (forkF S p).ch) (pa := (forkF S p).pa) hne hp
  exact ⟨hne, q2, q1, fork_made h hn hp (hv.pv _ (geA_some hp)), rfl, rfl, rfl, rfl, hv.fp⟩
section
variable {S S0 : Fl} {N pg a : Int} {p pa ch : Pr} {k : Fk}
theorem kin_none (h : Kin S N S0 p pa ch k) (hv : ∀ v, pageOf p.L pg = some v → v.i = 2) : (S.byte N pg a).2 = 4 ∨ (S.byte N pg a).2 = 2 := by
  rw [byte_look h.gc, look_none (by rw [h.ec]; exact h.fk.no pg hv)]
  split
  · exact .inl rfl
  · exact .inr rfl
theorem kin_own (h : Kin S N S0 p pa ch k) {v : En} (hv : pageOf p.L pg = some v) (hi : v.i ≠ 2) : ownF S.c pa pg = ownF S.c ch pg := by
  obtain ⟨q1, q2, q3⟩ := h.fk.yes pg v hv hi
  have hpl : pageOf k.pa.L pg = some v := by rw [h.fk.pl]; exact hv
  rw [h.ep, h.ec, h.cc]
  cases hs : v.sh with
  | true =>
    rw [h.fk.pa.own (pg := pg) (fun u hu => by rw [hpl] at hu; rw [← Option.some.inj hu]; exact hs)]
    unfold ownF
    rw [q3 hs]
  | false =>
    have d := q2 hs
    unfold DX at d
    split at d
    · obtain ⟨s, d1, d2⟩ := d
      unfold ownF
      rw [d1, d2]
    · obtain ⟨d1, d2⟩ := d
      rw [h.fk.kk.ow pg]
      cases ho : ownF S0.c p pg with
      | some b =>
        obtain ⟨s, g1, g2, -⟩ := d1 b ho
        unfold ownF
        rw [g1]
        exact g2.symm
      | none =>
        unfold ownF
        rw [d2 ho]
theorem kin_same (h : Kin S N S0 p pa ch k) {v : En} (hv : pageOf p.L pg = some v) (hi : v.i ≠ 2) : S.look pa pg = S.look ch pg := by
  have h1 := look_page (S := S) (p := pa) (pg := pg) (v := v) h.fp (by rw [h.ep, h.fk.pl]; exact hv)
  have h2 := look_page (S := S) (p := ch) (pg := pg) h.fp (by rw [h.ec]; exact (h.fk.yes pg v hv hi).1)
  rw [h1, h2, kin_own h hv hi]
  obtain ⟨-, -, e3, e4, -⟩ := takeE_parts (unwire v)
  rw [e3, e4]
  rfl
theorem kin_byte (h : Kin S N S0 p pa ch k) {v : En} (hv : pageOf p.L pg = some v) (hi : v.i ≠ 2) : S.byte 1 pg a = S.byte N pg a := by
  rw [byte_look h.gp, byte_look h.gc, kin_same h hv hi]
/-- A store of the parent's, and what its child has then. -/
theorem kin_store (h : Kin S N S0 p pa ch k) (hl : Lens S) {v : En} (hv : pageOf p.L pg = some v) (hi : v.i ≠ 2) {x : Int} (he : (S.act (o9 1 pg a x)).e = 0) :
    (v.i = 1 → ((S.act (o9 1 pg a x)).S.byte N pg a).1 = x) ∧ (v.i ≠ 1 → v.sh = false → ((S.act (o9 1 pg a x)).S.byte N pg a).1 = (S.byte N pg a).1) := by
  have hnm : namesB (o9 1 pg a x).k = true := by show namesB 9 = true; decide
  have e1 : S.act (o9 1 pg a x) = S.store pa (o9 1 pg a x) := by rw [act_P hnm h.gp]; rfl
  rw [e1] at he ⊢
  obtain ⟨q1, q2, q3⟩ := h.fk.yes pg v hv hi
  have hpl : pageOf pa.L pg = some v := by rw [h.ep, h.fk.pl]; exact hv
  obtain ⟨e, hat, hen⟩ := at_pageS hpl
  unfold Fl.store at he ⊢
  by_cases hr : (S.reach pa (o9 1 pg a x).addr 2 (isAtB (o9 1 pg a x).ati && isByB (o9 1 pg a x).v)).2 = 0
  · rw [if_pos hr] at he ⊢
    have hat2 : atV pa.L (o9 1 pg a x).addr = some e := hat
    rw [hat2] at he ⊢
    simp only at he ⊢
    have hmay := reach_may (.inr hr)
    rw [Bool.and_eq_true] at hmay
    have hma : isAtB a = true := hmay.1
    have hmv : isByB x = true := hmay.2
    have hry := reach_yes hr
    have hlk : (S.reach pa (o9 1 pg a x).addr 2 (isAtB (o9 1 pg a x).ati && isByB (o9 1 pg a x).v)) = S.look pa pg := hry
    rw [hlk] at hr ⊢
    have hlen := look_len hl h.gp (pg := pg)
    have hsh : e.sh = v.sh := by rw [← hen]; rfl
    by_cases hs : e.sh = true
    · rw [if_pos hs]
      have hs2 : v.sh = true := by rw [← hsh]; exact hs
      refine ⟨fun h1 => ?_, fun _ h2 => by rw [hs2] at h2; cases h2⟩
      have hpos := h.fk.pa.fp pg v (by rw [h.fk.pl]; exact hv) hs2
      have hef : 0 < e.f := by rw [← show (normE e pg).f = e.f from rfl, hen]; exact hpos
      have hsp : spotF e pg = (v.f, v.o) := by rw [spot_norm hef, hen]
      have hfp : ∀ n, n ∈ puA S.F (spotF e pg) (withB (S.look pa pg).1 a x) → 0 < n.1.1 := fp_put h.fp (by rw [hsp]; exact hpos)
      show (({ S with F := puA S.F (spotF e pg) (withB (S.look pa pg).1 a x) } : Fl).byte N pg a).1 = x
      rw [byte_look (S := { S with F := puA S.F (spotF e pg) (withB (S.look pa pg).1 a x) }) (p := ch) h.gc, if_pos hma]
      rw [look_page (S := { S with F := puA S.F (spotF e pg) (withB (S.look pa pg).1 a x) }) (p := ch) (pg := pg) hfp (by rw [h.ec]; exact q1)]
      obtain ⟨-, -, t3, t4, -⟩ := takeE_parts (unwire v)
      rw [t3, t4]
      have ho : ownF S.c ch pg = none := by unfold ownF; rw [h.ec, q3 hs2]
      show atB (lookP _ (ownF S.c ch pg) v.f v.o).1 a = x
      rw [ho]
      unfold lookP
      simp only
      rw [if_pos hpos]
      have hfs : ∃ b, findF S.sz S.F (v.f, v.o) = some b := by
        have h3 := look_page (S := S) (p := pa) (pg := pg) h.fp hpl
        rw [h3] at hr
        have ho2 : ownF S.c pa pg = none := by rw [kin_own h hv hi]; exact ho
        rw [ho2] at hr
        unfold lookP at hr
        simp only at hr
        rw [if_pos hpos] at hr
        cases hf : findF S.sz S.F (v.f, v.o) with
        | some b => exact ⟨b, rfl⟩
        | none => rw [hf] at hr; cases hr
      obtain ⟨b, hb⟩ := hfs
      have hfn : findF S.sz (puA S.F (spotF e pg) (withB (S.look pa pg).1 a x)) (v.f, v.o) = some (some (withB (S.look pa pg).1 a x)) := by
        unfold findF at hb ⊢
        split at hb
        · cases hb
        · next hc => rw [if_neg hc, hsp, geA_put, if_pos rfl]
      show atB (match findF S.sz (puA S.F (spotF e pg) (withB (S.look pa pg).1 a x)) (v.f, v.o) with | some b => (b, (0 : Int)) | none => (none, 4)).1 a = x
      rw [hfn]
      exact atB_with hlen hma hmv
    · rw [if_neg hs]
      have hs2 : v.sh = false := by rw [← hsh]; simpa using hs
      have d := q2 hs2
      have hgc : geA (setP S.ps 1 (slotF pa S.c S.nx pg).p) N = some ch := by rw [geA_setP, if_neg h.n1]; exact h.gc
      have hby : ∀ c2, (({ S with ps := setP S.ps 1 (slotF pa S.c S.nx pg).p, c := c2, nx := (slotF pa S.c S.nx pg).nx } : Fl).byte N pg a).1 = atB (lookP S (ownF c2 ch pg) v.f v.o).1 a := fun c2 => by
        rw [byte_look (S := { S with ps := setP S.ps 1 (slotF pa S.c S.nx pg).p, c := c2, nx := (slotF pa S.c S.nx pg).nx }) (p := ch) hgc, if_pos hma]
        rw [look_page (S := { S with ps := setP S.ps 1 (slotF pa S.c S.nx pg).p, c := c2, nx := (slotF pa S.c S.nx pg).nx }) (p := ch) (pg := pg) h.fp (by rw [h.ec]; exact q1)]
        obtain ⟨-, -, t3, t4, -⟩ := takeE_parts (unwire v)
        rw [t3, t4]
        rfl
      refine ⟨fun h1 => ?_, fun h1 _ => ?_⟩
      · unfold DX at d
        rw [if_pos h1] at d
        obtain ⟨s, d1, d2⟩ := d
        have hsl : (slotF pa S.c S.nx pg).s = s := by unfold slotF; rw [h.ep, d2]
        show (({ S with ps := setP S.ps 1 (slotF pa S.c S.nx pg).p, c := upd (slotF pa S.c S.nx pg).c (slotF pa S.c S.nx pg).s (some (withB (S.look pa pg).1 a x)), nx := (slotF pa S.c S.nx pg).nx } : Fl).byte N pg a).1 = x
        rw [hby]
        have ho : ownF (upd (slotF pa S.c S.nx pg).c (slotF pa S.c S.nx pg).s (some (withB (S.look pa pg).1 a x))) ch pg = some (withB (S.look pa pg).1 a x) := by
          unfold ownF
          rw [h.ec, d1, hsl]
          exact upd_same _ _ _
        rw [ho]
        exact atB_with hlen hma hmv
      · unfold DX at d
        rw [if_neg h1] at d
        obtain ⟨d1, d2⟩ := d
        have ho : ownF (upd (slotF pa S.c S.nx pg).c (slotF pa S.c S.nx pg).s (some (withB (S.look pa pg).1 a x))) ch pg = ownF S.c ch pg := by
          cases hg : geA ch.A pg with
          | none => unfold ownF; rw [hg]
          | some s =>
            cases hob : ownF S0.c p pg with
            | none => have := d2 hob; rw [h.ec, this] at hg; cases hg
            | some b =>
              obtain ⟨s2, g1, g2, g3, g4⟩ := d1 b hob
              rw [h.ec, g1] at hg
              have hss : s2 = s := Option.some.inj hg
              subst hss
              have hne : s2 ≠ (slotF pa S.c S.nx pg).s := fun e => by
                have h5 := slot_at pa S.c S.nx pg
                rcases slot_num.1 _ (geA_some h5) with h6 | h6
                · rw [h.ep] at h6
                  rw [h.ep] at e
                  exact g4 _ h6 e.symm
                · have h7 : (slotF pa S.c S.nx pg).s = S.nx := by injection h6
                  rw [h7, h.nx] at e
                  omega
              unfold ownF
              rw [h.ec, g1]
              simp only
              rw [upd_ne _ _ hne, slot_num.2.1 s2 (by rw [h.nx]; exact g3)]
        show (({ S with ps := setP S.ps 1 (slotF pa S.c S.nx pg).p, c := upd (slotF pa S.c S.nx pg).c (slotF pa S.c S.nx pg).s (some (withB (S.look pa pg).1 a x)), nx := (slotF pa S.c S.nx pg).nx } : Fl).byte N pg a).1 = _
        rw [hby, ho, byte_look h.gc, if_pos hma, look_page (S := S) (p := ch) (pg := pg) h.fp (by rw [h.ec]; exact q1)]
        obtain ⟨-, -, t3, t4, -⟩ := takeE_parts (unwire v)
        rw [t3, t4]
        rfl
  · rw [if_neg hr] at he
    exact (hr he).elim
end
end Go.Proofs.YtefiiooibbkffaaGreat

namespace Go.Proofs.YtefiiooibbkffaaGreat
open Go.ChangeShapes Go.WideShapes Go.ChangeAt Go.RowKit Go.Deep Go.Sort
set_option linter.unusedVariables false
set_option linter.unusedSimpArgs false

def o17 (n : Int) : FOp := ⟨17, 0, 0, n, 0, false, 1, 0, false, 0, 0, 0, 0, 0⟩
def o15 (pg a v : Int) : FOp := ⟨15, 0, 0, 0, 0, false, 1, pg, false, 0, a, v, 0, 0⟩
def o16 (pg a : Int) : FOp := ⟨16, 0, 0, 0, 0, false, 1, pg, false, 0, a, 0, 0, 0⟩
section
variable {S : Fl} {n pg a v : Int}
theorem has1 (h : S.sz.length = 2) : hasF S.sz 1 = true := by unfold hasF; rw [h]; decide
/-- What a size makes. -/
def sized (S : Fl) (n : Int) : Fl := { S with F := cutF S.F 1 n (S.sz.getD 0 0), sz := S.sz.set 0 n }
theorem size_act (h : S.sz.length = 2) (h0 : 0 ≤ n) (h1 : n ≤ 3) : (S.act (o17 n)).e = 0 ∧ S.doN (o17 n) = 0 ∧ (S.act (o17 n)).S = sized S n := by
  have e1 : S.act (o17 n) = S.size (o17 n) := rfl
  have hm : maySzB (o17 n).n = true := by show maySzB n = true; unfold maySzB; rw [decide_eq_true_eq]; omega
  have e2 : S.size (o17 n) = ⟨sized S n, 0, 0⟩ := by
    unfold Fl.size
    rw [if_pos (show hasF S.sz (o17 n).file = true from has1 h), if_pos hm]
    rfl
  unfold Fl.doN
  rw [e1, e2]
  exact ⟨rfl, rfl, rfl⟩
theorem sized_at (h : S.sz.length = 2) (n : Int) : (sized S n).sz.length = 2 ∧ (sized S n).sz.getD 0 0 = n := by
  refine ⟨by show (S.sz.set 0 n).length = 2; rw [List.length_set]; exact h, ?_⟩
  show (S.sz.set 0 n).getD 0 0 = n
  rw [List.getD_eq_getElem?_getD, List.getElem?_set_self (by omega)]
  rfl
theorem find1 (h : S.sz.length = 2) (k : Int) : findF S.sz S.F (1, k) = if 0 ≤ k ∧ k < S.sz.getD 0 0 then some (geA S.F (1, k)) else none := by
  unfold findF
  rw [show hasF S.sz (1, k).1 = true from has1 h, Bool.true_and]
  by_cases hk : 0 ≤ k ∧ k < S.sz.getD 0 0
  · rw [if_pos hk, if_neg]
    simp only [Bool.or_eq_true, decide_eq_true_eq]
    have : ((1 : Int) - 1).toNat = 0 := by decide
    rw [this]
    omega
  · rw [if_neg hk, if_pos]
    simp only [Bool.or_eq_true, decide_eq_true_eq]
    have : ((1 : Int) - 1).toNat = 0 := by decide
    rw [this]
    omega
theorem put_act (h : S.sz.length = 2) (h3 : S.sz.getD 0 0 = 3) (h0 : 0 ≤ pg) (h1 : pg ≤ 2) : ((S.act (o15 pg a v)).e = 2) ∨ ((S.act (o15 pg a v)).e = 0 ∧ isAtB a = true ∧ isByB v = true ∧ ∃ b, (∀ l, b = some l → (∀ n, n ∈ S.F → n.2.length = 4096) → l.length = 4096) ∧ (S.act (o15 pg a v)).S = { S with F := puA S.F (1, pg) (withB b a v) }) := by
  have e1 : S.act (o15 pg a v) = S.put (o15 pg a v) := rfl
  have ho : S.ofFile (o15 pg a v).file (o15 pg a v).off (isAtB (o15 pg a v).ati && isByB (o15 pg a v).v) = if (isAtB a && isByB v) = true then (geA S.F (1, pg), 0) else (none, 2) := by
    unfold Fl.ofFile
    rw [if_pos (show hasF S.sz (o15 pg a v).file = true from has1 h)]
    by_cases hm : (isAtB a && isByB v) = true
    · rw [if_pos (show (isAtB (o15 pg a v).ati && isByB (o15 pg a v).v) = true from hm), if_pos hm]
      rw [show ((o15 pg a v).file, (o15 pg a v).off) = ((1 : Int), pg) from rfl, find1 h, if_pos ⟨h0, by omega⟩]
    · rw [if_neg (show ¬ (isAtB (o15 pg a v).ati && isByB (o15 pg a v).v) = true from hm), if_neg hm]
  rw [e1]
  unfold Fl.put
  rw [ho]
  by_cases hm : (isAtB a && isByB v) = true
  · rw [if_pos hm]
    rw [Bool.and_eq_true] at hm
    exact .inr ⟨rfl, hm.1, hm.2, geA S.F (1, pg), fun l hl hL => hL _ (geA_some hl), rfl⟩
  · rw [if_neg hm]
    exact .inl rfl
theorem get_act (h : S.sz.length = 2) (ha : isAtB a = true) (h0 : 0 ≤ pg) : (S.act (o16 pg a)).S = S ∧ (pg < S.sz.getD 0 0 → (S.act (o16 pg a)).e = 0 ∧ S.doN (o16 pg a) = atB (geA S.F (1, pg)) a) ∧ (S.sz.getD 0 0 ≤ pg → (S.act (o16 pg a)).e = 4) := by
  have e1 : S.act (o16 pg a) = ⟨S, (S.fileByte 1 pg a).1, (S.fileByte 1 pg a).2⟩ := rfl
  have ho : S.ofFile 1 pg (isAtB a) = match findF S.sz S.F (1, pg) with | some b => (b, 0) | none => (none, 4) := by
    unfold Fl.ofFile
    rw [if_pos (has1 h), if_pos ha]
    cases findF S.sz S.F (1, pg) <;> rfl
  unfold Fl.doN
  rw [e1]
  refine ⟨rfl, fun hp => ?_, fun hp => ?_⟩
  · have hf : S.fileByte 1 pg a = (atB (geA S.F (1, pg)) a, 0) := by
      unfold Fl.fileByte
      rw [ho, find1 h, if_pos ⟨h0, hp⟩]
    rw [hf]
    exact ⟨rfl, rfl⟩
  · have hf : (S.fileByte 1 pg a).2 = 4 := by
      unfold Fl.fileByte
      rw [ho, find1 h, if_neg (by omega)]
    exact hf
/-- A page of a file seen through a shared entry. -/
theorem seen (hv : Iv S) (h3 : S.sz.getD 0 0 = 3) (h0 : 0 ≤ pg) (h1 : pg ≤ 2) {id : Int} {p : Pr} (hp : geA S.ps id = some p) (hm : MapL p.L) {e : En} (he : e ∈ p.L) (hs : e.sh = true) (hf : e.f = 1) (hn0 : e.s ≤ e.s + pg - e.o) (hn1 : e.s + pg - e.o < e.e) (ha : isAtB a = true) : S.byte id (e.s + pg - e.o) a = (atB (geA S.F (1, pg)) a, 0) := by
  have hpg := page_some hm.rf he hn0 hn1
  rw [byte_look hp, if_pos ha, look_page hv.fp hpg]
  have ho : ownF S.c p (e.s + pg - e.o) = none := (hv.pv _ (geA_some hp)).own (fun u hu => by rw [hpg] at hu; rw [← Option.some.inj hu]; exact hs) _
  rw [ho]
  have hfo : (normE e (e.s + pg - e.o)).f = 1 ∧ (normE e (e.s + pg - e.o)).o = pg := by
    unfold normE
    simp only
    rw [if_pos (by omega)]
    exact ⟨hf, by omega⟩
  rw [hfo.1, hfo.2]
  unfold lookP
  simp only
  rw [if_pos (by decide), find1 hv.sz, if_pos ⟨h0, by omega⟩]
theorem cut_none (hs : S.sz.getD 0 0 = 3) (h0 : 0 ≤ pg) (h1 : pg ≤ 2) (hl : S.sz.length = 2) : geA (sized (sized S pg) 3).F (1, pg) = none := by
  show geA (cutF (cutF S.F 1 pg (S.sz.getD 0 0)) 1 3 ((S.sz.set 0 pg).getD 0 0)) (1, pg) = none
  have key : geA (cutF S.F 1 pg (S.sz.getD 0 0)) (1, pg) = none := by
    unfold cutF
    rw [geA_filter S.F (fun k => !decide (k.1 = 1 ∧ pg ≤ k.2 ∧ k.2 < S.sz.getD 0 0))]
    refine if_neg fun hh => ?_
    have h2 : (!decide ((1 : Int) = 1 ∧ pg ≤ pg ∧ pg < S.sz.getD 0 0)) = true := hh
    rw [decide_eq_true ⟨rfl, Int.le_refl _, by rw [hs]; omega⟩] at h2
    cases h2
  generalize cutF S.F 1 pg (S.sz.getD 0 0) = F2 at *
  unfold cutF
  rw [geA_filter F2 (fun k => !decide (k.1 = 1 ∧ 3 ≤ k.2 ∧ k.2 < (S.sz.set 0 pg).getD 0 0)), key]
  split <;> rfl
end
end Go.Proofs.YtefiiooibbkffaaGreat
