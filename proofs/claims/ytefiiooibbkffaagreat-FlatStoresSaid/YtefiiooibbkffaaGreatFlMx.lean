/- Layer 17, plainly: slots lie under private entries; what is shared is of a file; files' pages have numbers above 0. No program. Layer 17, plainly: what a child has, page by page; what worlds keep, whatever is done. No program. Layer 17, plainly: a child and its parent, byte by byte; a store of the parent's. Layer 17, plainly: a slot's number belongs to one page. Layer 17, plainly: a store that is OK: its byte, its page, other pages. Layer 17 (landed): pantrylaw17.shared; several worlds, their pages. Layer 17 (landed): a box that is written. Layer 17 (landed): FlatStores, walked. Written by wip/genflstores.py. -/
import Derived.Test.YtefiiooibbkffaaGreatFlMq
import Derived.Test.YtefiiooibbkffaaGreatFlMv
import Derived.Laws.StructEq
namespace Go.Proofs.YtefiiooibbkffaaGreat
open Go.ChangeShapes Go.WideShapes Go.ChangeAt Go.RowKit Go.Deep Go.Sort
set_option linter.unusedVariables false
set_option linter.unusedSimpArgs false

structure PvA (p : Pr) : Prop where
  pv : ∀ a, a ∈ p.A → ∃ v, pageOf p.L a.1 = some v ∧ v.sh = false
  fp : ∀ pg v, pageOf p.L pg = some v → v.sh = true → 0 < v.f
theorem PvA.no {p : Pr} (h : PvA p) {pg : Int} (hv : ∀ v, pageOf p.L pg = some v → v.sh = true) : geA p.A pg = none := by
  cases hg : geA p.A pg with
  | none => rfl
  | some s =>
    obtain ⟨u, h1, h2⟩ := h.pv _ (geA_some hg)
    rw [hv u h1] at h2
    cases h2
theorem PvA.own {p : Pr} (h : PvA p) {pg : Int} (hv : ∀ v, pageOf p.L pg = some v → v.sh = true) (c : Nat → Option (List UInt8)) : ownF c p pg = none := by
  unfold ownF
  rw [h.no hv]
theorem setV_same (k v : Int) (on : Bool) (x : En) : (setV k v on x).sh = x.sh ∧ (setV k v on x).f = x.f := by
  unfold setV
  split
  · exact ⟨rfl, rfl⟩
  · split
    · exact ⟨rfl, rfl⟩
    · split <;> exact ⟨rfl, rfl⟩
/-- What a call that changes entries alone makes of the pages. -/
def Viewed (l m : List En) : Prop := ∃ g : Int → En → En, (∀ pg x, (g pg x).sh = x.sh ∧ (g pg x).f = x.f) ∧ ∀ pg, pageOf m pg = (pageOf l pg).map (g pg)
theorem viewed_refl (l : List En) : Viewed l l := ⟨fun _ => id, fun _ _ => ⟨rfl, rfl⟩, fun pg => by cases pageOf l pg <;> rfl⟩
theorem viewed_set {l : List En} (h : MapL l) {lo n k v : Int} {on : Bool} (hr : RF 0 (chgE (setV k v on) l lo (lo + n))) : Viewed l (mergeE (chgE (setV k v on) l lo (lo + n))) := by
  refine ⟨fun pg x => if lo ≤ pg ∧ pg < lo + n then setV k v on x else x, fun pg x => ?_, fun pg => ?_⟩
  · by_cases hin : lo ≤ pg ∧ pg < lo + n
    · simp only [if_pos hin]; exact setV_same k v on x
    · simp only [if_neg hin]; exact ⟨trivial, trivial⟩
  · rw [page_set h hr]
    by_cases hin : lo ≤ pg ∧ pg < lo + n
    · simp only [if_pos hin]
    · simp only [if_neg hin]
      cases pageOf l pg <;> rfl
theorem viewed_other {l : List En} (h : MapL l) {lo n k v most : Int} {on : Bool} (hk : (k = 3 ∧ most ≤ 2) ∨ (k = 4 ∧ most ≤ 4) ∨ k = 5) : Viewed l (otherV l lo n k v most on).l := by
  unfold otherV
  split
  · next hc =>
    split
    · exact viewed_set h (rf_other h.rf hc.2.1 hc.2.2 hk)
    · exact viewed_refl l
  · exact viewed_refl l
theorem viewed_prot {l : List En} (h : MapL l) {lo n p : Int} : Viewed l (protV l lo n p).l := by
  unfold protV
  split
  · next hc =>
    split
    · split
      · next hp => exact viewed_set h (rf_prot h.rf hc.1 hc.2.1 hc.2.2 hp)
      · exact viewed_refl l
    · exact viewed_refl l
  · exact viewed_refl l
theorem PvA.viewed {p : Pr} (h : PvA p) {l : List En} (hv : Viewed p.L l) : PvA ⟨l, p.A⟩ := by
  obtain ⟨g, hg, he⟩ := hv
  refine ⟨fun a ha => ?_, fun pg v h1 h2 => ?_⟩
  · obtain ⟨v, h1, h2⟩ := h.pv a ha
    exact ⟨g a.1 v, by show pageOf l a.1 = _; rw [he, h1]; rfl, by rw [(hg a.1 v).1]; exact h2⟩
  · have h3 : pageOf l pg = some v := h1
    rw [he] at h3
    cases e : pageOf p.L pg with
    | none => rw [e] at h3; cases h3
    | some u =>
      rw [e] at h3
      have h4 : g pg u = v := Option.some.inj h3
      subst h4
      rw [(hg pg u).2]
      rw [(hg pg u).1] at h2
      exact h.fp pg u e h2
theorem inGone_no {g : List En} {pg : Int} (h : inGone g pg = false) : pageOf g pg = none := by
  refine page_none fun x hx hp => ?_
  unfold inGone at h
  have := List.any_eq_false.1 h x hx
  simp only [decide_eq_true_eq] at this
  exact this hp
/-- Slots that are left lie where nothing has gone. -/
theorem PvA.went {p : Pr} (h : PvA p) {d : Did} (hv : ∀ pg v, pageOf p.L pg = some v → pageOf d.gone pg = none → pageOf d.l pg = some v) (hf : ∀ pg v, pageOf d.l pg = some v → v.sh = true → 0 < v.f) : PvA ⟨d.l, forgetP p.A d.gone⟩ := by
  refine ⟨fun a ha => ?_, hf⟩
  obtain ⟨h1, h2⟩ := List.mem_filter.1 ha
  obtain ⟨v, h3, h4⟩ := h.pv a h1
  exact ⟨v, hv _ _ h3 (inGone_no (by simpa using h2)), h4⟩
theorem PvA.unmap {p : Pr} (h : PvA p) (hm : MapL p.L) {lo n : Int} (he : (unmapV p.L lo n).err = 0) : PvA ⟨(unmapV p.L lo n).l, forgetP p.A (unmapV p.L lo n).gone⟩ := by
  have hr : rangeV lo n = true := by
    unfold unmapV at he
    split at he
    · assumption
    · cases he
  refine h.went (fun pg v h1 h2 => ?_) fun pg v h1 h2 => ?_
  · unfold unmapV at h2
    rw [if_pos hr] at h2
    have h3 : pageOf (goneE p.L lo (lo + n)) pg = none := h2
    rw [page_gone lo (lo + n) pg hm.rf] at h3
    rw [page_unmap hm hr]
    by_cases hin : lo ≤ pg ∧ pg < lo + n
    · rw [if_pos hin, h1] at h3; cases h3
    · rw [if_neg hin]; exact h1
  · rw [page_unmap hm hr] at h1
    by_cases hin : lo ≤ pg ∧ pg < lo + n
    · rw [if_pos hin] at h1; cases h1
    · rw [if_neg hin] at h1; exact h.fp pg v h1 h2
theorem PvA.map {p : Pr} (h : PvA p) (hm : MapL p.L) {a : Int} {x : En} {fx : Bool} (he : (mapV p.L a x fx).err = 0) (hx : x.sh = true → 0 < x.f) : PvA ⟨(mapV p.L a x fx).l, forgetP p.A (mapV p.L a x fx).gone⟩ := by
  obtain ⟨b, -, -, -, -, -, -, -, -, -, hp, hg⟩ := page_map16 hm he
  refine h.went (fun pg v h1 h2 => ?_) fun pg v h1 h2 => ?_
  · rw [hp]
    by_cases hin : b ≤ pg ∧ pg < b + (x.e - x.s)
    · rw [(hg pg hin.1 hin.2).1, h1] at h2; cases h2
    · rw [if_neg hin]; exact h1
  · rw [hp] at h1
    by_cases hin : b ≤ pg ∧ pg < b + (x.e - x.s)
    · rw [if_pos hin] at h1
      have h3 : normE (moveE x b) pg = v := Option.some.inj h1
      subst h3
      exact hx h2
    · rw [if_neg hin] at h1; exact h.fp pg v h1 h2
theorem slotF_A {p : Pr} {c : Nat → Option (List UInt8)} {nx : Nat} {pg : Int} : (slotF p c nx pg).p.L = p.L ∧ ∀ a, a ∈ (slotF p c nx pg).p.A → a ∈ p.A ∨ a.1 = pg := by
  unfold slotF
  cases hg : geA p.A pg with
  | some s => exact ⟨rfl, fun a ha => .inl ha⟩
  | none =>
    refine ⟨rfl, fun a ha => ?_⟩
    rcases mem_puA ha with rfl | ⟨h1, -⟩
    · exact .inr rfl
    · exact .inl h1
theorem PvA.slot {p : Pr} (h : PvA p) {pg : Int} {v : En} (hv : pageOf p.L pg = some v) (hs : v.sh = false) (c : Nat → Option (List UInt8)) (nx : Nat) : PvA (slotF p c nx pg).p := by
  obtain ⟨e1, e2⟩ := slotF_A (p := p) (c := c) (nx := nx) (pg := pg)
  refine ⟨fun a ha => ?_, fun pg v h1 h2 => h.fp pg v (by rw [← e1]; exact h1) h2⟩
  rw [e1]
  rcases e2 a ha with h1 | h1
  · exact h.pv a h1
  · exact ⟨v, by rw [h1]; exact hv, hs⟩
theorem page_at {L : List En} {pg : Int} {e : En} (h : atV L pg = some e) : pageOf L pg = some (normE e pg) := by rw [at_page, h]; rfl
/-- What worlds keep. -/
structure Iv (S : Fl) : Prop where
  pv : ∀ q, q ∈ S.ps → PvA q.2
  fp : ∀ n, n ∈ S.F → 0 < n.1.1
  sz : S.sz.length = 2
theorem PvA.empty : PvA ⟨[], []⟩ := ⟨fun a ha => (by cases ha), fun pg v h => (by cases h)⟩
theorem iv_new : Iv (newF [3, 2]) := by
  refine ⟨fun q hq => ?_, fun n hn => (by cases hn), rfl⟩
  simp only [newF, List.mem_singleton] at hq
  subst hq
  exact PvA.empty
theorem pv_setP {ps : List (Int × Pr)} {id : Int} {p : Pr} (h : ∀ q, q ∈ ps → PvA q.2) (hp : PvA p) : ∀ q, q ∈ setP ps id p → PvA q.2 := fun q hq => by
  rcases mem_setP hq with ⟨-, h1⟩ | rfl
  · exact h q h1
  · exact hp
theorem fp_filter {F : List ((Int × Int) × List UInt8)} (g : (Int × Int) × List UInt8 → Bool) (h : ∀ n, n ∈ F → 0 < n.1.1) : ∀ n, n ∈ F.filter g → 0 < n.1.1 := fun n hn => h n (List.mem_filter.1 hn).1
theorem fp_put {F : List ((Int × Int) × List UInt8)} {k : Int × Int} {b : List UInt8} (h : ∀ n, n ∈ F → 0 < n.1.1) (hk : 0 < k.1) : ∀ n, n ∈ puA F k b → 0 < n.1.1 := fun n hn => by
  rcases mem_puA hn with rfl | ⟨h1, -⟩
  · exact hk
  · exact h n h1
section
variable {S : Fl} {j : Nat} {n : Int} {p tp : Pr} {o : FOp} {id : Int}
theorem Iv.turned (h : Iv S) (hp : PvA p) {d : Did} (hv : Viewed p.L d.l) : Iv (S.turned id p d).S := ⟨pv_setP h.pv (hp.viewed hv), h.fp, h.sz⟩
theorem Iv.went (h : Iv S) {d : Did} (hp : PvA ⟨d.l, forgetP p.A d.gone⟩) (reg : Int) : Iv (({ S with reg := reg } : Fl).went id p d) := ⟨pv_setP h.pv hp, fp_filter _ h.fp, h.sz⟩
theorem layE_sh (hr : 0 ≤ S.reg) (hx : mayB o.addr (layE S.reg o) o.fixed = true) : (layE S.reg o).sh = true → 0 < (layE S.reg o).f := fun hs => by
  obtain ⟨-, -, hg⟩ := may_parts hx
  have h0 : 0 ≤ (layE S.reg o).f := hg.f0
  have h1 : o.sh = true := hs
  unfold layE at h0 ⊢
  simp only [h1, Bool.true_and] at h0 ⊢
  by_cases hz : o.file = 0
  · simp only [hz, decide_true, if_true]; omega
  · simp only [hz, decide_false, Bool.false_eq_true, if_false] at h0 ⊢; omega
theorem map_may {l : List En} {a : Int} {x : En} {fx : Bool} (he : (mapV l a x fx).err = 0) : mayB a x fx = true := by
  unfold mapV at he
  by_cases e : mayB a x fx = true
  · exact e
  · rw [if_neg e] at he; cases he
theorem Iv.lay (h : Iv S) (hr : 0 ≤ S.reg) (hm : MapL p.L) (hp : PvA p) : Iv (S.lay id p o).S := by
  unfold Fl.lay
  split
  · exact h
  · split
    · exact h
    · split
      · next he => exact h.went (hp.map hm he (layE_sh hr (map_may he))) _
      · exact h
theorem Iv.unmap (h : Iv S) (hm : MapL p.L) (hp : PvA p) : Iv (S.unmap p o).S := by
  unfold Fl.unmap
  split
  · next he => exact h.went (p := p) (hp.unmap hm he) S.reg
  · exact h
theorem Iv.store (h : Iv S) (hp : PvA p) : Iv (S.store p o).S := by
  unfold Fl.store
  split
  · split
    · exact h
    · next e he =>
      have hv := page_at he
      split
      · next hs => exact ⟨h.pv, fp_put h.fp (show 0 < e.f from hp.fp o.addr (normE e o.addr) hv hs), h.sz⟩
      · next hs => exact ⟨pv_setP h.pv (hp.slot hv (show e.sh = false by simpa using hs) _ _), h.fp, h.sz⟩
  · exact h
theorem Iv.advise (h : Iv S) (hm : MapL p.L) (hp : PvA p) : Iv (S.advise p o).S := by
  have hv := viewed_other hm (lo := o.addr) (n := o.n) (v := o.how) (on := false) (k := 4) (most := 4) (.inr (.inl ⟨rfl, by omega⟩))
  unfold Fl.advise
  split
  · exact ⟨pv_setP h.pv (hp.viewed hv), h.fp, h.sz⟩
  · exact h.turned hp hv
theorem Iv.exit (h : Iv S) : Iv (S.exit id p).S := ⟨fun q hq => h.pv q (drA_sub hq), fp_filter _ h.fp, h.sz⟩
theorem Iv.lend (h : Iv S) : Iv (S.lend p o).S := by
  unfold Fl.lend
  split
  · split <;> exact ⟨h.pv, h.fp, h.sz⟩
  · exact h
theorem hasF_pos {sz : List Int} {f : Int} (h : hasF sz f = true) : 0 < f ∧ f ≤ sz.length := by
  unfold hasF at h
  rw [Bool.and_eq_true, decide_eq_true_eq, decide_eq_true_eq] at h
  exact h
theorem Iv.put (h : Iv S) : Iv (S.put o).S := by
  unfold Fl.put
  split
  · next he =>
    refine ⟨h.pv, fp_put h.fp ?_, h.sz⟩
    unfold Fl.ofFile at he
    split at he
    · next hf => exact (hasF_pos hf).1
    · cases he
  · exact h
theorem Iv.size (h : Iv S) : Iv (S.size o).S := by
  unfold Fl.size
  split
  · split
    · exact ⟨h.pv, fp_filter _ h.fp, by show (S.sz.set _ _).length = 2; rw [List.length_set]; exact h.sz⟩
    · exact h
  · exact h
theorem sendK_pv {S5 : Fl} {t2 : Pr} {a : Int} {l : List (Option (List UInt8))} (hp : PvA t2) (hv : ∀ i : Nat, i < l.length → ∃ v, pageOf t2.L (a + i) = some v ∧ v.sh = false) : ∀ i, i ≤ l.length → PvA (sendK S5 t2 a l i).p ∧ (sendK S5 t2 a l i).p.L = t2.L
  | 0, _ => ⟨hp, rfl⟩
  | i + 1, hi => by
    obtain ⟨b, hb⟩ : ∃ b, l[i]? = some b := ⟨_, List.getElem?_eq_getElem (by omega)⟩
    obtain ⟨h1, h2⟩ := sendK_pv (S5 := S5) hp hv i (by omega)
    rw [sendK_next hb]
    unfold sendPg
    cases b with
    | none => exact ⟨h1, h2⟩
    | some b =>
      obtain ⟨v, h3, h4⟩ := hv i (by omega)
      refine ⟨h1.slot (v := v) (by rw [h2]; exact h3) h4 _ _, ?_⟩
      simp only
      rw [slotF_A.1, h2]
end
end Go.Proofs.YtefiiooibbkffaaGreat

namespace Go.Proofs.YtefiiooibbkffaaGreat
open Go.ChangeShapes Go.WideShapes Go.ChangeAt Go.RowKit Go.Deep Go.Sort
set_option linter.unusedVariables false
set_option linter.unusedSimpArgs false

theorem own_upd {p : Pr} {c : Nat → Option (List UInt8)} {nx : Nat} (h : ∀ a, a ∈ p.A → a.2 < nx) (b : Option (List UInt8)) (pg : Int) : ownF (upd c nx b) p pg = ownF c p pg := by
  unfold ownF
  cases hg : geA p.A pg with
  | none => rfl
  | some s =>
    have := h _ (geA_some hg)
    simp only
    exact upd_ne _ _ (by have h2 : s < nx := this; omega)
theorem slot_at (p : Pr) (c : Nat → Option (List UInt8)) (nx : Nat) (pg : Int) : geA (slotF p c nx pg).p.A pg = some (slotF p c nx pg).s := by
  unfold slotF
  cases hg : geA p.A pg with
  | some s => exact hg
  | none => simp only; rw [geA_put, if_pos rfl]
theorem slot_off (p : Pr) (c : Nat → Option (List UInt8)) (nx : Nat) {pg x : Int} (h : x ≠ pg) : geA (slotF p c nx pg).p.A x = geA p.A x := by
  unfold slotF
  cases hg : geA p.A pg with
  | some s => rfl
  | none => simp only; rw [geA_put, if_neg (fun e => h e.symm)]
theorem slot_own {p : Pr} {c : Nat → Option (List UInt8)} {nx : Nat} (h : ∀ a, a ∈ p.A → a.2 < nx) (pg x : Int) : ownF (slotF p c nx pg).c (slotF p c nx pg).p x = ownF c p x := by
  cases hg : geA p.A pg with
  | some s => unfold slotF; rw [hg]
  | none =>
    by_cases e : x = pg
    · subst e
      have h1 := slot_at p c nx x
      unfold ownF
      rw [h1, hg]
      unfold slotF
      rw [hg]
      simp only
      exact upd_same _ _ _
    · have h1 := slot_off p c nx e
      have h2 := own_upd (c := c) h none x
      unfold ownF at h2 ⊢
      rw [h1]
      unfold slotF
      rw [hg]
      exact h2
theorem slot_num {p : Pr} {c : Nat → Option (List UInt8)} {nx : Nat} {pg : Int} : (∀ a, a ∈ (slotF p c nx pg).p.A → a ∈ p.A ∨ a = (pg, nx)) ∧ (∀ s, s < nx → (slotF p c nx pg).c s = c s) ∧ nx ≤ (slotF p c nx pg).nx := by
  unfold slotF
  cases hg : geA p.A pg with
  | some s => exact ⟨fun a ha => .inl ha, fun s _ => rfl, Nat.le_refl _⟩
  | none =>
    refine ⟨fun a ha => ?_, fun s hs => ?_, by simp⟩
    · rcases mem_puA ha with rfl | ⟨h1, -⟩
      · exact .inr rfl
      · exact .inl h1
    · exact upd_ne _ _ (by omega)

/-- What a fork has under way. -/
structure FkK (k : Fk) (S : Fl) (p : Pr) : Prop where
  ow : ∀ pg, ownF k.c k.pa pg = ownF S.c p pg
  nx : ∀ a, a ∈ k.pa.A → a.2 < k.nx
  nc : ∀ a, a ∈ k.ch.A → a.2 < k.nx
def DN (k : Fk) (pg : Int) : Prop := geA k.ch.A pg = none
def DS (k : Fk) (pg : Int) : Prop := ∃ s, geA k.ch.A pg = some s ∧ geA k.pa.A pg = some s
def DC (S : Fl) (p : Pr) (k : Fk) (pg : Int) : Prop := (∀ b, ownF S.c p pg = some b → ∃ s, geA k.ch.A pg = some s ∧ k.c s = some b ∧ s < k.nx ∧ ∀ a, a ∈ k.pa.A → a.2 ≠ s) ∧ (ownF S.c p pg = none → geA k.ch.A pg = none)
def DX (S : Fl) (p : Pr) (i : Int) (k : Fk) (pg : Int) : Prop := if i = 1 then DS k pg else DC S p k pg
structure Kp17 (S : Fl) (p : Pr) (k k' : Fk) (pg : Int) : Prop where
  n : DN k pg → DN k' pg
  s : DS k pg → DS k' pg
  c : DC S p k pg → DC S p k' pg
section
variable {S : Fl} {p : Pr} {k k' k2 : Fk} {pg pg' : Int} {x : En}
theorem Kp17.refl : Kp17 S p k k pg := ⟨id, id, id⟩
theorem Kp17.trans (h : Kp17 S p k k' pg) (g : Kp17 S p k' k2 pg) : Kp17 S p k k2 pg := ⟨fun e => g.n (h.n e), fun e => g.s (h.s e), fun e => g.c (h.c e)⟩
theorem Kp17.dx (h : Kp17 S p k k' pg) {i : Int} (d : DX S p i k pg) : DX S p i k' pg := by
  unfold DX at d ⊢
  split
  · next e => rw [if_pos e] at d; exact h.s d
  · next e => rw [if_neg e] at d; exact h.c d
theorem step_K (h : FkK k S p) (x : En) (pg : Int) : FkK (takePg x k pg) S p := by
  refine ⟨fun y => ?_, pg_nx h.nx x pg, (pg_nc h.nx h.nc x pg).1⟩
  unfold takePg
  split
  · exact (slot_own h.nx pg y).trans (h.ow y)
  · split
    · exact (own_upd h.nx _ y).trans (h.ow y)
    · exact h.ow y
theorem step_pa (x : En) (k : Fk) (pg : Int) : ∀ a, a ∈ (takePg x k pg).pa.A → a ∈ k.pa.A ∨ a.1 = pg := by
  unfold takePg
  split
  · intro a ha
    rcases slot_num.1 a ha with h | h
    · exact .inl h
    · exact .inr (by rw [h])
  · split
    · exact fun a ha => .inl ha
    · exact fun a ha => .inl ha
theorem step_other (h : FkK k S p) (x : En) (hne : pg' ≠ pg) : Kp17 S p k (takePg x k pg) pg' := by
  have hne2 : ¬ pg = pg' := fun e => hne e.symm
  unfold takePg
  split
  · refine ⟨fun e => ?_, fun ⟨s, e1, e2⟩ => ⟨s, ?_, ?_⟩, fun ⟨e1, e2⟩ => ⟨fun b hb => ?_, fun hb => ?_⟩⟩
    · unfold DN; simp only; rw [geA_put, if_neg hne2]; exact e
    · simp only; rw [geA_put, if_neg hne2]; exact e1
    · simp only; rw [slot_off _ _ _ hne]; exact e2
    · obtain ⟨s, g1, g2, g3, g4⟩ := e1 b hb
      refine ⟨s, ?_, ?_, ?_, fun a ha => ?_⟩
      · simp only; rw [geA_put, if_neg hne2]; exact g1
      · simp only; rw [slot_num.2.1 s g3]; exact g2
      · have := (slot_num (p := k.pa) (c := k.c) (nx := k.nx) (pg := pg)).2.2
        simp only; omega
      · rcases slot_num.1 a ha with h1 | h1
        · exact g4 a h1
        · rw [h1]; simp only; omega
    · simp only; rw [geA_put, if_neg hne2]; exact e2 hb
  · split
    · refine ⟨fun e => ?_, fun ⟨s, e1, e2⟩ => ⟨s, ?_, e2⟩, fun ⟨e1, e2⟩ => ⟨fun b hb => ?_, fun hb => ?_⟩⟩
      · unfold DN; simp only; rw [geA_put, if_neg hne2]; exact e
      · simp only; rw [geA_put, if_neg hne2]; exact e1
      · obtain ⟨s, g1, g2, g3, g4⟩ := e1 b hb
        refine ⟨s, ?_, ?_, ?_, g4⟩
        · simp only; rw [geA_put, if_neg hne2]; exact g1
        · simp only; rw [upd_ne _ _ (by omega)]; exact g2
        · simp only; omega
      · simp only; rw [geA_put, if_neg hne2]; exact e2 hb
    · exact Kp17.refl
theorem step_at (h : FkK k S p) (x : En) (hn : DN k pg) : DX S p x.i (takePg x k pg) pg := by
  unfold DX
  split
  · next hi =>
    unfold takePg
    rw [if_pos hi]
    exact ⟨_, by simp only; rw [geA_put, if_pos rfl], slot_at _ _ _ _⟩
  · next hi =>
    unfold takePg
    rw [if_neg hi]
    have ho := h.ow pg
    cases e : ownF k.c k.pa pg with
    | none =>
      rw [e] at ho
      exact ⟨fun b hb => (by rw [← ho] at hb; cases hb), fun _ => hn⟩
    | some b =>
      rw [e] at ho
      refine ⟨fun b2 hb => ⟨k.nx, ?_, ?_, ?_, fun a ha => ?_⟩, fun hb => (by rw [← ho] at hb; cases hb)⟩
      · simp only; rw [geA_put, if_pos rfl]
      · simp only; rw [upd_same, ho, hb]
      · simp only; omega
      · have := h.nx a ha; omega
theorem pages17_fold (x : En) : ∀ (l : List Int) {k : Fk}, l.Nodup → FkK k S p → FkK (l.foldl (takePg x) k) S p ∧ (∀ pg, pg ∉ l → Kp17 S p k (l.foldl (takePg x) k) pg) ∧ (∀ pg, pg ∈ l → DN k pg → DX S p x.i (l.foldl (takePg x) k) pg) ∧ (∀ a, a ∈ (l.foldl (takePg x) k).pa.A → a ∈ k.pa.A ∨ a.1 ∈ l)
  | [], k, _, h => ⟨h, fun _ _ => Kp17.refl, fun _ hm => (by cases hm), fun a ha => .inl ha⟩
  | y :: l, k, hn, h => by
    obtain ⟨hy, hn⟩ := List.nodup_cons.1 hn
    obtain ⟨g1, g2, g3, g4⟩ := pages17_fold x l hn (step_K h x y)
    rw [List.foldl_cons]
    refine ⟨g1, fun pg hm => ?_, fun pg hm hd => ?_, fun a ha => ?_⟩
    · have h1 : pg ≠ y := fun e => hm (by simp [e])
      exact (step_other h x h1).trans (g2 pg fun e => hm (List.mem_cons_of_mem _ e))
    · rcases List.mem_cons.1 hm with rfl | hm
      · exact (g2 _ hy).dx (step_at h x hd)
      · have h1 : pg ≠ y := fun e => hy (by rw [← e]; exact hm)
        exact g3 pg hm ((step_other h x h1).n hd)
    · rcases g4 a ha with h1 | h1
      · rcases step_pa x k y a h1 with h2 | h2
        · exact .inl h2
        · exact .inr (by simp [h2])
      · exact .inr (List.mem_cons_of_mem _ h1)
theorem mem_pages {x : En} {pg : Int} : pg ∈ pagesE x ↔ x.s ≤ pg ∧ pg < x.e := by
  unfold pagesE
  rw [List.mem_map]
  constructor
  · rintro ⟨i, hi, rfl⟩
    have := List.mem_range.1 hi
    omega
  · rintro ⟨h1, h2⟩
    exact ⟨(pg - x.s).toNat, List.mem_range.2 (by omega), by omega⟩
theorem pages_nd (x : En) : (pagesE x).Nodup := by
  unfold pagesE
  exact List.pairwise_map.2 (List.nodup_range.imp fun {a b} h e => h (by omega))
theorem take_step (h : FkK k S p) (x : En) (he : (mapV k.ch.L x.s (takeE x) true).err = 0) : FkK (takeF k x) S p ∧ (∀ pg, ¬ (x.s ≤ pg ∧ pg < x.e) ∨ x.sh = true → Kp17 S p k (takeF k x) pg) ∧ (∀ pg, x.s ≤ pg → pg < x.e → x.sh = false → DN k pg → DX S p x.i (takeF k x) pg) ∧ (∀ a, a ∈ (takeF k x).pa.A → a ∈ k.pa.A ∨ (x.s ≤ a.1 ∧ a.1 < x.e ∧ x.sh = false)) := by
  have h0 : FkK ⟨⟨(mapV k.ch.L x.s (takeE x) true).l, k.ch.A⟩, k.pa, k.c, k.nx⟩ S p := ⟨h.ow, h.nx, h.nc⟩
  have k0 : ∀ pg, Kp17 S p k ⟨⟨(mapV k.ch.L x.s (takeE x) true).l, k.ch.A⟩, k.pa, k.c, k.nx⟩ pg := fun pg => ⟨id, id, id⟩
  unfold takeF
  split
  · next hc =>
    obtain ⟨g1, g2, g3, g4⟩ := pages17_fold x (pagesE x) (pages_nd x) h0
    refine ⟨g1, fun pg hp => ?_, fun pg h1 h2 _ hd => g3 pg (mem_pages.2 ⟨h1, h2⟩) hd, fun a ha => ?_⟩
    · rcases hp with hp | hp
      · exact (k0 pg).trans (g2 pg fun hm => hp (mem_pages.1 hm))
      · rw [hc.2] at hp; cases hp
    · rcases g4 a ha with h1 | h1
      · exact .inl h1
      · exact .inr ⟨(mem_pages.1 h1).1, (mem_pages.1 h1).2, hc.2⟩
  · next hc =>
    refine ⟨h0, fun pg _ => k0 pg, fun pg _ _ hs _ => (hc ⟨he, hs⟩).elim, fun a ha => .inl ha⟩
theorem takeE_parts (x : En) : (takeE x).s = x.s ∧ (takeE x).e = x.e ∧ (takeE x).f = x.f ∧ (takeE x).o = x.o ∧ (takeE x).p = x.p ∧ (takeE x).m = x.m ∧ (takeE x).i = x.i ∧ (takeE x).a = x.a ∧ ((takeE x).sh = true → x.sh = true) ∧ (x.i ≠ 0 → (takeE x).sh = x.sh) ∧ (x.sh = false → (takeE x).sh = false) := by
  unfold takeE
  split
  · next hi => exact ⟨rfl, rfl, rfl, rfl, rfl, rfl, rfl, rfl, fun h => (by cases h), fun h => (h hi).elim, fun _ => rfl⟩
  · exact ⟨rfl, rfl, rfl, rfl, rfl, rfl, rfl, rfl, id, fun _ => rfl, id⟩
theorem takeE_norm (x : En) (pg : Int) : normE (moveE (takeE x) x.s) pg = takeE (normE x pg) := by
  unfold takeE
  by_cases hi : x.i = 0
  · rw [if_pos hi, if_pos (show (normE x pg).i = 0 from hi)]
    rfl
  · rw [if_neg hi, if_neg (show ¬ (normE x pg).i = 0 from hi)]
    rfl
theorem take_err (l : List En) {x : En} (hx : GoodE x) (hs : x.e - x.s ≤ 4096) : (mapV l x.s (takeE x) true).err = 0 := by
  obtain ⟨e1, e2, e3, e4, e5, e6, e7, e8, -⟩ := takeE_parts x
  have h0 := hx.s0
  have h1 := hx.lt
  have h2 := hx.e1
  have hm : mayB x.s (takeE x) true = true := by
    unfold mayB
    rw [Bool.and_eq_true, Bool.and_eq_true]
    refine ⟨⟨sized_iff.2 ⟨by omega, by omega, by omega⟩, ?_⟩, ?_⟩
    · rw [Bool.or_eq_true]
      exact .inr (range_iff.2 ⟨h0, by omega, by omega, by omega⟩)
    · refine (goodB_iff _).2 ⟨Int.le_refl _, ?_, ?_, ?_, ?_, ?_, ?_, ?_, ?_, ?_, ?_, ?_⟩
      · show (0 : Int) < 0 + ((takeE x).e - (takeE x).s); omega
      · show 0 + ((takeE x).e - (takeE x).s) ≤ 67108864; omega
      · show 0 ≤ (takeE x).f; rw [e3]; exact hx.f0
      · show 0 ≤ (takeE x).o; rw [e4]; exact hx.o0
      · show fitsB (takeE x).p (takeE x).m = true; rw [e5, e6]; exact hx.pm
      · show 0 ≤ (takeE x).i; rw [e7]; exact hx.i0
      · show (takeE x).i ≤ 2; rw [e7]; exact hx.i1
      · show 0 ≤ (takeE x).a; rw [e8]; exact hx.a0
      · show (takeE x).a ≤ 4; rw [e8]; exact hx.a1
      · show (takeE x).f = 0 → (takeE x).o = 0; rw [e3, e4]; exact hx.oz
      · show 0 < (takeE x).f → (takeE x).o ≤ 4096 - (0 + ((takeE x).e - (takeE x).s) - 0)
        rw [e3, e4, e1, e2]
        intro hf
        have := hx.oe hf
        omega
  unfold mapV
  rw [if_pos hm, if_pos rfl]
theorem page_up {l : List En} {b pg : Int} (h : RF b l) (hp : pg < b) : pageOf l pg = none := page_none fun x hx hin => by
  have := (rf_good h x hx).2
  omega
theorem take_fold : ∀ (L : List En) {k : Fk} {b : Int}, RF b L → (∀ x, x ∈ L → x.e - x.s ≤ 4096) → MapL k.ch.L → FkK k S p → FkK (L.foldl takeF k) S p ∧ (∀ pg, pageOf L pg = none → pageOf (L.foldl takeF k).ch.L pg = pageOf k.ch.L pg ∧ Kp17 S p k (L.foldl takeF k) pg) ∧ (∀ pg v, pageOf L pg = some v → pageOf (L.foldl takeF k).ch.L pg = some (takeE v) ∧ (v.sh = false → DN k pg → DX S p v.i (L.foldl takeF k) pg) ∧ (v.sh = true → Kp17 S p k (L.foldl takeF k) pg)) ∧ (∀ a, a ∈ (L.foldl takeF k).pa.A → a ∈ k.pa.A ∨ ∃ v, pageOf L a.1 = some v ∧ v.sh = false)
  | [], k, b, _, _, _, h => ⟨h, fun _ _ => ⟨rfl, Kp17.refl⟩, fun _ _ hv => (by cases hv), fun a ha => .inl ha⟩
  | x :: r, k, b, hr, hs, hm, h => by
    obtain ⟨r1, r2, r3⟩ := hr
    have hlt := r2.lt
    have he := take_err k.ch.L r2 (hs x (by simp))
    obtain ⟨g1, g2, g3, g4⟩ := take_step h x he
    obtain ⟨a0, -, -, -, -, -, -, -, ha, -, hpg, -⟩ := page_map16 hm he
    have ha0 : a0 = x.s := ha rfl
    subst ha0
    obtain ⟨e1, e2, -⟩ := takeE_parts x
    rw [e1, e2] at hpg
    have hL : (takeF k x).ch.L = (mapV k.ch.L x.s (takeE x) true).l := (takeF_L k x).1
    have hm1 : MapL (takeF k x).ch.L := by rw [hL]; exact (map_did hm x.s (takeE x) true).1
    obtain ⟨i1, i2, i3, i4⟩ := take_fold r r3 (fun y hy => hs y (List.mem_cons_of_mem _ hy)) hm1 g1
    rw [List.foldl_cons]
    have hsp : ∀ pg, x.s ≤ pg → pg < x.e → pageOf (takeF k x).ch.L pg = some (takeE (normE x pg)) := fun pg p1 p2 => by
      rw [hL, hpg, if_pos ⟨p1, by omega⟩, takeE_norm]
    have hso : ∀ pg, ¬ (x.s ≤ pg ∧ pg < x.e) → pageOf (takeF k x).ch.L pg = pageOf k.ch.L pg := fun pg hn => by
      rw [hL, hpg, if_neg (by omega)]
    refine ⟨i1, fun pg hn => ?_, fun pg v hv => ?_, fun a ha => ?_⟩
    · unfold pageOf at hn
      by_cases p2 : pg < x.e
      · rw [if_pos p2] at hn
        by_cases p1 : x.s ≤ pg
        · rw [if_pos p1] at hn; cases hn
        · obtain ⟨q1, q2⟩ := i2 pg (page_up r3 p2)
          exact ⟨q1.trans (hso pg (by omega)), (g2 pg (.inl (by omega))).trans q2⟩
      · rw [if_neg p2] at hn
        obtain ⟨q1, q2⟩ := i2 pg hn
        exact ⟨q1.trans (hso pg (by omega)), (g2 pg (.inl (by omega))).trans q2⟩
    · unfold pageOf at hv
      by_cases p2 : pg < x.e
      · rw [if_pos p2] at hv
        by_cases p1 : x.s ≤ pg
        · rw [if_pos p1] at hv
          have hv2 : normE x pg = v := Option.some.inj hv
          subst hv2
          obtain ⟨q1, q2⟩ := i2 pg (page_up r3 p2)
          exact ⟨q1.trans (hsp pg p1 p2), fun s1 s2 => q2.dx (g3 pg p1 p2 s1 s2), fun s1 => (g2 pg (.inr s1)).trans q2⟩
        · rw [if_neg p1] at hv; cases hv
      · rw [if_neg p2] at hv
        obtain ⟨q1, q2, q3⟩ := i3 pg v hv
        have hk := g2 pg (.inl (by omega))
        exact ⟨q1, fun s1 s2 => q2 s1 (hk.n s2), fun s1 => hk.trans (q3 s1)⟩
    · rcases i4 a ha with h1 | ⟨v, h1, h2⟩
      · rcases g4 a h1 with h3 | ⟨h3, h4, h5⟩
        · exact .inl h3
        · refine .inr ⟨normE x a.1, ?_, h5⟩
          unfold pageOf
          rw [if_pos h4, if_pos h3]
      · refine .inr ⟨v, ?_, h2⟩
        unfold pageOf
        by_cases p2 : a.1 < x.e
        · rw [page_up r3 p2] at h1; cases h1
        · rw [if_neg p2]; exact h1
theorem mem_sumE : ∀ (l : List En), (∀ x, x ∈ l → x.s ≤ x.e) → ∀ x, x ∈ l → x.e - x.s ≤ sumE l
  | [], _, x, hx => by cases hx
  | y :: l, h, x, hx => by
    have h0 : 0 ≤ sumE l := by
      clear hx
      induction l with
      | nil => exact Int.le_refl _
      | cons z l ih =>
        rw [sumE_cons]
        have h1 := h z (by simp)
        have h2 := ih fun u hu => h u (by rcases List.mem_cons.1 hu with e | e <;> simp [e])
        omega
    rw [sumE_cons]
    rcases List.mem_cons.1 hx with rfl | hx
    · omega
    · have h1 := h y (by simp)
      have h2 := mem_sumE l (fun u hu => h u (List.mem_cons_of_mem _ hu)) x hx
      omega
/-- What a fork makes. -/
structure Forked (S : Fl) (p : Pr) (k : Fk) : Prop where
  pl : k.pa.L = p.L
  kk : FkK k S p
  pa : PvA k.pa
  ch : PvA k.ch
  no : ∀ pg, (∀ v, pageOf p.L pg = some v → v.i = 2) → pageOf k.ch.L pg = none
  yes : ∀ pg v, pageOf p.L pg = some v → v.i ≠ 2 → pageOf k.ch.L pg = some (takeE (unwire v)) ∧ (v.sh = false → DX S p v.i k pg) ∧ (v.sh = true → geA k.ch.A pg = none)
theorem fork_made {j : Nat} {n : Int} {id : Int} (h : SI S j n) (hn : n ≤ 490) (hp : geA S.ps id = some p) (hpv : PvA p) : Forked S p (forkF S p) := by
  have hm := geA_some hp
  have hLI : LI p.L n (1000 + j) := (h.ps.pr _ hm).1
  have hF := mapL_fork hLI.mp
  have hle := rf_le hF.rf
  have hss : sumE (forkV p.L) ≤ sumE p.L := sum_fork hLI.mp
  have hsm : sumE p.L ≤ n := hLI.sm
  have h0 : FkK ⟨⟨[], []⟩, p, S.c, S.nx⟩ S p := ⟨fun _ => rfl, h.ps.nx _ hm, fun a ha => by cases ha⟩
  obtain ⟨g1, g2, g3, g4⟩ := take_fold (forkV p.L) hF.rf (fun x hx => by have := mem_sumE _ hle x hx; omega) (k := ⟨⟨[], []⟩, p, S.c, S.nx⟩) mapL_nil h0
  have hpl : (forkF S p).pa.L = p.L := by
    unfold forkF
    have : ∀ (L : List En) (k : Fk), (L.foldl takeF k).pa.L = k.pa.L := by
      intro L
      induction L with
      | nil => intro k; rfl
      | cons x L ih => intro k; rw [List.foldl_cons, ih, (takeF_L k x).2]
    exact this _ _
  have hfk := page_fork hLI.mp
  have hdn : ∀ pg, DN ⟨⟨[], []⟩, p, S.c, S.nx⟩ pg := fun pg => geA_nil pg
  have hup : ∀ pg u, pageOf (forkV p.L) pg = some u → ∃ v, pageOf p.L pg = some v ∧ v.i ≠ 2 ∧ u = unwire v := fun pg u hu => by
    have h1 := hfk pg
    cases e : pageOf p.L pg with
    | none => rw [e] at h1; rw [h1] at hu; cases hu
    | some v =>
      rw [e] at h1
      simp only at h1
      by_cases hi : v.i ≠ 2
      · rw [if_pos hi] at h1
        rw [h1] at hu
        exact ⟨v, rfl, hi, (Option.some.inj hu).symm⟩
      · rw [if_neg hi] at h1; rw [h1] at hu; cases hu
  have hnu : ∀ pg, (∀ v, pageOf p.L pg = some v → v.i = 2) → pageOf (forkV p.L) pg = none := fun pg hv => by
    cases e : pageOf (forkV p.L) pg with
    | none => rfl
    | some u =>
      obtain ⟨v, h1, h2, -⟩ := hup pg u e
      exact (h2 (hv v h1)).elim
  refine ⟨hpl, g1, ⟨fun a ha => ?_, fun pg v hv => hpv.fp pg v (by rw [← hpl]; exact hv)⟩, ⟨fun a ha => ?_, fun pg v hv hs => ?_⟩, fun pg hv => (g2 pg (hnu pg hv)).1, fun pg v hv hi => ?_⟩
  · rw [hpl]
    rcases g4 a ha with h1 | ⟨u, h1, h2⟩
    · exact hpv.pv a h1
    · obtain ⟨v, h3, -, rfl⟩ := hup _ _ h1
      exact ⟨v, h3, h2⟩
  · have hne : geA (forkF S p).ch.A a.1 ≠ none := fun e => geA_none e a ha rfl
    cases e : pageOf (forkV p.L) a.1 with
    | none => exact (hne ((g2 a.1 e).2.n (hdn a.1))).elim
    | some u =>
      obtain ⟨q1, q2, q3⟩ := g3 a.1 u e
      cases hs : u.sh with
      | true => exact (hne ((q3 hs).n (hdn a.1))).elim
      | false => exact ⟨takeE u, q1, (takeE_parts u).2.2.2.2.2.2.2.2.2.2 hs⟩
  · cases e : pageOf (forkV p.L) pg with
    | none =>
      have h1 := (g2 pg e).1
      have h2 : pageOf (forkF S p).ch.L pg = some v := hv
      rw [show pageOf (forkF S p).ch.L pg = pageOf [] pg from h1] at h2
      cases h2
    | some u =>
      have h1 := (g3 pg u e).1
      have h2 : some (takeE u) = some v := h1.symm.trans hv
      have h3 : takeE u = v := Option.some.inj h2
      subst h3
      obtain ⟨u0, h4, -, rfl⟩ := hup _ _ e
      rw [(takeE_parts (unwire u0)).2.2.1]
      exact hpv.fp pg u0 h4 ((takeE_parts (unwire u0)).2.2.2.2.2.2.2.2.1 hs)
  · have h1 := hfk pg
    rw [hv] at h1
    simp only at h1
    rw [if_pos hi] at h1
    obtain ⟨q1, q2, q3⟩ := g3 pg _ h1
    exact ⟨q1, fun hs => q2 hs (hdn pg), fun hs => (q3 hs).n (hdn pg)⟩
end
section
variable {S : Fl} {j : Nat} {n : Int} {p tp : Pr} {o : FOp} {id : Int}
theorem Iv.fork (h : Iv S) (hs : SI S j n) (hn : n ≤ 490) (hp : geA S.ps id = some p) : Iv (S.fork id p).S := by
  unfold Fl.fork
  split
  · have hF := fork_made hs hn hp (h.pv _ (geA_some hp))
    refine ⟨fun q hq => ?_, h.fp, h.sz⟩
    rcases List.mem_cons.1 hq with rfl | hq
    · exact hF.ch
    · exact pv_setP h.pv hF.pa q hq
  · exact h
theorem Iv.send (h : Iv S) (hs : SI S j n) (hp : geA S.ps o.proc = some p) : Iv (S.send p o).S := by
  cases ht : geA S.ps o.to with
  | none => rw [send_no7 ht]; exact h
  | some tp =>
    by_cases hm : mayB3 o.addr o.n = true
    · by_cases hl : (S.loadAll p o.addr (o.addr + o.n)).2 = 0
      · by_cases he : (S.lay o.to tp (layO o.n)).e = 0
        · have hmt := geA_some ht
          have hLt : LI tp.L n (1000 + j) := (hs.ps.pr _ hmt).1
          have hpt := h.pv _ hmt
          have hr0 := hs.gs.r0
          have hiv := Iv.lay (id := o.to) (o := layO o.n) h (by omega) hLt.mp hpt
          obtain ⟨t2, ht2, -, -, -, -⟩ := (sendLay (o := o) hs ht).1 _ rfl he
          have hlay : ∃ d, d = mapV tp.L (-1) (layE S.reg (layO o.n)) false ∧ d.err = 0 ∧ t2 = ⟨d.l, forgetP tp.A d.gone⟩ ∧ (S.lay o.to tp (layO o.n)).n = d.n := by
            refine ⟨_, rfl, ?_, ?_, ?_⟩
            all_goals
              have hno2 : ¬ (decide ((layO o.n).file > 0) && !hasF S.sz (layO o.n).file) = true := by simp [layO]
              have hno3 : ¬ (decide ((layO o.n).file = 0) && decide ((layO o.n).off ≠ 0)) = true := by simp [layO]
              have h0 := he
              unfold Fl.lay at h0
              rw [if_neg hno2, if_neg hno3] at h0
              by_cases e : (mapV tp.L (layO o.n).addr (layE S.reg (layO o.n)) (layO o.n).fixed).err = 0
              · first
                | exact e
                | (unfold Fl.lay at ht2 ⊢
                   rw [if_neg hno2, if_neg hno3, if_pos e] at ht2 ⊢
                   first
                   | rfl
                   | (have h5 : geA (setP S.ps o.to _) o.to = some t2 := ht2
                      rw [geA_setP, if_pos rfl, ht] at h5
                      exact (Option.some.inj h5).symm))
                | (unfold Fl.lay at ht2
                   rw [if_neg hno2, if_neg hno3, if_pos e] at ht2
                   have h5 : geA (setP S.ps o.to _) o.to = some t2 := ht2
                   rw [geA_setP, if_pos rfl, ht] at h5
                   exact (Option.some.inj h5).symm)
              · rw [if_neg e] at h0; exact (e h0).elim
          obtain ⟨d, hd, hde, hdt, hdn⟩ := hlay
          subst hd
          obtain ⟨b, hb, -, -, -, -, -, -, -, -, hpg, -⟩ := page_map16 hLt.mp hde
          have hln : (S.loadAll p o.addr (o.addr + o.n)).1.length ≤ (layE S.reg (layO o.n)).e - (layE S.reg (layO o.n)).s := by
            have hLI : LI p.L n (1000 + j) := (hs.ps.pr _ (geA_some hp)).1
            have hgr := rf_gone o.addr (o.addr + o.n) hLI.mp.rf
            have hll := loadAll_len S p o.addr (o.addr + o.n)
            rw [pagesL_len] at hll
            have hlN := sumN_E _ (rf_le hgr)
            have hmm : 1 ≤ o.n := by unfold mayB3 at hm; rw [decide_eq_true_eq] at hm; exact hm.1
            have h1 := sum_gone (show o.addr ≤ o.addr + o.n by omega) p.L fun x hx => (rf_good hLI.mp.rf x hx).1.lt
            have h2 := (sum_whole hLI.mp.rf (show o.addr ≤ o.addr + o.n by omega)).1
            have h3 : (layE S.reg (layO o.n)).e - (layE S.reg (layO o.n)).s = o.n := by show o.n - 0 = o.n; omega
            rw [h3]
            omega
          rw [send_all ht hm hl he ht2]
          have hpv2 : PvA t2 := hiv.pv _ (geA_some ht2)
          refine ⟨pv_setP hiv.pv (sendK_pv hpv2 (fun i hi => ?_) _ (Nat.le_refl _)).1, hiv.fp, hiv.sz⟩
          rw [hdn, hb, hdt]
          simp only
          rw [hpg, if_pos ⟨by omega, by omega⟩]
          exact ⟨_, rfl, rfl⟩
        · rw [send_noE ht hm hl he]; exact h
      · rw [send_noL ht hm hl]; exact h
    · rw [send_no2 ht hm]; exact h
theorem Iv.act (h : Iv S) (hs : SI S j n) (hn : n ≤ 490) : Iv (S.act o).S := by
  by_cases hnm : namesB o.k = true
  · cases hp : geA S.ps o.proc with
    | none => rw [act_N hnm hp]; exact h
    | some p =>
      rw [act_P hnm hp]
      have hm := geA_some hp
      have hLI := (hs.ps.pr _ hm).1
      have hpv := h.pv _ hm
      have hr := hs.gs.r0
      unfold Fl.actP
      rcases names_cases hnm with hk | hk | hk | hk | hk | hk | hk | hk | hk | hk | hk | hk | hk <;> simp only [hk]
      · exact h.lay (by omega) hLI.mp hpv
      · exact h.unmap hLI.mp hpv
      · exact h.turned hpv (viewed_prot hLI.mp)
      · exact h.turned hpv (viewed_other hLI.mp (.inl ⟨rfl, by omega⟩))
      · exact h.advise hLI.mp hpv
      · exact h.turned hpv (viewed_other hLI.mp (.inr (.inr rfl)))
      · exact h.turned hpv (viewed_other hLI.mp (.inr (.inr rfl)))
      · exact h
      · exact h.store hpv
      · exact h.fork hs hn hp
      · exact h.exit
      · exact h.lend
      · exact h.send hs hp
  · unfold Fl.act
    rw [if_neg hnm]
    split
    · rw [peek_S]; exact h
    · split
      · unfold Fl.back
        split
        · exact h
        · exact ⟨h.pv, h.fp, h.sz⟩
      · split
        · exact h.put
        · split
          · exact h
          · split
            · exact h.size
            · split
              · rw [sync_n.2]; exact h
              · split <;> exact h
theorem Iv.run (h : Iv S) (hs : SI S j n) (hn0 : 0 ≤ n) {os : List FOp} (hn : n + pgsO os ≤ 490) : ∀ q, q ≤ os.length → Iv (runF S (os.take q))
  | 0, _ => by simpa [runF] using h
  | q + 1, hq => by
    obtain ⟨o, ho⟩ : ∃ o, os[q]? = some o := ⟨_, List.getElem?_eq_getElem (by omega)⟩
    have h1 := SI.run hs hn0 hn q (by omega)
    have h2 := pgsO_le os q
    have h3 := Iv.run h hs hn0 hn q (by omega)
    rw [runF_next ho]
    exact h3.act h1 (by omega)
end
end Go.Proofs.YtefiiooibbkffaaGreat

namespace Go.Proofs.YtefiiooibbkffaaGreat
open Go.ChangeShapes Go.WideShapes Go.ChangeAt Go.RowKit Go.Deep Go.Sort
set_option linter.unusedVariables false
set_option linter.unusedSimpArgs false

theorem byte_look {S : Fl} {id pg i : Int} {p : Pr} (hp : geA S.ps id = some p) : S.byte id pg i = if isAtB i = true then (atB (S.look p pg).1 i, (S.look p pg).2) else (0, 2) := by
  unfold Fl.byte
  rw [hp]
theorem isAtB_iff {i : Int} : isAtB i = true ↔ 0 ≤ i ∧ i < 4096 := by unfold isAtB; rw [decide_eq_true_eq]
theorem isByB_iff {i : Int} : isByB i = true ↔ 0 ≤ i ∧ i ≤ 255 := by unfold isByB; rw [decide_eq_true_eq]
theorem atB_with {b : Option (List UInt8)} (h : ∀ l, b = some l → l.length = 4096) {i v : Int} (hi : isAtB i = true) (hv : isByB v = true) : atB (some (withB b i v)) i = v := by
  rw [isAtB_iff] at hi
  rw [isByB_iff] at hv
  have hl : (b.getD zeroPg).length = 4096 := by
    cases b with
    | none => exact zeroPg_length
    | some l => exact h l rfl
  unfold atB withB
  simp only
  rw [List.getD_eq_getElem?_getD, List.getElem?_set_self (by rw [hl]; omega)]
  simp only [Option.getD_some]
  exact u8_of hv.1 hv.2
theorem atB_other {b : Option (List UInt8)} {i a v : Int} (hi : isAtB i = true) (ha : isAtB a = true) (hne : a ≠ i) : atB (some (withB b i v)) a = atB b a := by
  rw [isAtB_iff] at hi ha
  have h1 : i.toNat ≠ a.toNat := by omega
  unfold atB withB
  cases b with
  | none =>
    simp only [Option.getD_none]
    rw [List.getD_eq_getElem?_getD, List.getElem?_set_ne h1]
    unfold zeroPg
    rw [List.getElem?_replicate]
    split <;> rfl
  | some l =>
    simp only [Option.getD_some]
    rw [List.getD_eq_getElem?_getD, List.getElem?_set_ne h1, ← List.getD_eq_getElem?_getD]
/-- All pages are whole. -/
structure Lens (S : Fl) : Prop where
  f : ∀ n, n ∈ S.F → n.2.length = 4096
  c : ∀ q, q ∈ S.ps → ∀ a, a ∈ q.2.A → ∀ l, S.c a.2 = some l → l.length = 4096
theorem FW.lens {w : World} {kd : Nat → Ro} {t r : Nat} {h : Gh} {S : Fl} (k : FW w kd t r h S) : Lens S :=
  ⟨fun n hn => (k.hw.fs n hn).len _ rfl, fun q hq a ha l hl => by have := (k.bw.sl q hq a ha).sh; rw [hl] at this; exact this.len _ rfl⟩
theorem find_len {S : Fl} (hl : Lens S) {k : Int × Int} {l : List UInt8} (h : findF S.sz S.F k = some (some l)) : l.length = 4096 := by
  unfold findF at h
  split at h
  · cases h
  · exact hl.f _ (geA_some (Option.some.inj h))
theorem own_len {S : Fl} (hl : Lens S) {id : Int} {p : Pr} (hp : geA S.ps id = some p) {pg : Int} {l : List UInt8} (h : ownF S.c p pg = some l) : l.length = 4096 := by
  unfold ownF at h
  split at h
  · cases h
  · next s hs => exact hl.c _ (geA_some hp) _ (geA_some hs) l h
theorem look_len {S : Fl} (hl : Lens S) {id : Int} {p : Pr} (hp : geA S.ps id = some p) {pg : Int} : ∀ l, (S.look p pg).1 = some l → l.length = 4096 := fun l h => by
  unfold Fl.look at h
  split at h
  · next e he =>
    unfold Fl.means at h
    cases ho : ownF S.c p pg with
    | some b =>
      rw [ho] at h
      simp only at h
      have := own_len hl hp ho
      injection h with h; subst h; exact this
    | none =>
      rw [ho] at h
      simp only at h
      cases hf : findF S.sz S.F (spotF e pg) with
      | none => rw [hf] at h; cases h
      | some b =>
        rw [hf] at h
        simp only at h
        subst h
        exact find_len hl hf
  · cases h
/-- What a list says of a page in the end. -/
def hwF (l : List En) (pg : Int) (a : Int × Bool) : Int × Bool := l.foldl (fun a e => if e.s ≤ pg ∧ pg < e.e then (e.i, !e.sh) else a) a
section
variable {S S0 : Fl} {N pg a : Int} {p pa ch : Pr} {k : Fk}
end
end Go.Proofs.YtefiiooibbkffaaGreat

namespace Go.Proofs.YtefiiooibbkffaaGreat
open Go.ChangeShapes Go.WideShapes Go.ChangeAt Go.RowKit Go.Deep Go.Sort
set_option linter.unusedVariables false
set_option linter.unusedSimpArgs false

/-- Every number of A is below nx, and g says its page. -/
def OgA (g : Nat → Int) (nx : Nat) (A : List (Int × Nat)) : Prop := ∀ a, a ∈ A → a.2 < nx ∧ a.1 = g a.2
/-- g' says of the numbers below nx what g says. -/
def OgX (g : Nat → Int) (nx : Nat) (g' : Nat → Int) (nx' : Nat) : Prop := nx ≤ nx' ∧ ∀ s, s < nx → g' s = g s
theorem OgX.refl (g : Nat → Int) (nx : Nat) : OgX g nx g nx := ⟨Nat.le_refl _, fun _ _ => rfl⟩
theorem OgX.trans {g g1 g2 : Nat → Int} {nx n1 n2 : Nat} (h : OgX g nx g1 n1) (k : OgX g1 n1 g2 n2) : OgX g nx g2 n2 :=
  ⟨Nat.le_trans h.1 k.1, fun s hs => (k.2 s (Nat.lt_of_lt_of_le hs h.1)).trans (h.2 s hs)⟩
theorem OgX.one (g : Nat → Int) (nx : Nat) (pg : Int) : OgX g nx (upd g nx pg) (nx + 1) :=
  ⟨by omega, fun s hs => upd_ne _ _ (by omega)⟩
theorem OgA.mono {g g' : Nat → Int} {nx nx' : Nat} {A : List (Int × Nat)} (h : OgA g nx A) (x : OgX g nx g' nx') : OgA g' nx' A := fun a ha => by
  obtain ⟨h1, h2⟩ := h a ha
  exact ⟨Nat.lt_of_lt_of_le h1 x.1, h2.trans (x.2 _ h1).symm⟩
theorem OgA.sub {g : Nat → Int} {nx : Nat} {A B : List (Int × Nat)} (h : OgA g nx A) (k : ∀ a, a ∈ B → a ∈ A) : OgA g nx B := fun a ha => h a (k a ha)
theorem OgA.put {g : Nat → Int} {nx : Nat} {A : List (Int × Nat)} (h : OgA g nx A) {pg : Int} {s : Nat} (hs : s < nx) (hg : g s = pg) : OgA g nx (puA A pg s) := fun a ha => by
  rcases mem_puA ha with rfl | ⟨h1, -⟩
  · exact ⟨hs, hg.symm⟩
  · exact h a h1
theorem og_slot {g : Nat → Int} {nx : Nat} {p : Pr} (h : OgA g nx p.A) (c : Nat → Option (List UInt8)) (pg : Int) :
    ∃ g', OgX g nx g' (slotF p c nx pg).nx ∧ OgA g' (slotF p c nx pg).nx (slotF p c nx pg).p.A ∧ (slotF p c nx pg).s < (slotF p c nx pg).nx ∧ g' (slotF p c nx pg).s = pg := by
  unfold slotF
  cases e : geA p.A pg with
  | some s =>
    obtain ⟨h1, h2⟩ := h _ (geA_some e)
    exact ⟨g, OgX.refl _ _, h, h1, h2.symm⟩
  | none =>
    exact ⟨upd g nx pg, OgX.one _ _ _, (h.mono (OgX.one g nx pg)).put (by show nx < nx + 1; omega) (upd_same _ _ _), by show nx < nx + 1; omega, upd_same _ _ _⟩
/-- What all processes keep. -/
def Og (S : Fl) : Prop := ∃ g, ∀ q, q ∈ S.ps → OgA g S.nx q.2.A
theorem og_new : Og (newF [3, 2]) := ⟨fun _ => 0, fun q hq a ha => by
  simp only [newF, List.mem_singleton] at hq
  subst hq
  cases ha⟩
theorem og_setP {g : Nat → Int} {nx : Nat} {ps : List (Int × Pr)} {id : Int} {p : Pr} (h : ∀ q, q ∈ ps → OgA g nx q.2.A) (hp : OgA g nx p.A) : ∀ q, q ∈ setP ps id p → OgA g nx q.2.A := fun q hq => by
  rcases mem_setP hq with ⟨-, h1⟩ | rfl
  · exact h q h1
  · exact hp
/-- A fork's states. -/
def OgK (g : Nat → Int) (nx : Nat) (k : Fk) : Prop := ∃ g', OgX g nx g' k.nx ∧ OgA g' k.nx k.pa.A ∧ OgA g' k.nx k.ch.A
theorem og_pg {g : Nat → Int} {nx : Nat} {k : Fk} (h : OgK g nx k) (x : En) (pg : Int) : OgK g nx (takePg x k pg) := by
  obtain ⟨g1, x1, h1, h2⟩ := h
  unfold takePg
  split
  · obtain ⟨g2, x2, h3, h4, h5⟩ := og_slot h1 k.c pg
    exact ⟨g2, x1.trans x2, h3, (h2.mono x2).put h4 h5⟩
  · split
    · exact ⟨upd g1 k.nx pg, x1.trans (OgX.one _ _ _), h1.mono (OgX.one _ _ _), (h2.mono (OgX.one g1 k.nx pg)).put (by show k.nx < k.nx + 1; omega) (upd_same _ _ _)⟩
    · exact ⟨g1, x1, h1, h2⟩
theorem og_fold {g : Nat → Int} {nx : Nat} (x : En) : ∀ (l : List Int) {k : Fk}, OgK g nx k → OgK g nx (l.foldl (takePg x) k)
  | [], _, h => h
  | pg :: r, k, h => og_fold x r (og_pg h x pg)
theorem og_take {g : Nat → Int} {nx : Nat} {k : Fk} (h : OgK g nx k) (x : En) : OgK g nx (takeF k x) := by
  have h' : OgK g nx ⟨⟨(mapV k.ch.L x.s (takeE x) true).l, k.ch.A⟩, k.pa, k.c, k.nx⟩ := h
  unfold takeF
  split
  · exact og_fold x _ h'
  · exact h'
theorem og_forkF {g : Nat → Int} {nx : Nat} : ∀ (L : List En) {k : Fk}, OgK g nx k → OgK g nx (L.foldl takeF k)
  | [], _, h => h
  | x :: r, k, h => og_forkF r (og_take h x)
theorem og_sendK {g : Nat → Int} {nx : Nat} {S5 : Fl} {t2 : Pr} {a : Int} {l : List (Option (List UInt8))} (hx : nx = S5.nx) (hp : OgA g nx t2.A) : ∀ i, i ≤ l.length → ∃ g', OgX g nx g' (sendK S5 t2 a l i).nx ∧ OgA g' (sendK S5 t2 a l i).nx (sendK S5 t2 a l i).p.A
  | 0, _ => by subst hx; exact ⟨g, OgX.refl _ _, hp⟩
  | i + 1, hi => by
    obtain ⟨b, hb⟩ : ∃ b, l[i]? = some b := ⟨_, List.getElem?_eq_getElem (by omega)⟩
    obtain ⟨g1, x1, h1⟩ := og_sendK (S5 := S5) (a := a) (l := l) hx hp i (by omega)
    rw [sendK_next hb]
    unfold sendPg
    cases b with
    | none => exact ⟨g1, x1, h1⟩
    | some b =>
      obtain ⟨g2, x2, h2, -, -⟩ := og_slot h1 (sendK S5 t2 a l i).c (a + i)
      exact ⟨g2, x1.trans x2, h2⟩
section
variable {S : Fl} {j : Nat} {n : Int} {p tp : Pr} {o : FOp} {id : Int}
theorem og_at (hp : geA S.ps id = some p) {g : Nat → Int} (h : ∀ q, q ∈ S.ps → OgA g S.nx q.2.A) : OgA g S.nx p.A := h _ (geA_some hp)
theorem Og.turned (h : Og S) (hp : geA S.ps id = some p) {d : Did} : Og (S.turned id p d).S := by
  obtain ⟨g, h⟩ := h
  exact ⟨g, og_setP h (og_at hp h)⟩
theorem Og.went (h : Og S) (hp : geA S.ps id = some p) {d : Did} (reg : Int) : Og (({ S with reg := reg } : Fl).went id p d) := by
  obtain ⟨g, h⟩ := h
  exact ⟨g, og_setP h ((og_at hp h).sub fun a ha => (List.mem_filter.1 ha).1)⟩
theorem Og.lay (h : Og S) (hp : geA S.ps id = some p) : Og (S.lay id p o).S := by
  unfold Fl.lay
  split
  · exact h
  · split
    · exact h
    · split
      · exact h.went hp _
      · exact h
theorem Og.unmap (h : Og S) (hp : geA S.ps o.proc = some p) : Og (S.unmap p o).S := by
  unfold Fl.unmap
  split
  · exact h.went (p := p) hp S.reg
  · exact h
theorem Og.store (h : Og S) (hp : geA S.ps o.proc = some p) : Og (S.store p o).S := by
  unfold Fl.store
  split
  · split
    · exact h
    · split
      · exact h
      · obtain ⟨g, h⟩ := h
        obtain ⟨g1, x1, h1, -, -⟩ := og_slot (og_at hp h) S.c o.addr
        exact ⟨g1, og_setP (fun q hq => (h q hq).mono x1) h1⟩
  · exact h
theorem Og.advise (h : Og S) (hp : geA S.ps o.proc = some p) : Og (S.advise p o).S := by
  unfold Fl.advise
  split
  · obtain ⟨g, h⟩ := h
    exact ⟨g, og_setP h (og_at hp h)⟩
  · exact h.turned hp
theorem Og.exit (h : Og S) : Og (S.exit id p).S := by
  obtain ⟨g, h⟩ := h
  exact ⟨g, fun q hq => h q (drA_sub hq)⟩
theorem Og.lend (h : Og S) : Og (S.lend p o).S := by
  unfold Fl.lend
  split
  · split <;> exact h
  · exact h
theorem Og.put (h : Og S) : Og (S.put o).S := by
  unfold Fl.put
  split <;> exact h
theorem Og.size (h : Og S) : Og (S.size o).S := by
  unfold Fl.size
  split
  · split <;> exact h
  · exact h
theorem Og.fork (h : Og S) (hp : geA S.ps id = some p) : Og (S.fork id p).S := by
  unfold Fl.fork
  split
  · obtain ⟨g, h⟩ := h
    obtain ⟨g1, x1, h1, h2⟩ : OgK g S.nx (forkF S p) := og_forkF _ ⟨g, OgX.refl _ _, og_at hp h, fun a ha => (by cases ha)⟩
    refine ⟨g1, fun q hq => ?_⟩
    rcases List.mem_cons.1 hq with rfl | hq
    · exact h2
    · exact og_setP (fun q hq => (h q hq).mono x1) h1 q hq
  · exact h
theorem Og.send (h : Og S) : Og (S.send p o).S := by
  cases ht : geA S.ps o.to with
  | none => rw [send_no7 ht]; exact h
  | some tp =>
    by_cases hm : mayB3 o.addr o.n = true
    · by_cases hl : (S.loadAll p o.addr (o.addr + o.n)).2 = 0
      · by_cases he : (S.lay o.to tp (layO o.n)).e = 0
        · have hlay : Og (S.lay o.to tp (layO o.n)).S := h.lay ht
          cases ht2 : geA (S.lay o.to tp (layO o.n)).S.ps o.to with
          | none =>
            unfold Fl.send
            rw [ht]
            simp only
            rw [if_pos hm, if_pos hl, if_pos he, ht2]
            exact h
          | some t2 =>
            rw [send_all ht hm hl he ht2]
            obtain ⟨g, hg⟩ := hlay
            obtain ⟨g1, x1, h1⟩ := og_sendK (S5 := (S.lay o.to tp (layO o.n)).S) (a := (S.lay o.to tp (layO o.n)).n) (l := (S.loadAll p o.addr (o.addr + o.n)).1) rfl (og_at ht2 hg) _ (Nat.le_refl _)
            exact ⟨g1, og_setP (fun q hq => (hg q hq).mono x1) h1⟩
        · rw [send_noE ht hm hl he]; exact h
      · rw [send_noL ht hm hl]; exact h
    · rw [send_no2 ht hm]; exact h
theorem Og.act (h : Og S) : Og (S.act o).S := by
  by_cases hnm : namesB o.k = true
  · cases hp : geA S.ps o.proc with
    | none => rw [act_N hnm hp]; exact h
    | some p =>
      rw [act_P hnm hp]
      unfold Fl.actP
      rcases names_cases hnm with hk | hk | hk | hk | hk | hk | hk | hk | hk | hk | hk | hk | hk <;> simp only [hk]
      · exact h.lay hp
      · exact h.unmap hp
      · exact h.turned hp
      · exact h.turned hp
      · exact h.advise hp
      · exact h.turned hp
      · exact h.turned hp
      · exact h
      · exact h.store hp
      · exact h.fork hp
      · exact h.exit
      · exact h.lend
      · exact h.send
  · unfold Fl.act
    rw [if_neg hnm]
    split
    · rw [peek_S]; exact h
    · split
      · unfold Fl.back
        split
        · exact h
        · exact h
      · split
        · exact h.put
        · split
          · exact h
          · split
            · exact h.size
            · split
              · rw [sync_n.2]; exact h
              · split <;> exact h
theorem Og.run (h : Og S) {os : List FOp} : ∀ q, q ≤ os.length → Og (runF S (os.take q))
  | 0, _ => by simpa [runF] using h
  | q + 1, hq => by
    obtain ⟨o, ho⟩ : ∃ o, os[q]? = some o := ⟨_, List.getElem?_eq_getElem (by omega)⟩
    rw [runF_next ho]
    exact (Og.run h q (by omega)).act
/-- In one process two pages have two numbers. -/
theorem Og.apart (h : Og S) (hp : geA S.ps id = some p) {x y : Int} {s : Nat} (hx : geA p.A x = some s) (hy : geA p.A y = some s) : x = y := by
  obtain ⟨g, h⟩ := h
  have h1 := (og_at hp h _ (geA_some hx)).2
  have h2 := (og_at hp h _ (geA_some hy)).2
  exact h1.trans h2.symm
end
end Go.Proofs.YtefiiooibbkffaaGreat

namespace Go.Proofs.YtefiiooibbkffaaGreat
open Go.ChangeShapes Go.WideShapes Go.ChangeAt Go.RowKit Go.Deep Go.Sort
set_option linter.unusedVariables false
set_option linter.unusedSimpArgs false

structure Stored (S : Fl) (o : FOp) (p : Pr) (e : En) (S2 : Fl) : Prop where
  gp : geA S.ps o.proc = some p
  at_ : atV p.L o.addr = some e
  ma : isAtB o.ati = true
  mv : isByB o.v = true
  ok : (S.look p o.addr).2 = 0
  st : (e.sh = true ∧ S2 = { S with F := puA S.F (spotF e o.addr) (withB (S.look p o.addr).1 o.ati o.v) }) ∨ (e.sh = false ∧ S2 = { S with ps := setP S.ps o.proc (slotF p S.c S.nx o.addr).p, c := upd (slotF p S.c S.nx o.addr).c (slotF p S.c S.nx o.addr).s (some (withB (S.look p o.addr).1 o.ati o.v)), nx := (slotF p S.c S.nx o.addr).nx })
section
variable {S S2 : Fl} {o : FOp} {p : Pr} {e : En}
theorem store_did (hk : o.k = 9) (he : (S.act o).e = 0) : ∃ p e, Stored S o p e (S.act o).S := by
  have hnm : namesB o.k = true := by rw [hk]; decide
  cases hp : geA S.ps o.proc with
  | none => rw [act_N hnm hp] at he; cases he
  | some p =>
    have e1 : S.act o = S.store p o := by rw [act_P hnm hp]; unfold Fl.actP; simp only [hk]; rfl
    rw [e1] at he ⊢
    unfold Fl.store at he ⊢
    by_cases hr : (S.reach p o.addr 2 (isAtB o.ati && isByB o.v)).2 = 0
    · rw [if_pos hr] at he ⊢
      have hmay := reach_may (.inr hr)
      rw [Bool.and_eq_true] at hmay
      have hry := reach_yes hr
      rw [hry] at hr ⊢
      cases ha : atV p.L o.addr with
      | none =>
        unfold Fl.look at hr
        rw [ha] at hr
        cases hr
      | some x =>
        refine ⟨p, x, hp, ha, hmay.1, hmay.2, hr, ?_⟩
        simp only
        by_cases hs : x.sh = true
        · rw [if_pos hs]; exact .inl ⟨hs, rfl⟩
        · rw [if_neg hs]; exact .inr ⟨by simpa using hs, rfl⟩
    · rw [if_neg hr] at he
      exact (hr he).elim
theorem Stored.look (h : Stored S o p e S2) (hi : Iv S) : ∃ p2, geA S2.ps o.proc = some p2 ∧ p2.L = p.L ∧ S2.look p2 o.addr = (some (withB (S.look p o.addr).1 o.ati o.v), 0) := by
  rcases h.st with ⟨hs, rfl⟩ | ⟨hs, rfl⟩
  · refine ⟨p, h.gp, rfl, ?_⟩
    have ho : ownF S.c p o.addr = none := (hi.pv _ (geA_some h.gp)).own (fun v hv => by
      rw [page_at h.at_] at hv
      rw [← Option.some.inj hv]
      exact hs) _
    have hok := h.ok
    unfold Fl.look at hok
    rw [h.at_] at hok
    simp only at hok
    unfold Fl.means at hok
    rw [ho] at hok
    simp only at hok
    show (match atV p.L o.addr with | some e' => (match Fl.means { S with F := puA S.F (spotF e o.addr) (withB (S.look p o.addr).1 o.ati o.v) } p e' o.addr with | some b => (b, (0 : Int)) | none => (none, 4)) | none => (none, 4)) = _
    rw [h.at_]
    simp only
    unfold Fl.means
    rw [show ownF ({ S with F := puA S.F (spotF e o.addr) (withB (S.look p o.addr).1 o.ati o.v) } : Fl).c p o.addr = none from ho]
    simp only
    have hfn : findF S.sz (puA S.F (spotF e o.addr) (withB (S.look p o.addr).1 o.ati o.v)) (spotF e o.addr) = some (some (withB (S.look p o.addr).1 o.ati o.v)) := by
      unfold findF at hok ⊢
      split
      · next hc => rw [if_pos hc] at hok; cases hok
      · rw [geA_put, if_pos rfl]
    rw [hfn]
  · have gp := h.gp
    have ha := h.at_
    clear h
    generalize withB (S.look p o.addr).1 o.ati o.v = B
    refine ⟨(slotF p S.c S.nx o.addr).p, by show geA (setP S.ps o.proc _) o.proc = _; rw [geA_setP, if_pos rfl, gp]; rfl, slotF_A.1, ?_⟩
    unfold Fl.look
    rw [slotF_A.1, ha]
    simp only
    unfold Fl.means
    have ho : ownF (upd (slotF p S.c S.nx o.addr).c (slotF p S.c S.nx o.addr).s (some B)) (slotF p S.c S.nx o.addr).p o.addr = some B := by
      unfold ownF
      rw [slot_at]
      exact upd_same _ _ _
    simp only
    rw [ho]
theorem Stored.byte (h : Stored S o p e S2) (hi : Iv S) (hl : Lens S) : S2.byte o.proc o.addr o.ati = (o.v, 0) := by
  obtain ⟨p2, h1, -, h2⟩ := h.look hi
  rw [byte_look h1, if_pos h.ma, h2]
  simp only
  rw [atB_with (look_len hl h.gp) h.ma h.mv]
theorem Stored.page (h : Stored S o p e S2) (hi : Iv S) {a : Int} (ha : a ≠ o.ati) : S2.byte o.proc o.addr a = S.byte o.proc o.addr a := by
  obtain ⟨p2, h1, -, h2⟩ := h.look hi
  rw [byte_look h1, byte_look h.gp, h2, h.ok]
  split
  · next hm =>
    simp only
    rw [atB_other h.ma hm ha]
  · rfl
theorem Stored.far (h : Stored S o p e S2) (hg : Og S) (hs : e.sh = false) {pg i : Int} (hp : pg ≠ o.addr) : S2.byte o.proc pg i = S.byte o.proc pg i := by
  rcases h.st with ⟨hs2, -⟩ | ⟨-, rfl⟩
  · rw [hs] at hs2; cases hs2
  · have gp := h.gp
    clear h
    generalize withB (S.look p o.addr).1 o.ati o.v = B
    have h1 : geA (setP S.ps o.proc (slotF p S.c S.nx o.addr).p) o.proc = some (slotF p S.c S.nx o.addr).p := by rw [geA_setP, if_pos rfl, gp]; rfl
    have ho : ownF (upd (slotF p S.c S.nx o.addr).c (slotF p S.c S.nx o.addr).s (some B)) (slotF p S.c S.nx o.addr).p pg = ownF S.c p pg := by
      unfold ownF
      rw [slot_off p S.c S.nx hp]
      cases hn : geA p.A pg with
      | none => rfl
      | some s =>
        simp only
        have hlt : s < S.nx := by
          obtain ⟨g, hg⟩ := hg
          exact (og_at gp hg _ (geA_some hn)).1
        have hne : s ≠ (slotF p S.c S.nx o.addr).s := fun e => by
          unfold slotF at e
          cases ha : geA p.A o.addr with
          | some t =>
            rw [ha] at e
            simp only at e
            subst e
            exact hp (hg.apart gp hn ha)
          | none =>
            rw [ha] at e
            simp only at e
            omega
        rw [upd_ne _ _ hne, slot_num.2.1 s hlt]
    rw [byte_look (S := { S with ps := setP S.ps o.proc (slotF p S.c S.nx o.addr).p, c := upd (slotF p S.c S.nx o.addr).c (slotF p S.c S.nx o.addr).s (some B), nx := (slotF p S.c S.nx o.addr).nx }) h1, byte_look gp]
    have hlk : ({ S with ps := setP S.ps o.proc (slotF p S.c S.nx o.addr).p, c := upd (slotF p S.c S.nx o.addr).c (slotF p S.c S.nx o.addr).s (some B), nx := (slotF p S.c S.nx o.addr).nx } : Fl).look (slotF p S.c S.nx o.addr).p pg = S.look p pg := by
      unfold Fl.look
      rw [slotF_A.1]
      cases atV p.L pg with
      | none => rfl
      | some x =>
        simp only
        unfold Fl.means
        simp only
        rw [ho]
    rw [hlk]
/-- What the law's own look over entries says of a page. -/
def shF (l : List En) (pg : Int) : Bool := match l.find? (fun x => decide (x.s ≤ pg ∧ pg < x.e)) with | some x => x.sh | none => false
theorem sh_page : ∀ {l : List En} {b : Int} (pg : Int), RF b l → shF l pg = match pageOf l pg with | some v => v.sh | none => false
  | [], _, pg, _ => rfl
  | x :: r, b, pg, h => by
    obtain ⟨h1, h2, h3⟩ := h
    have ih := sh_page pg h3
    rw [show pageOf (x :: r) pg = (if pg < x.e then if x.s ≤ pg then some (normE x pg) else none else pageOf r pg) from rfl]
    unfold shF at ih ⊢
    rw [List.find?_cons]
    by_cases p2 : pg < x.e
    · rw [if_pos p2]
      by_cases p1 : x.s ≤ pg
      · rw [if_pos p1, decide_eq_true (show x.s ≤ pg ∧ pg < x.e from ⟨p1, p2⟩)]
        rfl
      · rw [if_neg p1, decide_eq_false (fun e => p1 e.1)]
        simp only
        rw [ih, page_up h3 p2]
    · rw [if_neg p2, decide_eq_false (fun e => p2 e.2)]
      exact ih
theorem sh_at {l : List En} {b pg : Int} {e : En} (hr : RF b l) (h : atV l pg = some e) : shF l pg = e.sh := by
  rw [sh_page pg hr, page_at h]
  rfl
theorem sh_yes {l : List En} {pg : Int} {q : Nat} {x : En} (hn : ∀ y, y ∈ l.take q → ¬ (y.s ≤ pg ∧ pg < y.e)) (hx : l[q]? = some x) (h : x.s ≤ pg ∧ pg < x.e) : shF l pg = x.sh := by
  have hlt : q < l.length := (List.getElem?_eq_some_iff.1 hx).1
  have h1 : l = l.take q ++ x :: l.drop (q + 1) := by
    rw [← (List.getElem?_eq_some_iff.1 hx).2, ← List.drop_eq_getElem_cons hlt, List.take_append_drop]
  unfold shF
  rw [h1, List.find?_append, List.find?_eq_none.2 (fun y hy => by have := hn y hy; simpa using this), List.find?_cons, decide_eq_true h]
  rfl
theorem sh_no {l : List En} {pg : Int} (hn : ∀ y, y ∈ l → ¬ (y.s ≤ pg ∧ pg < y.e)) : shF l pg = false := by
  unfold shF
  rw [List.find?_eq_none.2 (fun y hy => by have := hn y hy; simpa using this)]
theorem no_next {l : List En} {pg : Int} {q : Nat} {x : En} (hn : ∀ y, y ∈ l.take q → ¬ (y.s ≤ pg ∧ pg < y.e)) (hx : l[q]? = some x) (h : ¬ (x.s ≤ pg ∧ pg < x.e)) : ∀ y, y ∈ l.take (q + 1) → ¬ (y.s ≤ pg ∧ pg < y.e) := fun y hy => by
  rw [takel_at hx] at hy
  rcases List.mem_append.1 hy with hy | hy
  · exact hn y hy
  · rw [List.mem_singleton.1 hy]; exact h
end
end Go.Proofs.YtefiiooibbkffaaGreat

namespace Go.Proofs.YtefiiooibbkffaaGreat
open Go.ChangeShapes Go.WideShapes Go.ChangeAt Go.RowKit Go.Deep Go.Sort
set_option linter.unusedVariables false
set_option linter.unusedSimpArgs false

theorem Sx.lens {w0 wr : World} {t r : Nat} {S : Fl} {Ws : List (Nat × Nat × Fl)} {Bs : List (Nat × Obj)} (s : Sx w0 wr Ws Bs) (h : (t, r, S) ∈ Ws) : Lens S := by
  obtain ⟨kd, a, -, -⟩ := s
  obtain ⟨g, f⟩ := a _ h
  exact f.lens
set_option maxRecDepth 100000 in
set_option maxHeartbeats 8000000 in
theorem shared_ok {w : World} {s : Option Addr} {c : Nat} {L : List En} (hr : ERow w (.slice s L.length c) L) (hl : L.length ≤ 700) (pg : Int) :
    Calls Tryz.prog 22 #[.slice s L.length c, .int .i64 pg] w fun e w' => e = .returned (.bool (shF L pg)) ∧ w.grownBy w' none := by
  have HR := Lib.hid hr
  have hl0 : 0 ≤ (L.length : Int) := by omega
  clear hr
  go_enter Tryz.func22, Tryz.ntmps22
  go_wp2_with fail
  go_loopw [9] (fun iv wr => ∃ q : Nat, q ≤ L.length ∧ iv = .int .i64 q ∧ Hid (∀ y, y ∈ L.take q → ¬ (y.s ≤ pg ∧ pg < y.e)) ∧ Hid (w.grownBy wr none)) (fun iv _ => L.length - (intOf iv).toNat)
  case atStart => exact ⟨0, by omega, rfl, Lib.hid (fun y hy => by cases hy), Lib.hid (grown_refl _ _)⟩
  case round =>
    obtain ⟨q, hq, rfl, HNq, HGq⟩ := hrel
    by_cases hlt : q < L.length
    · obtain ⟨x, hx⟩ : ∃ x, L[q]? = some x := ⟨_, List.getElem?_eq_getElem hlt⟩
      obtain ⟨g, o, c2, hv, ka⟩ := en_cells (erow_grow HR.out HGq.out) hx
      obtain ⟨ka0, ka1, ka2, ka3, ka4, ka5, ka6, ka7, ka8, ka9⟩ := ka
      injection hv with e1 e2 e3
      subst e1 e3
      have gx := World.grownBy_alloc wr (.cells #[.int .i64 x.s, .int .i64 x.e, .int .i64 x.f, .int .i64 x.o, .bool x.sh, .int .i64 x.p, .int .i64 x.m, .int .i64 x.i, .int .i64 x.a, .bool x.wi] 50) none
      have HGx := Lib.hid (grown_trans HGq.out gx)
      obtain ⟨y0, y1, -, -, y4, -, -, -, -, -⟩ := (EnB.new wr x).all
      have HXl := Lib.hid hx
      clear hx gx
      by_cases p1 : x.s ≤ pg
      · have b1 : decide (x.s ≤ pg) = true := decide_eq_true p1
        by_cases p2 : pg < x.e
        · have b2 : decide (pg < x.e) = true := decide_eq_true p2
          have HN2 := Lib.hid (sh_yes HNq.out HXl.out ⟨p1, p2⟩)
          clear p1 p2
          go_wp2_with fail
          go_ret
          exact ⟨by rw [HN2.out]; rfl, HGx.out⟩
        · have b2 : decide (pg < x.e) = false := decide_eq_false p2
          have HN2 := Lib.hid (no_next HNq.out HXl.out (fun e => p2 e.2))
          clear p1 p2
          go_wp2_with fail
          go_roundw
          case rel => exact ⟨q + 1, by omega, by go_num, HN2, HGx⟩
          case measure => simp [intOf]; omega
      · have b1 : decide (x.s ≤ pg) = false := decide_eq_false p1
        have HN2 := Lib.hid (no_next HNq.out HXl.out (fun e => p1 e.1))
        clear p1
        go_wp2_with fail
        go_roundw
        case rel => exact ⟨q + 1, by omega, by go_num, HN2, HGx⟩
        case measure => simp [intOf]; omega
    · obtain rfl : q = L.length := by omega
      have HN2 := Lib.hid (sh_no (l := L) (pg := pg) (by rw [← List.take_length (l := L)]; exact HNq.out))
      go_wp2_with fail
      go_ret
      exact ⟨by rw [HN2.out]; rfl, HGq.out⟩
end Go.Proofs.YtefiiooibbkffaaGreat

namespace Go.Proofs.YtefiiooibbkffaaGreat
open Go.ChangeShapes Go.WideShapes Go.ChangeAt Go.RowKit Go.Deep Go.Sort
set_option linter.unusedVariables false
set_option linter.unusedSimpArgs false

/-- A box is written. -/
theorem Sx.set {w0 wr : World} {Ws : List (Nat × Nat × Fl)} {Bs : List (Nat × Obj)} {y i : Nat} {ob ob' : Obj} {v : Value} (s : Sx w0 wr Ws ((y, ob) :: Bs)) (hy : w0.heap.size ≤ y) (hn : ∀ b, b ∈ Bs → b.1 ≠ y) (hb : (wr.setCell ⟨y, i, none⟩ v).heap[y]? = some ob') : Sx w0 (wr.setCell ⟨y, i, none⟩ v) Ws ((y, ob') :: Bs) := by
  obtain ⟨kd, a, b, c⟩ := s
  have hk := (b _ (List.mem_cons_self ..)).2
  have g := grown_set wr y i v
  have d : Ch (fun ρ => ρ = .no) kd kd wr (wr.setCell ⟨y, i, none⟩ v) := Ch.one g hk
  refine ⟨kd, fun x hx => (a x hx).imp fun h f => f.ch d (fun e => by cases e) (fun _ e => by cases e), fun x hx => ?_, ?_⟩
  · rcases List.mem_cons.1 hx with rfl | hx
    · exact ⟨hb, hk⟩
    · obtain ⟨b1, b2⟩ := b x (List.mem_cons_of_mem _ hx)
      exact ⟨(g.block _ (heap_lt b1) (fun e => hn x hx (Option.some.inj e))).trans b1, b2⟩
  · exact ⟨d.os.trans c.os, d.tape.trans c.tape, d.output.trans c.output, Nat.le_trans c.size d.size, fun x hx hr => (g.block x (Nat.lt_of_lt_of_le hx c.size) (fun e => by have := Option.some.inj e; omega)).trans (c.block x hx hr), c.kd⟩
end Go.Proofs.YtefiiooibbkffaaGreat

namespace Go.Proofs.YtefiiooibbkffaaGreat
open Go.ChangeShapes Go.WideShapes Go.ChangeAt Go.RowKit Go.Deep Go.Sort
set_option linter.unusedVariables false
set_option linter.unusedSimpArgs false

def oS (o : FOp) : FOp := ⟨9, o.proc, o.addr, o.n, o.prot, o.sh, o.file, o.off, o.fixed, o.how, o.ati, o.v, o.hd, o.to⟩
theorem Sx.procsL {w0 wr : World} {t r : Nat} {S : Fl} {Ws : List (Nat × Nat × Fl)} {Bs : List (Nat × Obj)} (s : Sx w0 wr Ws Bs) (h : (t, r, S) ∈ Ws) (hok : SOk S) {N : Nat} (hN : S.ps.length = N) : Calls Tryz.prog 20 #[.pointer (some ⟨r, 0, none⟩)] wr fun e w' => ∃ q c, e = .returned (.slice q N c) ∧ wr.grownBy w' none := by
  refine (s.procs_ok h hok).mono ?_
  rintro e w' ⟨u, rfl, q2, q3⟩
  obtain ⟨q, c, rfl⟩ := rowOf_form q2
  rw [sortI_length, List.length_map, hN]
  exact ⟨q, c, rfl, q3⟩
@[reducible] def OB (o : FOp) : Obj := .cells #[.int .i64 (oS o).k, .int .i64 (oS o).proc, .int .i64 (oS o).addr, .int .i64 (oS o).n, .int .i64 (oS o).prot, .bool (oS o).sh, .int .i64 (oS o).file, .int .i64 (oS o).off, .bool (oS o).fixed, .int .i64 (oS o).how, .int .i64 (oS o).ati, .int .i64 (oS o).v, .int .i64 (oS o).hd, .int .i64 (oS o).to] 34 (0, 0)
theorem ans_errS (w : World) (e n : Int) : (Instr.field 36 (.agg #[.int .i64 e, .int .i64 n]) 0).run Tryz.prog w = .ok (.int .i64 e) w := by kernel_rfl
theorem box_four {w0 w : World} {X : Nat} {o : FOp} {Ws : List (Nat × Nat × Fl)} (s : Sx w0 w Ws [(X, OB o)]) : w.cell? ⟨X, 1, none⟩ = some (.int .i64 o.proc) ∧ w.cell? ⟨X, 2, none⟩ = some (.int .i64 o.addr) ∧ w.cell? ⟨X, 10, none⟩ = some (.int .i64 o.ati) ∧ w.cell? ⟨X, 11, none⟩ = some (.int .i64 o.v) := by
  have h8 : OpB w X (oS o) := s.at (by simp)
  obtain ⟨-, c1, c2, -, -, -, -, -, -, -, c10, c11, -, -⟩ := h8.at
  exact ⟨c1, c2, c10, c11⟩
theorem box_two {w0 w : World} {X : Nat} {o : FOp} {Ws : List (Nat × Nat × Fl)} (s : Sx w0 w Ws [(X, OB o)]) : w.cell? ⟨X, 1, none⟩ = some (.int .i64 o.proc) ∧ w.cell? ⟨X, 2, none⟩ = some (.int .i64 o.addr) := ⟨(box_four s).1, (box_four s).2.1⟩
set_option maxRecDepth 100000 in
set_option maxHeartbeats 64000000 in
theorem stores_walk {W : World} {s0 : Option Addr} {l0 c0 : Nat} {A0 : List FOp} (act0 : OpsAre W s0 l0 A0) (o : FOp) (ho : OkO o) (at_ : Int) :
    Calls Tryz.prog 5 #[.slice s0 l0 c0, .agg #[.int .i64 o.k, .int .i64 o.proc, .int .i64 o.addr, .int .i64 o.n, .int .i64 o.prot, .bool o.sh, .int .i64 o.file, .int .i64 o.off, .bool o.fixed, .int .i64 o.how, .int .i64 o.ati, .int .i64 o.v, .int .i64 o.hd, .int .i64 o.to], .int .i64 at_] W fun e w' => e = .returned (.bool true) ∧ W.grownBy w' none := by
  have HLv := Lib.hid (fun wx => lives_ok wx)
  have gB := World.grownBy_alloc W (.cells #[.int .i64 o.k, .int .i64 o.proc, .int .i64 o.addr, .int .i64 o.n, .int .i64 o.prot, .bool o.sh, .int .i64 o.file, .int .i64 o.off, .bool o.fixed, .int .i64 o.how, .int .i64 o.ati, .int .i64 o.v, .int .i64 o.hd, .int .i64 o.to] 34) none
  have HB0 := Lib.hid (OpB.new W o)
  have HL0 := Lib.hid (light_ok (c := c0) (act0.grow gB) 30 (by omega) (by omega))
  have HGB := Lib.hid gB
  have HA0 := Lib.hid act0
  have HOk := Lib.hid ho
  have hll := act0.len
  clear act0 gB ho
  go_enter Tryz.func5, Tryz.ntmps5
  go_wp2_with fail
  refine HL0.out.mono ?_
  rintro e w1 ⟨b0, rfl, g1, hb0⟩
  have HG1 := Lib.hid (grown_trans HGB.out g1)
  have HB1 := Lib.hid (HB0.out.grow g1)
  have hX0 : W.heap.size ≤ W.heap.size := Nat.le_refl _
  obtain ⟨X, hX⟩ : ∃ X, W.heap.size = X := ⟨_, rfl⟩
  rw [hX] at HB1
  have HX := Lib.hid hX
  simp only [hX]
  clear g1 HL0 HB0 HGB hX0 hX
  cases b0 with
  | false =>
    clear hb0
    go_wp2_with fail
    refine (HLv.out _).mono ?_
    rintro e1 wl ⟨rfl, gl⟩
    have HGl := Lib.hid (grown_trans HG1.out gl)
    clear gl
    go_wp2_with fail
    go_ret
    exact ⟨rfl, HGl.out⟩
  | true =>
    obtain ⟨h01, h02, h03⟩ := hb0 rfl
    have H02 := Lib.hid h02
    have HSi := Lib.hid (fun q (hq : q ≤ A0.length) => show SI (runF (newF [3, 2]) (A0.take q)) 30 200 by
      have h1 := si_new.run (Int.le_refl _) (os := A0) (by omega) q hq
      have h2 := pgsO_le A0 q
      exact h1.mono (by omega) (by omega))
    have HIv := Lib.hid (show Iv (runF (newF [3, 2]) A0) by
      have h1 := iv_new.run si_new (Int.le_refl _) (os := A0) (by omega) A0.length (Nat.le_refl _)
      rw [List.take_length] at h1
      exact h1)
    have HOg := Lib.hid (show Og (runF (newF [3, 2]) A0) by
      have h1 := og_new.run (os := A0) A0.length (Nat.le_refl _)
      rw [List.take_length] at h1
      exact h1)
    have hz : ZR (w1.alloc (.cells #[.int .i64 3, .int .i64 2] 3)) (.slice (some ⟨w1.heap.size, 0, none⟩) [3, 2].length 2) [3, 2] := .inl ⟨rfl, .inr ⟨w1.heap.size, 0, 2, rfl, by rw [World.size_alloc]; omega, fun j u hu => by
      rw [cell_of_row _ _ _ _ _ _ (heap_alloc_new w1 _), Nat.zero_add]
      match j, hu with
      | 0, hu => exact hu
      | 1, hu => exact hu⟩⟩
    have HN := Lib.hid (new_yes (w1.alloc (.cells #[.int .i64 3, .int .i64 2] 3)) (fun _ => .no) 0 hz (by kernel_rfl))
    clear hz hb0 h02 h03
    go_wp2_with fail
    refine HN.out.mono ?_
    rintro e w3 ⟨r, kd3, h3, rfl, k3, c3⟩
    have HS3 := Lib.hid (show Sx W w3 [(0, r, runF (newF [3, 2]) (A0.take 0))] [(X, .cells #[.int .i64 o.k, .int .i64 o.proc, .int .i64 o.addr, .int .i64 o.n, .int .i64 o.prot, .bool o.sh, .int .i64 o.file, .int .i64 o.off, .bool o.fixed, .int .i64 o.how, .int .i64 o.ati, .int .i64 o.v, .int .i64 o.hd, .int .i64 o.to] 34 (0, 0))] from ⟨kd3, fun x hx => by
      have : x = (0, r, newF [3, 2]) := by simpa [runF] using hx
      subst this
      exact ⟨h3, k3⟩, fun b hb => by
        have : b = (X, .cells #[.int .i64 o.k, .int .i64 o.proc, .int .i64 o.addr, .int .i64 o.n, .int .i64 o.prot, .bool o.sh, .int .i64 o.file, .int .i64 o.off, .bool o.fixed, .int .i64 o.how, .int .i64 o.ati, .int .i64 o.v, .int .i64 o.hd, .int .i64 o.to] 34 (0, 0)) := by simpa using hb
        subst this
        have hb1 : w1.heap[X]? = some (.cells #[.int .i64 o.k, .int .i64 o.proc, .int .i64 o.addr, .int .i64 o.n, .int .i64 o.prot, .bool o.sh, .int .i64 o.file, .int .i64 o.off, .bool o.fixed, .int .i64 o.how, .int .i64 o.ati, .int .i64 o.v, .int .i64 o.hd, .int .i64 o.to] 34 (0, 0)) := HB1.out
        have hlt := heap_lt hb1
        have ga := World.grownBy_alloc w1 (.cells #[.int .i64 3, .int .i64 2] 3) none
        have hlt2 : X < (w1.alloc (.cells #[.int .i64 3, .int .i64 2] 3)).heap.size := Nat.lt_of_lt_of_le hlt ga.size
        exact ⟨((c3.block X hlt2 (no_ro _)).trans (ga.block X hlt (by simp))).trans hb1, c3.kd X hlt2⟩, (Ch.grown (grown_trans HG1.out (World.grownBy_alloc w1 _ none))).trans (c3.mono fun _ e => (no_ro _ e).elim)⟩)
    clear k3 c3 HN HB1
    go_wp2_with fail
    go_loopw [38] (fun iv wr => ∃ q : Nat, q ≤ l0 ∧ iv = .int .i64 q ∧ Hid (Sx W wr [(0, r, runF (newF [3, 2]) (A0.take q))] [(X, .cells #[.int .i64 o.k, .int .i64 o.proc, .int .i64 o.addr, .int .i64 o.n, .int .i64 o.prot, .bool o.sh, .int .i64 o.file, .int .i64 o.off, .bool o.fixed, .int .i64 o.how, .int .i64 o.ati, .int .i64 o.v, .int .i64 o.hd, .int .i64 o.to] 34 (0, 0))])) (fun iv _ => l0 - (intOf iv).toNat)
    case atStart => exact ⟨0, by omega, rfl, HS3⟩
    case round =>
      obtain ⟨q, hq, rfl, HSq⟩ := hrel
      clear HS3
      by_cases hlt : q < l0
      · obtain ⟨x, hx⟩ : ∃ x, A0[q]? = some x := ⟨_, List.getElem?_eq_getElem (by omega)⟩
        obtain ⟨g, p0, hs, ha⟩ := HA0.out.at HSq.out.grown hx
        subst hs
        obtain ⟨c0, c1, c2, c3, c4, c5, c6, c7, c8, c9, c10, c11, c12, c13⟩ := ha
        have hmem := List.mem_of_getElem? hx
        have HOo := Lib.hid (HA0.out.ok x hmem)
        have HOl := Lib.hid (H02.out x hmem)
        have HNx := Lib.hid (runF_next (S := newF [3, 2]) hx)
        have HSI := Lib.hid (HSi.out q (by omega))
        obtain ⟨S, hS⟩ : ∃ S, runF (newF [3, 2]) (A0.take q) = S := ⟨_, rfl⟩
        rw [hS] at HNx HSI HSq
        have HSA := Lib.hid (HSq.out.box (.cells #[.int .i64 x.k, .int .i64 x.proc, .int .i64 x.addr, .int .i64 x.n, .int .i64 x.prot, .bool x.sh, .int .i64 x.file, .int .i64 x.off, .bool x.fixed, .int .i64 x.how, .int .i64 x.ati, .int .i64 x.v, .int .i64 x.hd, .int .i64 x.to] 34))
        have hB : OpB (wr.alloc (.cells #[.int .i64 x.k, .int .i64 x.proc, .int .i64 x.addr, .int .i64 x.n, .int .i64 x.prot, .bool x.sh, .int .i64 x.file, .int .i64 x.off, .bool x.fixed, .int .i64 x.how, .int .i64 x.ati, .int .i64 x.v, .int .i64 x.hd, .int .i64 x.to] 34)) wr.heap.size x := HSA.out.at (by simp)
        obtain ⟨d0, d1, d2, d3, d4, d5, d6, d7, d8, d9, d10, d11, d12, d13⟩ := hB.at
        have HD1 := Lib.hid (HSA.out.do_ok (by intro y hy; simp at hy) HSI.out (by omega) (by omega) (by omega) x HOo.out HOl.out)
        clear hx hmem hS HSq hB HSA
        go_wp2_with fail
        refine HD1.out.mono ?_
        rintro e w5 ⟨rfl, hs5⟩
        have HSn := Lib.hid (show Sx W w5 [(0, r, runF (newF [3, 2]) (A0.take (q + 1)))] [(X, .cells #[.int .i64 o.k, .int .i64 o.proc, .int .i64 o.addr, .int .i64 o.n, .int .i64 o.prot, .bool o.sh, .int .i64 o.file, .int .i64 o.off, .bool o.fixed, .int .i64 o.how, .int .i64 o.ati, .int .i64 o.v, .int .i64 o.hd, .int .i64 o.to] 34 (0, 0))] by rw [HNx.out]; exact hs5.sub (fun _ h => h) (fun b hb => List.mem_cons_of_mem _ hb))
        clear hs5 HD1 HNx d0 d1 d2 d3 d4 d5 d6 d7 d8 d9 d10 d11 d12 d13 c0 c1 c2 c3 c4 c5 c6 c7 c8 c9 c10 c11 c12 c13
        go_wp2_with fail
        first
          | exact ⟨⟨q + 1, by omega, by go_num, HSn⟩, by simp [intOf]; omega⟩
          | (go_roundw; (case rel => exact ⟨q + 1, by omega, by go_num, HSn⟩); (case measure => simp [intOf]; omega))
      · obtain rfl : q = l0 := by omega
        have HS1 := Lib.hid (show SI (runF (newF [3, 2]) A0) 30 200 by
          have := HSi.out A0.length (Nat.le_refl _)
          rw [List.take_length] at this
          exact this)
        have hta : A0.take q = A0 := by rw [← hll, List.take_length]
        rw [hta] at HSq
        obtain ⟨S, hS⟩ : ∃ S, runF (newF [3, 2]) A0 = S := ⟨_, rfl⟩
        rw [hS] at HIv HOg HS1 HSq
        have HC := Lib.hid (HSq.out.copy_ok (t2 := 1) (by decide) (HS1.out.ok (by omega) (by omega)) (si_size HS1.out (by omega)))
        clear hS hta hlt HSi HSq
        go_wp2_with fail
        refine HC.out.mono ?_
        rintro e w4 ⟨r1, rfl, hs4⟩
        have hB4 : OpB w4 X o := hs4.at (by simp)
        have hB5 : OpB (w4.setCell ⟨X, 0, none⟩ (.int .i64 9)) X (oS o) := heap_setCell_same w4 X 0 _ _ (.int .i64 9) hB4
        have HSS := Lib.hid (show Sx W (w4.setCell ⟨X, 0, none⟩ (.int .i64 9)) [(0, r, S), (1, r1, S)] [(X, OB o)] from (Sx.set hs4 (by rw [← HX.out]; exact Nat.le_refl _) (fun b hb => by cases hb) hB5).sub (by intro y hy; simp at hy ⊢; rcases hy with h | h <;> simp [h]) (fun _ h => h))
        have e0 := (hB4.at).1
        have f0 : w4.frozen? ⟨X, 0, none⟩ = false := frozen_of_row _ _ _ _ _ hB4
        obtain ⟨d0, d1, d2, d3, d4, d5, d6, d7, d8, d9, d10, d11, d12, d13⟩ := hB5.at
        have HD1 := Lib.hid (HSS.out.do_ok (by intro y hy; simp at hy; subst hy; simp) HS1.out (by omega) (by omega) (by omega) (oS o) ⟨(show okI 9 from ⟨by decide, by decide⟩), HOk.out.proc, HOk.out.addr, HOk.out.n, HOk.out.prot, HOk.out.file, HOk.out.off, HOk.out.how, HOk.out.ati, HOk.out.v, HOk.out.hd, HOk.out.tt⟩ (fun h => by rcases h with h | h <;> cases h))
        have HSt := Lib.hid (fun he => store_did (S := S) (o := oS o) rfl he)
        have HS2 := Lib.hid (show SI (S.act (oS o)).S 31 200 by
          have := HS1.out.act (o := oS o) (by omega) (by omega)
          rw [show pgO (oS o) = 0 by unfold pgO oS; simp, Int.add_zero] at this
          exact this)
        obtain ⟨S2, hS2⟩ : ∃ S2, (S.act (oS o)).S = S2 := ⟨_, rfl⟩
        obtain ⟨er, her⟩ : ∃ er, (S.act (oS o)).e = er := ⟨_, rfl⟩
        obtain ⟨nr, hnr⟩ : ∃ nr, S.doN (oS o) = nr := ⟨_, rfl⟩
        rw [hS2] at HD1 HSt HS2
        rw [her] at HD1 HSt
        rw [hnr] at HD1
        simp only [oS] at d0 d1 d2 d3 d4 d5 d6 d7 d8 d9 d10 d11 d12 d13
        have HD2 := Lib.hid HD1.out
        simp only [oS] at HD2
        clear hS2 her hnr hs4 hB4 hB5 HC HSS HD1
        go_wp2_with fail
        refine HD2.out.mono ?_
        rintro e w5 ⟨rfl, hs5⟩
        have HS5 := Lib.hid (show Sx W w5 [(0, r, S2), (1, r1, S)] [(X, OB o)] from hs5)
        have hfd := ans_errS w5 er nr
        clear hs5 HD2 d0 d1 d2 d3 d4 d5 d6 d7 d8 d9 d10 d11 d12 d13 e0 f0
        have HBd := Lib.hid (fun (wx : World) (s : Sx W wx [(0, r, S2), (1, r1, S)] [(X, OB o)]) => box_two s)
        by_cases he : er = 0
        · subst he
          obtain ⟨p, en, hst⟩ := HSt.out rfl
          have HSd0 := Lib.hid hst
          have HE := Lib.hid (hst.byte HIv.out (HS5.out.lens (t := 1) (r := r1) (by simp)))
          have HPg := Lib.hid (fun (h : at_ ≠ o.ati) => hst.page HIv.out h)
          obtain ⟨z, f, hzf⟩ : ∃ z f, S.byte o.proc o.addr at_ = (z, f) := ⟨_, _, rfl⟩
          obtain ⟨z2, f2, hzf2⟩ : ∃ z2 f2, S2.byte o.proc o.addr at_ = (z2, f2) := ⟨_, _, rfl⟩
          have HPq := Lib.hid (fun (h : at_ ≠ o.ati) => show z = z2 ∧ f = f2 by
            have h1 : S2.byte o.proc o.addr at_ = S.byte o.proc o.addr at_ := HPg.out h
            rw [hzf, hzf2] at h1
            exact ⟨(congrArg Prod.fst h1).symm, (congrArg Prod.snd h1).symm⟩)
          have HO1 := Lib.hid (HS1.out.ok (by omega) (by omega))
          have HO2 := Lib.hid (HS2.out.ok (by omega) (by omega))
          have HOp := Lib.hid HOk.out.proc
          have HBy1 := Lib.hid (HS5.out.byte_ok (t := 0) (r := r) (S := S2) (by simp) HO2.out o.proc o.addr o.ati HOp.out HE.out)
          have HBy2 := Lib.hid (fun (wx : World) (s : Sx W wx [(0, r, S2), (1, r1, S)] [(X, OB o)]) => s.byte_ok (t := 1) (r := r1) (S := S) (by simp) HO1.out o.proc o.addr at_ HOp.out hzf)
          have HBy3 := Lib.hid (fun (wx : World) (s : Sx W wx [(0, r, S2), (1, r1, S)] [(X, OB o)]) => s.byte_ok (t := 0) (r := r) (S := S2) (by simp) HO2.out o.proc o.addr at_ HOp.out hzf2)
          obtain ⟨a1, a2, a3, a4⟩ := box_four HS5.out
          clear hst hzf hzf2 HSt HE HPg
          go_wp2_with fail
          clear hfd
          refine HBy1.out.mono ?_
          rintro e w6 ⟨rfl, g6⟩
          have HS6 := Lib.hid (HS5.out.grow g6)
          clear g6 HS5 HBy1 a1 a2 a3 a4
          obtain ⟨a1, a2, a3, a4⟩ := box_four HS6.out
          have HBy2' := Lib.hid (HBy2.out _ HS6.out)
          clear HBy2
          go_wp2_with fail
          refine HBy2'.out.mono ?_
          rintro e w7 ⟨rfl, g7⟩
          have HS7 := Lib.hid (HS6.out.grow g7)
          clear g7 HS6 HBy2' a1 a2 a3 a4
          obtain ⟨a1, a2, a3, a4⟩ := box_four HS7.out
          have HBy3' := Lib.hid (HBy3.out _ HS7.out)
          clear HBy3
          go_wp2_with fail
          refine HBy3'.out.mono ?_
          rintro e w8 ⟨rfl, g8⟩
          have HS8 := Lib.hid (HS7.out.grow g8)
          clear g8 HS7 HBy3' a1 a2 a3 a4
          obtain ⟨a1, a2, a3, a4⟩ := box_four HS8.out
          have bv : (o.v != o.v) = false := by simp
          have hcase : ((at_ != o.ati) = false) ∨ ((at_ != o.ati) = true ∧ z = z2 ∧ f = f2) := by
            by_cases h : at_ = o.ati
            · exact .inl (by simpa using h)
            · exact .inr ⟨by simpa using h, HPq.out h⟩
          obtain ⟨p2, hp2, hL2, -⟩ := HSd0.out.look HIv.out
          obtain ⟨L, hL⟩ : ∃ L, p.L = L := ⟨_, rfl⟩
          have hLI := (HS2.out.ps.pr _ (geA_some hp2)).1
          have hl7 : L.length ≤ 700 := by
            have h2 := len_sum _ hLI.mp.rf
            have h3 := hLI.sm
            rw [hL2, hL] at h2 h3
            omega
          have hl0 : 0 ≤ (L.length : Int) := by omega
          have HGd := Lib.hid (show ∀ x, x ∈ L → GoodE x from fun x hx => (rf_good hLI.mp.rf x (by rw [hL2, hL]; exact hx)).1)
          have HSh := Lib.hid (show shF L o.addr = en.sh from sh_at (b := 0) (by have := hLI.mp.rf; rw [hL2, hL] at this; exact this) (by have h1 : atV p.L o.addr = some en := HSd0.out.at_; rw [hL] at h1; exact h1))
          have HEn := Lib.hid (fun (wx : World) (s : Sx W wx [(0, r, S2), (1, r1, S)] [(X, OB o)]) => show Calls Tryz.prog 23 #[.pointer (some ⟨r, 0, none⟩), .int .i64 o.proc] wx fun e w' => ∃ u, e = .returned u ∧ EOwn w' wx.heap.size u L ∧ wx.grownBy w' none by
            have := s.entries_ok (t := 0) (r := r) (by simp) HO2.out HOp.out hp2
            rw [hL2, hL] at this
            exact this)
          have HFar := Lib.hid (fun (hs : en.sh = false) (n : Int) (h : n ≠ o.addr) => show S2.byte o.proc n o.ati = S.byte o.proc n o.ati from HSd0.out.far HOg.out hs h)
          obtain ⟨sv, hsv⟩ : ∃ sv, shF L o.addr = sv := ⟨_, rfl⟩
          have HSv := Lib.hid hsv
          have HSe := Lib.hid (show en.sh = sv by rw [← HSh.out]; exact hsv)
          clear hsv HSh
          obtain ⟨N, hN⟩ : ∃ N, S2.ps.length = N := ⟨_, rfl⟩
          have hN17 : N ≤ 17 := by rw [← hN]; exact Nat.le_succ_of_le HS2.out.ps.pl
          have HPr := Lib.hid (fun (wx : World) (s : Sx W wx [(0, r, S2), (1, r1, S)] [(X, OB o)]) => s.procsL (t := 0) (r := r) (by simp) HO2.out hN)
          clear hN hLI hL2 hL hp2 HPq
          have HSd := Lib.hid (HS8.out.grow (grown_drew1 w8))
          rcases hcase with bA | ⟨bA, rfl, rfl⟩
          all_goals (
            by_cases hN1 : (N : Int) > 1
            · have bN : decide ((N : Int) > 1) = true := decide_eq_true hN1
              clear hN1
              go_upto_region 20 with fail
              refine wp_region_held_drew (S := fun w7 => w7.cell? ⟨X, 1, none⟩ = some (.int .i64 o.proc) ∧ w7.cell? ⟨X, 2, none⟩ = some (.int .i64 o.addr)) (by kernel_rfl) (HBd.out _ HSd.out) (fun hHeld => ?_)
              refine wpAnyH_take (i := 0) (oi := _) (v := ?_) rfl (by kernel_rfl) (by kernel_rfl) (by kernel_rfl) (fun _ _ _ h => h) (Or.inl ⟨by rfl, ?_⟩) (by assumption) ?_
              rotate_left
              · intro w hSw
                try dsimp only at hSw
                try simp only [List.getElem_toArray, List.getElem_cons_succ, List.getElem_cons_zero]
                go_simp
                try with_reducible rfl
              try simp only [List.getElem_toArray, List.getElem_cons_succ, List.getElem_cons_zero, Act.put, List.setIfInBounds_toArray, List.set_cons_zero, List.set_cons_succ]
              refine wpAnyH_ready (rs := [1]) (by kernel_rfl) (by simp) ?_
              refine AllReadyH.cons (o := _) rfl (fun K hK => ?_) AllReadyH.nil
              try simp only [List.getElem_toArray, List.getElem_cons_succ, List.getElem_cons_zero]
              go_simp
              go_at_call 20
              refine (HPr.out _ HSd.out).mono ?_
              rintro e wa ⟨qa, ca, rfl, ga⟩
              have HSa := Lib.hid (HSd.out.grow ga)
              clear ga
              try (go_wp2_with fail)
              refine hK.out _ _ (HBd.out _ HSa.out) (fun hHeld => ?_)
              clear hK K
              try simp only [Act.put, List.setIfInBounds_toArray, List.set_cons_zero, List.set_cons_succ]
              refine wpAnyH_take (i := 2) (oi := _) (v := ?_) rfl (by kernel_rfl) (by kernel_rfl) (by kernel_rfl) (fun _ _ _ h => h) (Or.inl ⟨by rfl, ?_⟩) (by assumption) ?_
              rotate_left
              · intro w hSw
                try dsimp only at hSw
                try simp only [List.getElem_toArray, List.getElem_cons_succ, List.getElem_cons_zero]
                go_simp
                try with_reducible rfl
              try simp only [List.getElem_toArray, List.getElem_cons_succ, List.getElem_cons_zero, Act.put, List.setIfInBounds_toArray, List.set_cons_zero, List.set_cons_succ]
              refine wpAnyH_take (i := 3) (oi := _) (v := ?_) rfl (by kernel_rfl) (by kernel_rfl) (by kernel_rfl) (fun _ _ _ h => h) (Or.inl ⟨by rfl, ?_⟩) (by assumption) ?_
              rotate_left
              · intro w hSw
                try dsimp only at hSw
                try simp only [List.getElem_toArray, List.getElem_cons_succ, List.getElem_cons_zero]
                go_simp
                try with_reducible rfl
              try simp only [List.getElem_toArray, List.getElem_cons_succ, List.getElem_cons_zero, Act.put, List.setIfInBounds_toArray, List.set_cons_zero, List.set_cons_succ]
              refine wpAnyH_take (i := 4) (oi := _) (v := ?_) rfl (by kernel_rfl) (by kernel_rfl) (by kernel_rfl) (fun _ _ _ h => h) (Or.inl ⟨by rfl, ?_⟩) (by assumption) ?_
              rotate_left
              · intro w hSw
                try dsimp only at hSw
                try simp only [List.getElem_toArray, List.getElem_cons_succ, List.getElem_cons_zero]
                go_simp
                try with_reducible rfl
              try simp only [List.getElem_toArray, List.getElem_cons_succ, List.getElem_cons_zero, Act.put, List.setIfInBounds_toArray, List.set_cons_zero, List.set_cons_succ]
              refine wpAnyH_take (i := 5) (oi := _) (v := undef) rfl (by kernel_rfl) (by kernel_rfl) (by kernel_rfl) (fun _ _ _ h => h) (Or.inr ⟨by rfl, rfl⟩) (by assumption) ?_
              try simp only [List.getElem_toArray, List.getElem_cons_succ, List.getElem_cons_zero, Act.put, List.setIfInBounds_toArray, List.set_cons_zero, List.set_cons_succ]
              refine wpAnyH_take (i := 6) (oi := _) (v := undef) rfl (by kernel_rfl) (by kernel_rfl) (by kernel_rfl) (fun _ _ _ h => h) (Or.inr ⟨by rfl, rfl⟩) (by assumption) ?_
              try simp only [List.getElem_toArray, List.getElem_cons_succ, List.getElem_cons_zero, Act.put, List.setIfInBounds_toArray, List.set_cons_zero, List.set_cons_succ]
              refine wpAnyH_take (i := 7) (oi := _) (v := undef) rfl (by kernel_rfl) (by kernel_rfl) (by kernel_rfl) (fun _ _ _ h => h) (Or.inr ⟨by rfl, rfl⟩) (by assumption) ?_
              try simp only [List.getElem_toArray, List.getElem_cons_succ, List.getElem_cons_zero, Act.put, List.setIfInBounds_toArray, List.set_cons_zero, List.set_cons_succ]
              refine wpAnyH_take (i := 8) (oi := _) (v := undef) rfl (by kernel_rfl) (by kernel_rfl) (by kernel_rfl) (fun _ _ _ h => h) (Or.inr ⟨by rfl, rfl⟩) (by assumption) ?_
              try simp only [List.getElem_toArray, List.getElem_cons_succ, List.getElem_cons_zero, Act.put, List.setIfInBounds_toArray, List.set_cons_zero, List.set_cons_succ]
              refine wpAnyH_take (i := 9) (oi := _) (v := undef) rfl (by kernel_rfl) (by kernel_rfl) (by kernel_rfl) (fun _ _ _ h => h) (Or.inr ⟨by rfl, rfl⟩) (by assumption) ?_
              try simp only [List.getElem_toArray, List.getElem_cons_succ, List.getElem_cons_zero, Act.put, List.setIfInBounds_toArray, List.set_cons_zero, List.set_cons_succ]
              refine wpAnyH_take (i := 10) (oi := _) (v := undef) rfl (by kernel_rfl) (by kernel_rfl) (by kernel_rfl) (fun _ _ _ h => h) (Or.inr ⟨by rfl, rfl⟩) (by assumption) ?_
              try simp only [List.getElem_toArray, List.getElem_cons_succ, List.getElem_cons_zero, Act.put, List.setIfInBounds_toArray, List.set_cons_zero, List.set_cons_succ]
              refine wpAnyH_take (i := 11) (oi := _) (v := undef) rfl (by kernel_rfl) (by kernel_rfl) (by kernel_rfl) (fun _ _ _ h => h) (Or.inr ⟨by rfl, rfl⟩) (by assumption) ?_
              try simp only [List.getElem_toArray, List.getElem_cons_succ, List.getElem_cons_zero, Act.put, List.setIfInBounds_toArray, List.set_cons_zero, List.set_cons_succ]
              refine wpAnyH_take (i := 12) (oi := _) (v := ?_) rfl (by kernel_rfl) (by kernel_rfl) (by kernel_rfl) (fun _ _ _ h => h) (Or.inl ⟨by rfl, ?_⟩) (by assumption) ?_
              rotate_left
              · intro w hSw
                try dsimp only at hSw
                try simp only [List.getElem_toArray, List.getElem_cons_succ, List.getElem_cons_zero]
                go_simp
                try with_reducible rfl
              try simp only [List.getElem_toArray, List.getElem_cons_succ, List.getElem_cons_zero, Act.put, List.setIfInBounds_toArray, List.set_cons_zero, List.set_cons_succ]
              refine wpAnyH_done (by kernel_rfl) ?_ _
              have HGz := Lib.hid HSa.out.grown
              go_wp2_with fail
              refine (HLv.out _).mono ?_
              rintro e1 wl ⟨rfl, gl⟩
              have HGl := Lib.hid (grown_trans HGz.out gl)
              clear gl
              go_wp2_with fail
              go_ret
              exact ⟨rfl, HGl.out⟩
            · have bN : decide ((N : Int) > 1) = false := decide_eq_false hN1
              clear hN1
              go_upto_region 20 with fail
              refine wp_region_held_drew (S := fun w7 => w7.cell? ⟨X, 1, none⟩ = some (.int .i64 o.proc) ∧ w7.cell? ⟨X, 2, none⟩ = some (.int .i64 o.addr)) (by kernel_rfl) (HBd.out _ HSd.out) (fun hHeld => ?_)
              refine wpAnyH_take (i := 0) (oi := _) (v := ?_) rfl (by kernel_rfl) (by kernel_rfl) (by kernel_rfl) (fun _ _ _ h => h) (Or.inl ⟨by rfl, ?_⟩) (by assumption) ?_
              rotate_left
              · intro w hSw
                try dsimp only at hSw
                try simp only [List.getElem_toArray, List.getElem_cons_succ, List.getElem_cons_zero]
                go_simp
                try with_reducible rfl
              try simp only [List.getElem_toArray, List.getElem_cons_succ, List.getElem_cons_zero, Act.put, List.setIfInBounds_toArray, List.set_cons_zero, List.set_cons_succ]
              refine wpAnyH_ready (rs := [1]) (by kernel_rfl) (by simp) ?_
              refine AllReadyH.cons (o := _) rfl (fun K hK => ?_) AllReadyH.nil
              try simp only [List.getElem_toArray, List.getElem_cons_succ, List.getElem_cons_zero]
              go_simp
              go_at_call 20
              refine (HPr.out _ HSd.out).mono ?_
              rintro e wa ⟨qa, ca, rfl, ga⟩
              have HSa := Lib.hid (HSd.out.grow ga)
              clear ga
              try (go_wp2_with fail)
              refine hK.out _ _ (HBd.out _ HSa.out) (fun hHeld => ?_)
              clear hK K
              try simp only [Act.put, List.setIfInBounds_toArray, List.set_cons_zero, List.set_cons_succ]
              refine wpAnyH_take (i := 2) (oi := _) (v := ?_) rfl (by kernel_rfl) (by kernel_rfl) (by kernel_rfl) (fun _ _ _ h => h) (Or.inl ⟨by rfl, ?_⟩) (by assumption) ?_
              rotate_left
              · intro w hSw
                try dsimp only at hSw
                try simp only [List.getElem_toArray, List.getElem_cons_succ, List.getElem_cons_zero]
                go_simp
                try with_reducible rfl
              try simp only [List.getElem_toArray, List.getElem_cons_succ, List.getElem_cons_zero, Act.put, List.setIfInBounds_toArray, List.set_cons_zero, List.set_cons_succ]
              refine wpAnyH_take (i := 3) (oi := _) (v := ?_) rfl (by kernel_rfl) (by kernel_rfl) (by kernel_rfl) (fun _ _ _ h => h) (Or.inl ⟨by rfl, ?_⟩) (by assumption) ?_
              rotate_left
              · intro w hSw
                try dsimp only at hSw
                try simp only [List.getElem_toArray, List.getElem_cons_succ, List.getElem_cons_zero]
                go_simp
                try with_reducible rfl
              try simp only [List.getElem_toArray, List.getElem_cons_succ, List.getElem_cons_zero, Act.put, List.setIfInBounds_toArray, List.set_cons_zero, List.set_cons_succ]
              refine wpAnyH_take (i := 4) (oi := _) (v := ?_) rfl (by kernel_rfl) (by kernel_rfl) (by kernel_rfl) (fun _ _ _ h => h) (Or.inl ⟨by rfl, ?_⟩) (by assumption) ?_
              rotate_left
              · intro w hSw
                try dsimp only at hSw
                try simp only [List.getElem_toArray, List.getElem_cons_succ, List.getElem_cons_zero]
                go_simp
                try with_reducible rfl
              try simp only [List.getElem_toArray, List.getElem_cons_succ, List.getElem_cons_zero, Act.put, List.setIfInBounds_toArray, List.set_cons_zero, List.set_cons_succ]
              refine wpAnyH_take (i := 5) (oi := _) (v := ?_) rfl (by kernel_rfl) (by kernel_rfl) (by kernel_rfl) (fun _ _ _ h => h) (Or.inl ⟨by rfl, ?_⟩) (by assumption) ?_
              rotate_left
              · intro w hSw
                try dsimp only at hSw
                try simp only [List.getElem_toArray, List.getElem_cons_succ, List.getElem_cons_zero]
                go_simp
                try with_reducible rfl
              try simp only [List.getElem_toArray, List.getElem_cons_succ, List.getElem_cons_zero, Act.put, List.setIfInBounds_toArray, List.set_cons_zero, List.set_cons_succ]
              refine wpAnyH_take (i := 6) (oi := _) (v := ?_) rfl (by kernel_rfl) (by kernel_rfl) (by kernel_rfl) (fun _ _ _ h => h) (Or.inl ⟨by rfl, ?_⟩) (by assumption) ?_
              rotate_left
              · intro w hSw
                try dsimp only at hSw
                try simp only [List.getElem_toArray, List.getElem_cons_succ, List.getElem_cons_zero]
                go_simp
                try with_reducible rfl
              try simp only [List.getElem_toArray, List.getElem_cons_succ, List.getElem_cons_zero, Act.put, List.setIfInBounds_toArray, List.set_cons_zero, List.set_cons_succ]
              refine wpAnyH_take (i := 7) (oi := _) (v := ?_) rfl (by kernel_rfl) (by kernel_rfl) (by kernel_rfl) (fun _ _ _ h => h) (Or.inl ⟨by rfl, ?_⟩) (by assumption) ?_
              rotate_left
              · intro w hSw
                try dsimp only at hSw
                try simp only [List.getElem_toArray, List.getElem_cons_succ, List.getElem_cons_zero]
                go_simp
                try with_reducible rfl
              try simp only [List.getElem_toArray, List.getElem_cons_succ, List.getElem_cons_zero, Act.put, List.setIfInBounds_toArray, List.set_cons_zero, List.set_cons_succ]
              refine wpAnyH_take (i := 9) (oi := _) (v := ?_) rfl (by kernel_rfl) (by kernel_rfl) (by kernel_rfl) (fun _ _ _ h => h) (Or.inl ⟨by rfl, ?_⟩) (by assumption) ?_
              rotate_left
              · intro w hSw
                try dsimp only at hSw
                try simp only [List.getElem_toArray, List.getElem_cons_succ, List.getElem_cons_zero]
                go_simp
                try with_reducible rfl
              try simp only [List.getElem_toArray, List.getElem_cons_succ, List.getElem_cons_zero, Act.put, List.setIfInBounds_toArray, List.set_cons_zero, List.set_cons_succ]
              refine wpAnyH_take (i := 10) (oi := _) (v := ?_) rfl (by kernel_rfl) (by kernel_rfl) (by kernel_rfl) (fun _ _ _ h => h) (Or.inl ⟨by rfl, ?_⟩) (by assumption) ?_
              rotate_left
              · intro w hSw
                try dsimp only at hSw
                try simp only [List.getElem_toArray, List.getElem_cons_succ, List.getElem_cons_zero]
                go_simp
                try with_reducible rfl
              try simp only [List.getElem_toArray, List.getElem_cons_succ, List.getElem_cons_zero, Act.put, List.setIfInBounds_toArray, List.set_cons_zero, List.set_cons_succ]
              refine wpAnyH_ready (rs := [8]) (by kernel_rfl) (by simp) ?_
              refine AllReadyH.cons (o := _) rfl (fun K hK => ?_) AllReadyH.nil
              try simp only [List.getElem_toArray, List.getElem_cons_succ, List.getElem_cons_zero]
              go_simp
              go_at_call 23
              refine (HEn.out _ HSa.out).mono ?_
              rintro e wb ⟨ub, rfl, kb, gb⟩
              obtain ⟨sb, cb, hvb⟩ := OwnOf.form kb
              subst hvb
              have HRb := Lib.hid (eown_row kb)
              have HSb := Lib.hid (HSa.out.grow gb)
              clear kb gb
              try (go_wp2_with fail)
              refine hK.out _ _ (HBd.out _ HSb.out) (fun hHeld => ?_)
              clear hK K
              try simp only [Act.put, List.setIfInBounds_toArray, List.set_cons_zero, List.set_cons_succ]
              refine wpAnyH_ready (rs := [11]) (by kernel_rfl) (by simp) ?_
              refine AllReadyH.cons (o := _) rfl (fun K hK => ?_) AllReadyH.nil
              try simp only [List.getElem_toArray, List.getElem_cons_succ, List.getElem_cons_zero]
              go_simp
              go_at_call 22
              have h9 := shared_ok HRb.out hl7 o.addr
              rw [HSv.out] at h9
              refine h9.mono ?_
              clear h9
              rintro e wc ⟨rfl, gc⟩
              have HSc := Lib.hid (HSb.out.grow gc)
              clear gc
              try (go_wp2_with fail)
              refine hK.out _ _ (HBd.out _ HSc.out) (fun hHeld => ?_)
              clear hK K
              try simp only [Act.put, List.setIfInBounds_toArray, List.set_cons_zero, List.set_cons_succ]
              refine wpAnyH_take (i := 12) (oi := _) (v := ?_) rfl (by kernel_rfl) (by kernel_rfl) (by kernel_rfl) (fun _ _ _ h => h) (Or.inl ⟨by rfl, ?_⟩) (by assumption) ?_
              rotate_left
              · intro w hSw
                try dsimp only at hSw
                try simp only [List.getElem_toArray, List.getElem_cons_succ, List.getElem_cons_zero]
                go_simp
                try with_reducible rfl
              try simp only [List.getElem_toArray, List.getElem_cons_succ, List.getElem_cons_zero, Act.put, List.setIfInBounds_toArray, List.set_cons_zero, List.set_cons_succ]
              refine wpAnyH_done (by kernel_rfl) ?_ _
              cases sv with
              | true =>
                have HGz := Lib.hid HSc.out.grown
                go_wp2_with fail
                refine (HLv.out _).mono ?_
                rintro e1 wl ⟨rfl, gl⟩
                have HGl := Lib.hid (grown_trans HGz.out gl)
                clear gl
                go_wp2_with fail
                go_ret
                exact ⟨rfl, HGl.out⟩
              | false =>
                have HFr := Lib.hid (HFar.out HSe.out)
                have HEc := Lib.hid (HEn.out _ HSc.out)
                obtain ⟨b1, b2, b3, b4⟩ := box_four HSc.out
                clear HFar
                go_wp2_with fail
                refine HEc.out.mono ?_
                rintro e wE ⟨uE, rfl, kE, gE⟩
                obtain ⟨sE, cE, hvE⟩ := OwnOf.form kE
                subst hvE
                have HRE := Lib.hid (eown_row kE)
                have HSE := Lib.hid (HSc.out.grow gE)
                clear kE gE HEc b1 b2 b3 b4
                go_wp2_with fail
                go_loopw [129] (fun iv wr => ∃ q : Nat, q ≤ L.length ∧ iv = .int .i64 q ∧ Hid (Sx W wr [(0, r, S2), (1, r1, S)] [(X, OB o)]) ∧ Hid (wE.grownBy wr none)) (fun iv _ => L.length - (intOf iv).toNat)
                case atStart => exact ⟨0, by omega, rfl, HSE, Lib.hid (grown_refl _ _)⟩
                case round =>
                  obtain ⟨q, hq, rfl, HSq, HGq⟩ := hrel
                  by_cases hlt : q < L.length
                  · obtain ⟨x, hx⟩ : ∃ x, L[q]? = some x := ⟨_, List.getElem?_eq_getElem hlt⟩
                    obtain ⟨g, p0, c2, hv, ka⟩ := en_cells (erow_grow HRE.out HGq.out) hx
                    obtain ⟨ka0, ka1, ka2, ka3, ka4, ka5, ka6, ka7, ka8, ka9⟩ := ka
                    injection hv with e1 e2 e3
                    subst e1 e3
                    have gx := World.grownBy_alloc wr (.cells #[.int .i64 x.s, .int .i64 x.e, .int .i64 x.f, .int .i64 x.o, .bool x.sh, .int .i64 x.p, .int .i64 x.m, .int .i64 x.i, .int .i64 x.a, .bool x.wi] 50) none
                    have HSx := Lib.hid (HSq.out.box (.cells #[.int .i64 x.s, .int .i64 x.e, .int .i64 x.f, .int .i64 x.o, .bool x.sh, .int .i64 x.p, .int .i64 x.m, .int .i64 x.i, .int .i64 x.a, .bool x.wi] 50))
                    have HGx := Lib.hid (grown_trans HGq.out gx)
                    have hge := HGd.out x (List.mem_of_getElem? hx)
                    have h1 := hge.s0
                    have h2 := hge.lt
                    have h3 := hge.e1
                    have hwr : IntKind.i64.wrap (x.s + 10) = x.s + 10 := by rw [IntKind.wrap_i64]; omega
                    obtain ⟨y0, y1, -, -, -, -, -, -, -, -⟩ := (EnB.new wr x).all
                    clear hx gx hge
                    go_wp2_with fail
                    generalize wr.heap.size = y at *
                    generalize wr.alloc (.cells #[.int .i64 x.s, .int .i64 x.e, .int .i64 x.f, .int .i64 x.o, .bool x.sh, .int .i64 x.p, .int .i64 x.m, .int .i64 x.i, .int .i64 x.a, .bool x.wi] 50) = wy at *
                    clear ka0 ka1 ka2 ka3 ka4 ka5 ka6 ka7 ka8 ka9 y0 y1
                    go_loopw [20] (fun nv wr2 => ∃ n : Int, x.s ≤ n ∧ n ≤ x.e ∧ n ≤ x.s + 10 ∧ nv = .int .i64 n ∧ Hid (Sx W wr2 [(0, r, S2), (1, r1, S)] [(y, .cells #[.int .i64 x.s, .int .i64 x.e, .int .i64 x.f, .int .i64 x.o, .bool x.sh, .int .i64 x.p, .int .i64 x.m, .int .i64 x.i, .int .i64 x.a, .bool x.wi] 50 (0, 0)), (X, OB o)]) ∧ Hid (wE.grownBy wr2 none)) (fun nv _ => (x.e - intOf nv).toNat)
                    case atStart => exact ⟨x.s, by omega, by omega, by omega, rfl, HSx, HGx⟩
                    case round =>
                      obtain ⟨n, hn0, hn1, hn2, rfl, HSn, HGn⟩ := hrel
                      have hyb : EnB _ y x := HSn.out.at (by simp)
                      obtain ⟨y0, y1, -, -, -, -, -, -, -, -⟩ := hyb.all
                      by_cases q1 : n < x.e
                      · have c1 : decide (n < x.e) = true := decide_eq_true q1
                        by_cases q2 : n < x.s + 10
                        · have c2 : decide (n < x.s + 10) = true := decide_eq_true q2
                          obtain ⟨pv, iv, hpi⟩ : ∃ pv iv, S.byte o.proc n o.ati = (pv, iv) := ⟨_, _, rfl⟩
                          obtain ⟨qv, jv, hqj⟩ : ∃ qv jv, S2.byte o.proc n o.ati = (qv, jv) := ⟨_, _, rfl⟩
                          have hc2 : ((n != o.addr) = false) ∨ ((n != o.addr) = true ∧ pv = qv ∧ iv = jv) := by
                            by_cases h : n = o.addr
                            · exact .inl (by simpa using h)
                            · have h1 := HFr.out n h
                              rw [hpi, hqj] at h1
                              exact .inr ⟨by simpa using h, (congrArg Prod.fst h1).symm, (congrArg Prod.snd h1).symm⟩
                          have hwn : IntKind.i64.wrap (n + 1) = n + 1 := by rw [IntKind.wrap_i64]; omega
                          have HBa := Lib.hid (HSn.out.byte_ok (t := 1) (r := r1) (S := S) (by simp) HO1.out o.proc n o.ati HOp.out hpi)
                          have HBb := Lib.hid (fun (wx : World) (s : Sx W wx [(0, r, S2), (1, r1, S)] [(y, .cells #[.int .i64 x.s, .int .i64 x.e, .int .i64 x.f, .int .i64 x.o, .bool x.sh, .int .i64 x.p, .int .i64 x.m, .int .i64 x.i, .int .i64 x.a, .bool x.wi] 50 (0, 0)), (X, OB o)]) => s.byte_ok (t := 0) (r := r) (S := S2) (by simp) HO2.out o.proc n o.ati HOp.out hqj)
                          have HB4 := Lib.hid (fun (wx : World) (s : Sx W wx [(0, r, S2), (1, r1, S)] [(y, .cells #[.int .i64 x.s, .int .i64 x.e, .int .i64 x.f, .int .i64 x.o, .bool x.sh, .int .i64 x.p, .int .i64 x.m, .int .i64 x.i, .int .i64 x.a, .bool x.wi] 50 (0, 0)), (X, OB o)]) => box_four (s.sub (Bs' := [(X, OB o)]) (fun _ h => h) (fun b hb => List.mem_cons_of_mem _ hb)))
                          obtain ⟨b1, b2, b3, b4⟩ := HB4.out _ HSn.out
                          clear hpi hqj hyb
                          go_wp2_with fail
                          refine HBa.out.mono ?_
                          rintro e wa ⟨rfl, ga⟩
                          have HSa2 := Lib.hid (HSn.out.grow ga)
                          have HGa2 := Lib.hid (grown_trans HGn.out ga)
                          have HBb2 := Lib.hid (HBb.out _ HSa2.out)
                          clear ga HSn HGn HBa HBb b1 b2 b3 b4 y0 y1
                          obtain ⟨b1, b2, b3, b4⟩ := HB4.out _ HSa2.out
                          go_wp2_with fail
                          refine HBb2.out.mono ?_
                          rintro e wb2 ⟨rfl, gb2⟩
                          have HSb2 := Lib.hid (HSa2.out.grow gb2)
                          have HGb2 := Lib.hid (grown_trans HGa2.out gb2)
                          clear gb2 HSa2 HGa2 HBb2 b1 b2 b3 b4
                          obtain ⟨b1, b2, b3, b4⟩ := HB4.out _ HSb2.out
                          rcases hc2 with bn | ⟨bn, rfl, rfl⟩
                          all_goals (
                            go_wp2_with fail
                            first
                              | exact ⟨⟨n + 1, by omega, by omega, by omega, by go_num, HSb2, HGb2⟩, by simp [intOf]; omega⟩
                              | (go_roundw; (case rel => exact ⟨n + 1, by omega, by omega, by omega, by go_num, HSb2, HGb2⟩); (case measure => simp [intOf]; omega)))
                        · have c2 : decide (n < x.s + 10) = false := decide_eq_false q2
                          have HSo := Lib.hid (show Sx W _ [(0, r, S2), (1, r1, S)] [(X, OB o)] from HSn.out.sub (fun _ h => h) (fun b hb => List.mem_cons_of_mem _ hb))
                          clear HSn
                          go_wp2_with fail
                          first
                            | exact ⟨⟨q + 1, by omega, by go_num, HSo, HGn⟩, by simp [intOf]; omega⟩
                            | (go_roundw; (case rel => exact ⟨q + 1, by omega, by go_num, HSo, HGn⟩); (case measure => simp [intOf]; omega))
                      · have c1 : decide (n < x.e) = false := decide_eq_false q1
                        have HSo := Lib.hid (show Sx W _ [(0, r, S2), (1, r1, S)] [(X, OB o)] from HSn.out.sub (fun _ h => h) (fun b hb => List.mem_cons_of_mem _ hb))
                        clear HSn
                        go_wp2_with fail
                        first
                          | exact ⟨⟨q + 1, by omega, by go_num, HSo, HGn⟩, by simp [intOf]; omega⟩
                          | (go_roundw; (case rel => exact ⟨q + 1, by omega, by go_num, HSo, HGn⟩); (case measure => simp [intOf]; omega))
                  · obtain rfl : q = L.length := by omega
                    have HGz := Lib.hid HSq.out.grown
                    go_wp2_with fail
                    refine (HLv.out _).mono ?_
                    rintro e1 wl ⟨rfl, gl⟩
                    have HGl := Lib.hid (grown_trans HGz.out gl)
                    clear gl
                    go_wp2_with fail
                    go_ret
                    exact ⟨rfl, HGl.out⟩)
        · have b2 : (er != 0) = true := by simpa using he
          have HG5 := Lib.hid HS5.out.grown
          clear he HSt HBd
          go_wp2_with fail
          refine (HLv.out _).mono ?_
          rintro e1 wl ⟨rfl, gl⟩
          have HGl := Lib.hid (grown_trans HG5.out gl)
          clear gl
          go_wp2_with fail
          go_ret
          exact ⟨rfl, HGl.out⟩
theorem stores_say (W : World) (s0 : Option Addr) (l0 c0 : Nat) (A0 : List FOp) (act0 : OpsAre W s0 l0 A0) (o : FOp) (at_ : Int) (ho : OkO o) :
    Calls Tryz.prog 5 #[.slice s0 l0 c0, .agg #[.int .i64 o.k, .int .i64 o.proc, .int .i64 o.addr, .int .i64 o.n, .int .i64 o.prot, .bool o.sh, .int .i64 o.file, .int .i64 o.off, .bool o.fixed, .int .i64 o.how, .int .i64 o.ati, .int .i64 o.v, .int .i64 o.hd, .int .i64 o.to], .int .i64 at_] W fun e w' => e = .returned (.bool true) ∧ Below W.heap.size W w' := said (stores_walk act0 o ho at_)
end Go.Proofs.YtefiiooibbkffaaGreat
