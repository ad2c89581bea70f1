/- Layer 7: a new space; how many tables Enter makes, by the leaves that there are; a space without leaves has its root alone. No program in it. Layer 7: which leaves there are behind each step, how many tables; one space by itself. No program in it. Layer 7: what a change of flags does to an entry's word. No program in it. Layer 7: what package pmap must be shown to say of its spaces (S: a space by its block, its memory, its pool, its number, its root, how many tables, its blocks). Layer 7: a memory, a pool and a space at a law's beginning; the chapter's example. -/
import Derived.Test.YtlieommbomjdaaaMB1
import Derived.Test.YtlieommbomjdaaaMB2
import Derived.Test.YtlieommbomjdaaaFB2
namespace Go.Proofs.Ytlieommbomjdaaa
set_option linter.unusedVariables false

/-- What is so of a space in the model. -/
structure Inv7 (n : Nat) (s : MS) (a r : Int) : Prop where
  ok : MOk n s noE
  root : Tab (getF s.xs) r a 0
  N : s.N = cntF s.xs a
  a : okI a

section
variable {n : Nat} {s : MS} {a r v x u y m : Int}
theorem Inv7.enter (h : Inv7 n s a r) (v fr p : Int) : Inv7 n (enterM n a r v fr p s).2 a r := by
  obtain ⟨h1, _, h3⟩ := h.ok.enterM_ok (v := v) h.root fr p
  have hc := (h.ok.enterM_cnt (v := v) h.root fr p).own
  have := h.N
  exact ⟨h1, h3, by omega, h.a⟩
theorem Inv7.remove (h : Inv7 n s a r) (v : Int) : Inv7 n (removeM n r v s).2 a r := by
  obtain ⟨h1, _, h3⟩ := h.ok.removeM_ok (v := v) h.root
  have hc := (h.ok.remove_cnt (v := v) h.root).own
  have := h.N
  exact ⟨h1, h3, by omega, h.a⟩
theorem Inv7.protect (h : Inv7 n s a r) (v p : Int) : Inv7 n (protectM n r v p s).2 a r := by
  obtain ⟨h1, _, h3, h4⟩ := h.ok.protect_ok (v := v) h.root p
  have hc := h4.own
  have := h.N
  exact ⟨h1, h3, by omega, h.a⟩
theorem Inv7.clear (h : Inv7 n s a r) (v k : Int) : Inv7 n (clearM n r v k s).2 a r := by
  obtain ⟨h1, _, h3, h4⟩ := h.ok.clear_ok (v := v) h.root k
  have hc := h4.own
  have := h.N
  exact ⟨h1, h3, by omega, h.a⟩

/-- Any memory whose frames are all free. -/
theorem ok_free (n : Nat) (hn : n ≤ 256) (W : WoF) (N : Int) : MOk n ⟨W, List.replicate n zeroF, N⟩ noE := by
  refine ⟨tree_none n W noE _ fun f z hz => ?_, List.length_replicate, hn⟩
  obtain ⟨_, _, h⟩ := getF_some hz
  exact List.eq_of_mem_replicate (List.mem_of_getElem? h)
theorem tot_free (n : Nat) : totF (List.replicate n zeroF) = 0 := by
  unfold totF
  rw [List.countP_eq_zero.2]
  · rfl
  · intro z hz
    rw [List.eq_of_mem_replicate hz]
    decide

/-- The first space of a memory. -/
theorem start7 (n : Nat) (h1 : 1 ≤ n) (hn : n ≤ 256) (W : WoF) (a : Int) (ha : okI a) :
    ∃ (k : Nat) (zs : List FrV), k < n ∧ takeF 0 (List.replicate n zeroF) 1 a 0 = ⟨k, 0, zs⟩ ∧ Inv7 n ⟨zeroW W k, zs, 1⟩ a k ∧ totF zs = 1 ∧ (∀ b, b ≠ a → cntF zs b = 0) ∧ ∀ j, zeroW W k k j = 0 := by
  have hm := ok_free n hn W 0
  have ht := tot_free n
  have hno : ∀ g l, ¬ Tab (getF (List.replicate n zeroF)) g a l := fun g l hg => by
    obtain ⟨_, _, h⟩ := getF_some hg
    exact tabF_ne (List.eq_of_mem_replicate (List.mem_of_getElem? h))
  have hc0 : ∀ b, cntF (List.replicate n zeroF) b = 0 := fun b => by
    unfold cntF
    rw [List.countP_eq_zero.2]
    · rfl
    · intro z hz
      rw [List.eq_of_mem_replicate hz]
      simp [zeroF]
  rcases hm.take a 0 with ⟨_, _, hx⟩ | ⟨k, hk, e, _⟩
  · have h0 : getF (List.replicate n zeroF) (0 : Nat) = some zeroF := getF_at (by rw [List.getElem?_replicate, if_pos (by omega)])
    exact (hx _ _ h0 rfl).elim
  · have hN : newM a (⟨W, List.replicate n zeroF, 0⟩ : MS) = ((0 : Int), (k : Int), (⟨zeroW W k, (List.replicate n zeroF).set k (tabF a 0), 1⟩ : MS)) := by
      unfold newM
      simp only at e
      rw [e]
      rfl
    rcases hm.new hno with ⟨e1, _⟩ | ⟨_, _, k1, _, k3, k4, k5, k6, k7, k8⟩
    · rw [hN] at e1; exact absurd e1 (by show ¬ ((0 : Int) = 5); decide)
    · rw [hN] at k1 k3 k4 k5 k6 k7 k8
      refine ⟨k, (List.replicate n zeroF).set k (tabF a 0), hk, e, ⟨k1, k3, ?_, ha⟩, ?_, fun b hb => ?_, k4⟩
      · have := k6
        rw [hc0] at this
        show (1 : Int) = cntF ((List.replicate n zeroF).set k (tabF a 0)) a
        simp only at this
        omega
      · have := k8
        rw [show totF (⟨W, List.replicate n zeroF, 0⟩ : MS).xs = 0 from ht] at this
        simp only at this
        omega
      · have := k7 b hb
        rw [hc0] at this
        exact this

/-- What stands at the root's entry, by the leaves. -/
theorem Inv7.top_iff (h : Inv7 n s a r) {i : Int} (hi : okX i) : s.W r i ≠ 0 ↔ ∃ u y, okV u ∧ Has s.W r u y ∧ indexOf u 2 = i := by
  constructor
  · intro hw
    rcases h.ok.nx h.root (by omega) hi with ⟨_, e⟩ | ⟨g, _, e, hg⟩
    · exact (hw e).elim
    · obtain ⟨u, y, hu, hy, _, h1⟩ := h.ok.has_leaf h.root hg (by omega)
      have h1 := h1 (by omega)
      obtain ⟨p, q, hq, hp, hwp⟩ := h.ok.tree.up g a 1 hg (by omega)
      have := h.ok.tree.once r r (indexOf u 2) i g a 0 h.root h.root (by omega) (index_okX u 2) hi h1 e
      exact ⟨u, y, hu, hy, this.2⟩
  · rintro ⟨u, y, hu, ⟨f, m, h2, _⟩, rfl⟩
    rw [h2]
    exact ent_ne m
theorem Inv7.mid_iff (h : Inv7 n s a r) {i j m : Int} (hi : okX i) (hj : okX j) (hm : s.W r i = entT m) : s.W m j ≠ 0 ↔ ∃ u y, okV u ∧ Has s.W r u y ∧ indexOf u 2 = i ∧ indexOf u 1 = j := by
  have hmt := h.ok.ent h.root (by omega) hi hm
  constructor
  · intro hw
    rcases h.ok.nx hmt (by omega) hj with ⟨_, e⟩ | ⟨g, _, e, hg⟩
    · exact (hw e).elim
    · obtain ⟨u, y, hu, hy, h1, _⟩ := h.ok.has_leaf h.root hg (by omega)
      obtain ⟨q, hq1, hq2⟩ := h1 (by omega)
      have hqt := h.ok.ent h.root (by omega) (index_okX u 2) hq1
      have e2 := h.ok.tree.once q m (indexOf u 1) j g a (0 + 1) hqt hmt (by omega) (index_okX u 1) hj hq2 e
      obtain ⟨e3, e4⟩ := e2
      subst e3
      have e5 := h.ok.tree.once r r (indexOf u 2) i q a 0 h.root h.root (by omega) (index_okX u 2) hi hq1 hm
      exact ⟨u, y, hu, hy, e5.2, e4⟩
  · rintro ⟨u, y, hu, ⟨f, q, h2, h3, _⟩, rfl, rfl⟩
    rw [hm] at h2
    have := ent_inj h2
    subst this
    rw [h3]
    exact ent_ne f

open Classical in
/-- How many tables there are behind an Enter that ends well. -/
theorem Inv7.enter_N (h : Inv7 n s a r) (he : (enter1 n a r v x s).1 = 0) :
    (enter1 n a r v x s).2.N = s.N + (if ∃ u y, okV u ∧ Has s.W r u y ∧ indexOf u 2 = indexOf v 2 then 0 else 1) + (if ∃ u y, okV u ∧ Has s.W r u y ∧ indexOf u 2 = indexOf v 2 ∧ indexOf u 1 = indexOf v 1 then 0 else 1) := by
  obtain ⟨h0, h1⟩ := h.ok.enter1_N h.root he
  by_cases hw : s.W r (indexOf v 2) = 0
  · have e1 : ¬ ∃ u y, okV u ∧ Has s.W r u y ∧ indexOf u 2 = indexOf v 2 := fun q => (h.top_iff (index_okX v 2)).2 q hw
    have e2 : ¬ ∃ u y, okV u ∧ Has s.W r u y ∧ indexOf u 2 = indexOf v 2 ∧ indexOf u 1 = indexOf v 1 := fun ⟨u, y, q1, q2, q3, _⟩ => e1 ⟨u, y, q1, q2, q3⟩
    rw [if_neg e1, if_neg e2, h0 hw]
    omega
  · have e1 := (h.top_iff (index_okX v 2)).1 hw
    rw [if_pos e1]
    rcases h.ok.nx h.root (by omega) (index_okX v 2) with ⟨_, e⟩ | ⟨m, _, e, hm⟩
    · exact (hw e).elim
    · obtain ⟨k0, k1⟩ := h1 m e
      by_cases hw1 : s.W m (indexOf v 1) = 0
      · have e2 : ¬ ∃ u y, okV u ∧ Has s.W r u y ∧ indexOf u 2 = indexOf v 2 ∧ indexOf u 1 = indexOf v 1 := fun q => (h.mid_iff (index_okX v 2) (index_okX v 1) e).2 q hw1
        rw [if_neg e2, k0 hw1]
        omega
      · have e2 := (h.mid_iff (index_okX v 2) (index_okX v 1) e).1 hw1
        rw [if_pos e2, k1 hw1]
        omega

/-- A space without leaves has its root alone. -/
theorem Inv7.alone (h : Inv7 n s a r) (hno : ∀ u y, okV u → ¬ Has s.W r u y) : s.N = 1 := by
  have hl : ∀ f l, Tab (getF s.xs) f a l → f = r := fun f l hf => by
    rcases Classical.em (0 < l) with h0 | h0
    · obtain ⟨u, y, hu, hy, _⟩ := h.ok.has_leaf h.root hf h0
      exact (hno u y hu hy).elim
    · have := (h.ok.tree.lev hf).1
      obtain rfl : l = 0 := by omega
      exact h.ok.tree.root f r a hf h.root
  obtain ⟨h0, h1, h2⟩ := getF_some h.root
  obtain ⟨k, rfl⟩ := Int.eq_ofNat_of_zero_le h0
  rw [Int.toNat_natCast] at h2
  have hs := cnt_set (w := zeroF) h2 a
  have hz : cntF (s.xs.set k zeroF) a = 0 := by
    unfold cntF
    rw [List.countP_eq_zero.2]
    · rfl
    · intro z hz hp
      simp only [Bool.and_eq_true, beq_iff_eq] at hp
      obtain ⟨i, hi⟩ := List.getElem?_of_mem hz
      by_cases e : i = k
      · subst e
        rw [List.getElem?_set_self (by omega)] at hi
        cases hi
        exact absurd hp.1 (by decide)
      · rw [List.getElem?_set_ne (fun q => e q.symm)] at hi
        have hg := getF_at hi
        rcases h.ok.tree.all _ _ hg with e1 | ⟨b, l, e1, _⟩
        · rw [e1] at hp; exact absurd hp.1 (by decide)
        · have hb : b = a := by rw [e1] at hp; exact hp.2
          subst hb
          have := hl i l (by unfold Tab; rw [hg, e1])
          omega
  rw [hz] at hs
  have e1 : (tabF a 0).cl = 1 ∧ (tabF a 0).ow = a := ⟨rfl, rfl⟩
  have e2 : ¬ (zeroF.cl = 1 ∧ zeroF.ow = a) := fun q => absurd q.1 (by decide)
  rw [if_pos e1, if_neg e2] at hs
  have := h.N
  omega
end
end Go.Proofs.Ytlieommbomjdaaa

namespace Go.Proofs.Ytlieommbomjdaaa
set_option linter.unusedVariables false

/-- That a page has a leaf. -/
def Lv (s : MS) (r u : Int) : Prop := ∃ y, Has s.W r u y
/-- .. and no other space is there. -/
structure Inv1 (n : Nat) (s : MS) (a r : Int) : Prop where
  inv : Inv7 n s a r
  tot : totF s.xs = s.N

section
variable {n : Nat} {s : MS} {a r v x u y m fr p : Int}
theorem enterM_in (hv : 0 ≤ v ∧ v < 67108864) (hp : 1 ≤ p ∧ p ≤ 7) (hf : 0 ≤ fr ∧ fr < n) : enterM n a r v fr p s = enter1 n a r v (encOf (flagsOf p true) fr) s := if_pos ⟨hv, hp, hf⟩
theorem Inv7.enterL (h : Inv7 n s a r) (hv : 0 ≤ v ∧ v < 67108864) (hp : 1 ≤ p ∧ p ≤ 7) (hf : 0 ≤ fr ∧ fr < n) (he : (enterM n a r v fr p s).1 = 0) (hu : okV u) : Lv (enterM n a r v fr p s).2 r u ↔ u = v ∨ Lv s r u := by
  rw [enterM_in hv hp hf] at he ⊢
  have hk := kind_flags p fr hp
  have hh : ∀ y, _ := fun y => (h.ok.enter1_has h.root hk (v := v) ⟨hv.1, by omega⟩ h.root hu (y := y)).2
  constructor
  · rintro ⟨y, hy⟩
    have := (hh y).1 hy
    by_cases e : u = v
    · exact .inl e
    · rw [if_neg (fun q => e q.2.2)] at this
      exact .inr ⟨y, this⟩
  · intro hq
    by_cases e : u = v
    · exact ⟨_, (hh _).2 (by rw [if_pos ⟨he, rfl, e⟩])⟩
    · rcases hq with e2 | ⟨y, hy⟩
      · exact (e e2).elim
      · exact ⟨y, (hh y).2 (by rw [if_neg (fun q => e q.2.2)]; exact hy)⟩
theorem Inv7.removeL (h : Inv7 n s a r) (hv : okV v) (hu : okV u) : ((removeM n r v s).1 = true ↔ Lv s r v) ∧ (Lv (removeM n r v s).2 r u ↔ u ≠ v ∧ Lv s r u) := by
  have hh : ∀ y, _ := fun y => h.ok.remove_has h.root hv h.root hu (y := y)
  refine ⟨(hh 0).1, ?_, ?_⟩
  · rintro ⟨y, hy⟩
    have := (hh y).2.1 hy
    exact ⟨fun e => this.1 ⟨rfl, e⟩, y, this.2⟩
  · rintro ⟨e, y, hy⟩
    exact ⟨y, (hh y).2.2 ⟨fun q => e q.2, hy⟩⟩
theorem Inv1.enter (h : Inv1 n s a r) : Inv1 n (enterM n a r v fr p s).2 a r := by
  refine ⟨h.inv.enter v fr p, ?_⟩
  have := (h.inv.ok.enterM_cnt (v := v) h.inv.root fr p).tot
  have := h.tot
  omega
theorem Inv1.remove (h : Inv1 n s a r) : Inv1 n (removeM n r v s).2 a r := by
  refine ⟨h.inv.remove v, ?_⟩
  have := (h.inv.ok.remove_cnt (v := v) h.inv.root).tot
  have := h.tot
  omega
theorem Inv1.fits (h : Inv1 n s a r) (hv : 0 ≤ v ∧ v < 67108864) (hp : 1 ≤ p ∧ p ≤ 7) (hf : 0 ≤ fr ∧ fr < n) (hN : s.N + 1 < n) : (enterM n a r v fr p s).1 = 0 := by
  rw [enterM_in hv hp hf]
  exact (h.inv.ok.enter1_fits h.inv.root (by rw [h.tot]; exact hN)).1
open Classical in
theorem Inv7.enterN (h : Inv7 n s a r) (hv : 0 ≤ v ∧ v < 67108864) (hp : 1 ≤ p ∧ p ≤ 7) (hf : 0 ≤ fr ∧ fr < n) (he : (enterM n a r v fr p s).1 = 0) :
    (enterM n a r v fr p s).2.N = s.N + (if ∃ u, okV u ∧ Lv s r u ∧ indexOf u 2 = indexOf v 2 then 0 else 1) + (if ∃ u, okV u ∧ Lv s r u ∧ indexOf u 2 = indexOf v 2 ∧ indexOf u 1 = indexOf v 1 then 0 else 1) := by
  rw [enterM_in hv hp hf] at he ⊢
  rw [h.enter_N he]
  have e1 : (∃ u y, okV u ∧ Has s.W r u y ∧ indexOf u 2 = indexOf v 2) ↔ ∃ u, okV u ∧ Lv s r u ∧ indexOf u 2 = indexOf v 2 :=
    ⟨fun ⟨u, y, q1, q2, q3⟩ => ⟨u, q1, ⟨y, q2⟩, q3⟩, fun ⟨u, q1, ⟨y, q2⟩, q3⟩ => ⟨u, y, q1, q2, q3⟩⟩
  have e2 : (∃ u y, okV u ∧ Has s.W r u y ∧ indexOf u 2 = indexOf v 2 ∧ indexOf u 1 = indexOf v 1) ↔ ∃ u, okV u ∧ Lv s r u ∧ indexOf u 2 = indexOf v 2 ∧ indexOf u 1 = indexOf v 1 :=
    ⟨fun ⟨u, y, q1, q2, q3⟩ => ⟨u, q1, ⟨y, q2⟩, q3⟩, fun ⟨u, q1, ⟨y, q2⟩, q3⟩ => ⟨u, y, q1, q2, q3⟩⟩
  rw [propext e1, propext e2]
theorem Inv7.lone (h : Inv7 n s a r) (hno : ∀ u, okV u → ¬ Lv s r u) : s.N = 1 := h.alone fun u y hu hy => hno u hu ⟨y, hy⟩
theorem start_no {k : Int} {W : WoF} {zs : List FrV} (hz : ∀ j, W k j = 0) (u : Int) : ¬ Lv ⟨W, zs, 1⟩ k u := by
  rintro ⟨y, f, m, h2, _⟩
  have h2 : W k (indexOf u 2) = entT m := h2
  rw [hz] at h2
  exact ent_ne m h2.symm

/-- The chapter's example. -/
theorem lives_model (h : Inv1 12 s 1 r) (h0 : s.N = 1) (hno : ∀ u, ¬ Lv s r u) : ∃ s1 s2 s3 s4, enterM 12 1 r 5 9 1 s = (0, s1) ∧ Inv1 12 s1 1 r ∧ s1.N = 3 ∧ enterM 12 1 r 6 9 1 s1 = (0, s2) ∧ Inv1 12 s2 1 r ∧ s2.N = 3 ∧ removeM 12 r 5 s2 = (true, s3) ∧ Inv1 12 s3 1 r ∧ removeM 12 r 6 s3 = (true, s4) ∧ Inv1 12 s4 1 r ∧ s4.N = 1 := by
  have b5 : (0 : Int) ≤ 5 ∧ (5 : Int) < 67108864 := ⟨by decide, by decide⟩
  have b6 : (0 : Int) ≤ 6 ∧ (6 : Int) < 67108864 := ⟨by decide, by decide⟩
  have bp : (1 : Int) ≤ 1 ∧ (1 : Int) ≤ 7 := ⟨by decide, by decide⟩
  have bf : (0 : Int) ≤ 9 ∧ (9 : Int) < (12 : Nat) := ⟨by decide, by decide⟩
  have o5 : okV 5 := ⟨by decide, by decide⟩
  have o6 : okV 6 := ⟨by decide, by decide⟩
  have i1 : indexOf 5 2 = indexOf 6 2 := by decide
  have i2 : indexOf 5 1 = indexOf 6 1 := by decide
  have e1 := h.fits (v := 5) (p := 1) (fr := 9) b5 bp bf (by omega)
  have l1 := fun u (hu : okV u) => h.inv.enterL (u := u) b5 bp bf e1 hu
  have n1 := h.inv.enterN b5 bp bf e1
  rw [if_neg (fun ⟨u, _, q, _⟩ => hno u q), if_neg (fun ⟨u, _, q, _⟩ => hno u q), h0] at n1
  have k1 := h.enter (v := 5) (fr := 9) (p := 1)
  generalize hs1 : enterM 12 1 r 5 9 1 s = z1 at *
  obtain ⟨q1, s1⟩ := z1
  simp only at e1 l1 n1 k1
  subst e1
  have e2 := k1.fits (v := 6) (p := 1) (fr := 9) b6 bp bf (by omega)
  have l2 := fun u (hu : okV u) => k1.inv.enterL (u := u) b6 bp bf e2 hu
  have n2 := k1.inv.enterN b6 bp bf e2
  have m5 : Lv s1 r 5 := (l1 5 o5).2 (.inl rfl)
  rw [if_pos ⟨5, o5, m5, i1⟩, if_pos ⟨5, o5, m5, i1, i2⟩, n1] at n2
  have k2 := k1.enter (v := 6) (fr := 9) (p := 1)
  generalize hs2 : enterM 12 1 r 6 9 1 s1 = z2 at *
  obtain ⟨q2, s2⟩ := z2
  simp only at e2 l2 n2 k2
  subst e2
  have e3 := (k2.inv.removeL o5 o5).1.2 ((l2 5 o5).2 (.inr m5))
  have l3 := fun u (hu : okV u) => (k2.inv.removeL (v := 5) (u := u) o5 hu).2
  have k3 := k2.remove (v := 5)
  generalize hs3 : removeM 12 r 5 s2 = z3 at *
  obtain ⟨q3, s3⟩ := z3
  simp only at e3 l3 k3
  subst e3
  have m6 : Lv s3 r 6 := (l3 6 o6).2 ⟨by decide, (l2 6 o6).2 (.inl rfl)⟩
  have e4 := (k3.inv.removeL o6 o6).1.2 m6
  have l4 := fun u (hu : okV u) => (k3.inv.removeL (v := 6) (u := u) o6 hu).2
  have k4 := k3.remove (v := 6)
  generalize hs4 : removeM 12 r 6 s3 = z4 at *
  obtain ⟨q4, s4⟩ := z4
  simp only at e4 l4 k4
  subst e4
  refine ⟨s1, s2, s3, s4, rfl, k1, n1, hs2, k2, n2, hs3, k3, hs4, k4, k4.inv.lone fun u hu hl => ?_⟩
  obtain ⟨u6, hl⟩ := (l4 u hu).1 hl
  obtain ⟨u5, hl⟩ := (l3 u hu).1 hl
  rcases (l2 u hu).1 hl with e | hl
  · exact u6 e
  · rcases (l1 u hu).1 hl with e | hl
    · exact u5 e
    · exact hno u hl
end
end Go.Proofs.Ytlieommbomjdaaa

namespace Go.Proofs.Ytlieommbomjdaaa
open Go.RowKit
set_option linter.unusedVariables false

/-- A leaf's word, as Enter, Protect, Clear and walks make it. -/
def canE (y : Int) : Prop := y = 0 ∨ (y = encOf (flagOf y) (ppnOf y) ∧ flagOf y % 2 = 1 ∧ flagOf y / 16 % 4 = 1)
theorem andNot_def (x k : Int) : bits .andNot .u64 x k = IntKind.u64.wrap ((BitVec.ofInt 64 x &&& ~~~ BitVec.ofInt 64 k).toNat : Nat) := rfl
theorem testBit_high {P i : Nat} (h : P < 2 ^ 44) (hi : 54 ≤ i) : P.testBit (i - 10) = false := Nat.testBit_lt_two_pow (Nat.lt_of_lt_of_le h (Nat.pow_le_pow_right (by decide) (by omega)))
theorem low_bitsM {P a m f : Nat} (hP : P < 2 ^ 44) (ha : a < 256) (hm : m < 256) (hf : f < 256) : ((2 ^ 10 * P + a) &&& (2 ^ 64 - (m + 1))) ||| f = 2 ^ 10 * P + ((a &&& (255 ^^^ m)) ||| f) := by
  have h1 : (a &&& (255 ^^^ m)) ||| f < 2 ^ 10 := Nat.or_lt_two_pow (Nat.and_lt_two_pow _ (Nat.xor_lt_two_pow (by decide) (by omega))) (by omega)
  apply Nat.eq_of_testBit_eq
  intro i
  rw [Nat.testBit_or, Nat.testBit_and, Nat.testBit_two_pow_mul_add _ (by omega), Nat.testBit_two_pow_mul_add _ h1, Nat.testBit_two_pow_sub_succ (by omega)]
  by_cases hi : i < 10
  · rw [if_pos hi, if_pos hi, Nat.testBit_or, Nat.testBit_and, Nat.testBit_xor]
    have e : decide (i < 64) = true := by simp; omega
    rw [e]
    by_cases h8 : i < 8
    · have : (255 : Nat).testBit i = true := by
        have : (255 : Nat) = 2 ^ 8 - 1 := by decide
        rw [this, Nat.testBit_two_pow_sub_one]
        simpa using h8
      rw [this]
      cases a.testBit i <;> cases m.testBit i <;> cases f.testBit i <;> rfl
    · have : a.testBit i = false := Nat.testBit_lt_two_pow (Nat.lt_of_lt_of_le ha (show 2 ^ 8 ≤ 2 ^ i from Nat.pow_le_pow_right (by decide) (by omega)))
      rw [this]
      simp
  · rw [if_neg hi, if_neg hi]
    have e1 : m.testBit i = false := Nat.testBit_lt_two_pow (Nat.lt_of_lt_of_le hm (show 2 ^ 8 ≤ 2 ^ i from Nat.pow_le_pow_right (by decide) (by omega)))
    have e2 : f.testBit i = false := Nat.testBit_lt_two_pow (Nat.lt_of_lt_of_le hf (show 2 ^ 8 ≤ 2 ^ i from Nat.pow_le_pow_right (by decide) (by omega)))
    rw [e1, e2]
    by_cases h6 : i < 64
    · simp [h6]
    · rw [testBit_high hP (by omega)]; rfl
theorem bits_change {P a m f : Nat} (hP : P < 2 ^ 44) (ha : a < 256) (hm : m < 256) (hf : f < 256) : bits .or .u64 (bits .andNot .u64 ((2 ^ 10 * P + a : Nat) : Int) (m : Nat)) (f : Nat) = ((2 ^ 10 * P + ((a &&& (255 ^^^ m)) ||| f) : Nat) : Int) := by
  have hV : 2 ^ 10 * P + a < 2 ^ 64 := by omega
  have e : ((BitVec.ofInt 64 ((2 ^ 10 * P + a : Nat) : Int) &&& ~~~ BitVec.ofInt 64 ((m : Nat) : Int)).toNat : Nat) = (2 ^ 10 * P + a) &&& (2 ^ 64 - (m + 1)) := by
    rw [BitVec.toNat_and, BitVec.toNat_not, BitVec.ofInt_natCast, BitVec.ofInt_natCast, BitVec.toNat_ofNat, BitVec.toNat_ofNat, Nat.mod_eq_of_lt hV, Nat.mod_eq_of_lt (by omega : m < 2 ^ 64)]
    congr 1
    omega
  have hlt : (2 ^ 10 * P + a) &&& (2 ^ 64 - (m + 1)) < 2 ^ 64 := Nat.lt_of_le_of_lt Nat.and_le_left hV
  rw [andNot_def, e, IntKind.wrap_u64, show (((2 ^ 10 * P + a) &&& (2 ^ 64 - (m + 1)) : Nat) : Int) % 18446744073709551616 = (((2 ^ 10 * P + a) &&& (2 ^ 64 - (m + 1)) : Nat) : Int) by omega, bits_or_u64_nat _ _ (by omega) (by omega), low_bitsM hP ha hm hf]

set_option maxRecDepth 100000 in
theorem fl_all : ∀ a : Fin 256, a.val % 2 = 1 → a.val / 16 % 4 = 1 → ∀ q : Fin 8, q.val ≠ 0 → (((a.val &&& (255 ^^^ 14)) ||| ((flagsOf (q.val : Int) true).toNat &&& 14) : Nat) : Int) = flagsOf (q.val : Int) true + adOf (a.val : Int) := by decide
set_option maxRecDepth 100000 in
theorem had_all : ∀ a : Fin 256, ∀ b1 b2 : Bool, ((a.val &&& (255 ^^^ (one (bit a.val 64 && b1) 64 + one (bit a.val 128 && b2) 128).toNat) : Nat) : Int) = a.val - (one (bit a.val 64 && b1) 64 + one (bit a.val 128 && b2) 128) := by decide
set_option maxRecDepth 100000 in
theorem can_all : ∀ a : Fin 256, a.val % 2 = 1 → a.val / 16 % 4 = 1 → ∀ b1 b2 : Bool, (((a.val : Int) - (one (bit a.val 64 && b1) 64 + one (bit a.val 128 && b2) 128)) % 256 % 2 = 1 ∧ ((a.val : Int) - (one (bit a.val 64 && b1) 64 + one (bit a.val 128 && b2) 128)) % 256 / 16 % 4 = 1) := by decide
theorem flagsOf_mod (q : Int) : flagsOf q true = flagsOf (q % 8) true := by
  have b1 : bit (q % 8) 1 = bit q 1 := by unfold bit; rw [decide_eq_decide]; omega
  have b2 : bit (q % 8) 2 = bit q 2 := by unfold bit; rw [decide_eq_decide]; omega
  have b4 : bit (q % 8) 4 = bit q 4 := by unfold bit; rw [decide_eq_decide]; omega
  unfold flagsOf
  rw [b1, b2, b4, show q % 8 % 8 = q % 8 by omega]
end Go.Proofs.Ytlieommbomjdaaa

namespace Go.Proofs.Ytlieommbomjdaaa
open Go.ChangeShapes Go.WideShapes Go.ChangeAt Go.RowKit Go.Deep
set_option linter.unusedVariables false

theorem PP.lt {w : World} {p : Nat} {rs : Int} {xs : List FrV} {O : List Nat} (h : PP w p rs xs O) : ∀ b, b ∈ O → b < w.heap.size := by
  obtain ⟨g, c, rfl, h⟩ := h
  exact h.lt
theorem PP.kept {w w' : World} {p : Nat} {rs : Int} {xs : List FrV} {O : List Nat} (h : PP w p rs xs O) (hb : ∀ b, b ∈ O → w'.heap[b]? = w.heap[b]?) : PP w' p rs xs O := by
  obtain ⟨g, c, rfl, h⟩ := h
  exact ⟨g, c, rfl, h.kept hb⟩

/-- The program's memory and pool: what tables have is W, what frames are is xs. -/
structure PM (w0 w : World) (m d n p : Nat) (O : List Nat) (W : WoF) (xs : List FrV) : Prop where
  mem : ∃ M, St w0 w m d n M ∧ ∀ f a l, Tab (getF xs) f a l → ∀ j, okX j → wordI n M f j = W f j
  pool : PP w p 0 xs O
  num : xs.length = n
  oge : ∀ b, b ∈ O → w0.heap.size ≤ b
  apart : ∀ b, b ∈ O → b ∉ [m, d]
  can : ∀ f a, Tab (getF xs) f a 2 → ∀ j, okX j → canE (W f j)

abbrev SpP := World → Nat → Nat → Nat → Int → Int → Int → List Nat → Prop
/-- .. with a space of it. -/
structure PX (S : SpP) (w0 w : World) (m d n p : Nat) (O : List Nat) (x : Nat) (OX : List Nat) (a r : Int) (s : MS) : Prop where
  pm : PM w0 w m d n p O s.W s.xs
  sp : S w x m p a r s.N OX
  xge : ∀ b, b ∈ OX → w0.heap.size ≤ b
  apart : ∀ b, b ∈ OX → b ∉ m :: d :: O
/-- A pool behind a call. -/
def PML (w0 w w' : World) (m d n p : Nat) (O : List Nat) (W : WoF) (xs : List FrV) : Prop := ∃ O', PM w0 w' m d n p O' W xs ∧ Turn (d :: O) w w' ∧ ∀ b, b ∈ O' → b ∈ O ∨ w.heap.size ≤ b
/-- A space behind a call. -/
def PXL (S : SpP) (w0 w w' : World) (m d n p : Nat) (O : List Nat) (x : Nat) (OX : List Nat) (a r : Int) (s : MS) : Prop :=
  ∃ O' OX', PX S w0 w' m d n p O' x OX' a r s ∧ Turn (d :: (O ++ OX)) w w' ∧ (∀ b, b ∈ O' → b ∈ O ∨ w.heap.size ≤ b) ∧ ∀ b, b ∈ OX' → b ∈ OX ∨ w.heap.size ≤ b

structure PmOk (S : SpP) (Z : World → Nat → List Nat → Prop) : Prop where
  lt : ∀ {w x m p a r N OX}, S w x m p a r N OX → ∀ b, b ∈ OX → b < w.heap.size
  kept : ∀ {w w' x m p a r N OX}, S w x m p a r N OX → w.heap.size ≤ w'.heap.size → (∀ b, b ∈ OX → w'.heap[b]? = w.heap[b]?) → S w' x m p a r N OX
  newNo : ∀ {w0 w m d n p O W xs}, PM w0 w m d n p O W xs → ∀ a k, okI a → takeF 0 xs 1 a 0 = ⟨0, k, xs⟩ → k ≠ 0 → Calls Try.prog 12 #[.pointer (some ⟨m, 0, none⟩), .pointer (some ⟨p, 0, none⟩), .int .i64 a] w fun e w' => e = .returned (.tuple #[.pointer none, .int .i64 k]) ∧ PML w0 w w' m d n p O W xs
  newOk : ∀ {w0 w m d n p O W xs}, PM w0 w m d n p O W xs → MOk n ⟨W, xs, 0⟩ noE → ∀ a (k : Nat) zs, okI a → k < n → takeF 0 xs 1 a 0 = ⟨k, 0, zs⟩ → Calls Try.prog 12 #[.pointer (some ⟨m, 0, none⟩), .pointer (some ⟨p, 0, none⟩), .int .i64 a] w fun e w' => ∃ x O' OX, e = .returned (.tuple #[.pointer (some ⟨x, 0, none⟩), .int .i64 0]) ∧ PX S w0 w' m d n p O' x OX a k ⟨zeroW W k, zs, 1⟩ ∧ Turn (d :: O) w w' ∧ (∀ b, b ∈ O' → b ∈ O ∨ w.heap.size ≤ b) ∧ ∀ b, b ∈ OX → w.heap.size ≤ b
  root : ∀ {w0 w m d n p O x OX a r s}, PX S w0 w m d n p O x OX a r s → Inv7 n s a r → Calls Try.prog 21 #[.pointer (some ⟨x, 0, none⟩)] w fun e w' => e = .returned (.int .i64 r) ∧ w.grownBy w' none
  tables : ∀ {w0 w m d n p O x OX a r s}, PX S w0 w m d n p O x OX a r s → Inv7 n s a r → Calls Try.prog 18 #[.pointer (some ⟨x, 0, none⟩)] w fun e w' => e = .returned (.int .i64 s.N) ∧ w.grownBy w' none
  find : ∀ {w0 w m d n p O x OX a r s}, PX S w0 w m d n p O x OX a r s → Inv7 n s a r → ∀ v, okI v → Calls Try.prog 22 #[.pointer (some ⟨x, 0, none⟩), .int .i64 v] w fun e w' => e = .returned (findV (leafE n s.W r v)) ∧ w.grownBy w' none
  enter : ∀ {w0 w m d n p O x OX a r s}, PX S w0 w m d n p O x OX a r s → Inv7 n s a r → ∀ v fr q, okI v → okI fr → okI q → Calls Try.prog 13 #[.pointer (some ⟨x, 0, none⟩), .int .i64 v, .int .i64 fr, .int .i64 q] w fun e w' => e = .returned (.int .i64 (enterM n a r v fr q s).1) ∧ PXL S w0 w w' m d n p O x OX a r (enterM n a r v fr q s).2
  remove : ∀ {w0 w m d n p O x OX a r s}, PX S w0 w m d n p O x OX a r s → Inv7 n s a r → ∀ v, okI v → Calls Try.prog 15 #[.pointer (some ⟨x, 0, none⟩), .int .i64 v] w fun e w' => e = .returned (.bool (removeM n r v s).1) ∧ PXL S w0 w w' m d n p O x OX a r (removeM n r v s).2
  protect : ∀ {w0 w m d n p O x OX a r s}, PX S w0 w m d n p O x OX a r s → Inv7 n s a r → ∀ v q, okI v → okI q → Calls Try.prog 27 #[.pointer (some ⟨x, 0, none⟩), .int .i64 v, .int .i64 q] w fun e w' => e = .returned (.bool (protectM n r v q s).1) ∧ PXL S w0 w w' m d n p O x OX a r (protectM n r v q s).2
  clear : ∀ {w0 w m d n p O x OX a r s}, PX S w0 w m d n p O x OX a r s → Inv7 n s a r → ∀ v k, okI v → okI k → Calls Try.prog 28 #[.pointer (some ⟨x, 0, none⟩), .int .i64 v, .int .i64 k] w fun e w' => e = .returned (.int .i64 (clearM n r v k s).1) ∧ PXL S w0 w w' m d n p O x OX a r (clearM n r v k s).2
  close : ∀ {w0 w m d n p O x OX a r s}, PX S w0 w m d n p O x OX a r s → Inv7 n s a r → Calls Try.prog 20 #[.pointer (some ⟨x, 0, none⟩)] w fun e w' => e = .returned (.int .i64 (closeM n r s).1) ∧ ∃ O' OX', PM w0 w' m d n p O' s.W (closeM n r s).2 ∧ Z w' x OX' ∧ (∀ b, b ∈ OX' → w0.heap.size ≤ b ∧ b ∉ m :: d :: O') ∧ Turn (d :: (O ++ OX)) w w' ∧ (∀ b, b ∈ O' → b ∈ O ∨ w.heap.size ≤ b) ∧ ∀ b, b ∈ OX' → b ∈ OX ∨ w.heap.size ≤ b
  zlt : ∀ {w x OX}, Z w x OX → ∀ b, b ∈ OX → b < w.heap.size
  zkept : ∀ {w w' x OX}, Z w x OX → w.heap.size ≤ w'.heap.size → (∀ b, b ∈ OX → w'.heap[b]? = w.heap[b]?) → Z w' x OX
  ztables : ∀ {w x OX}, Z w x OX → Calls Try.prog 18 #[.pointer (some ⟨x, 0, none⟩)] w fun e w' => e = .returned (.int .i64 0) ∧ w.grownBy w' none
  zroot : ∀ {w x OX}, Z w x OX → Calls Try.prog 21 #[.pointer (some ⟨x, 0, none⟩)] w fun e w' => e = .returned (.int .i64 (-1)) ∧ w.grownBy w' none

section
variable {S : SpP} {Z : World → Nat → List Nat → Prop} {w0 w w' w2 : World} {m d n p x : Nat} {O OX : List Nat} {a r : Int} {s t : MS} {W : WoF} {xs : List FrV}
theorem PM.lt (h : PM w0 w m d n p O W xs) : ∀ b, b ∈ m :: d :: O → b < w.heap.size := by
  obtain ⟨⟨M, h1, _⟩, h2, _⟩ := h
  intro b hb
  simp only [List.mem_cons] at hb
  rcases hb with rfl | rfl | hb
  · exact h1.mlt
  · exact h1.dlt
  · exact PP.lt h2 b hb
theorem PM.kept (h : PM w0 w m d n p O W xs) (hs : w.heap.size ≤ w'.heap.size) (hb : ∀ b, b ∈ m :: d :: O → w'.heap[b]? = w.heap[b]?) (hw : Below w0.heap.size w0 w') : PM w0 w' m d n p O W xs := by
  obtain ⟨⟨M, h1, h1b⟩, h2, h3, h4, h5, h6⟩ := h
  exact ⟨⟨M, ⟨⟨(hb m (by simp)).trans h1.mem.head, (hb d (by simp)).trans h1.mem.body, h1.mem.len, h1.mem.ne, h1.mem.pos, h1.mem.le⟩, hw, h1.dge, h1.mge⟩, h1b⟩, PP.kept h2 fun b hb2 => hb b (by simp [hb2]), h3, h4, h5, h6⟩
theorem PM.below (h : PM w0 w m d n p O W xs) : Below w0.heap.size w0 w := by
  obtain ⟨⟨M, h1, _⟩, _⟩ := h
  exact h1.below
theorem PM.dge (h : PM w0 w m d n p O W xs) : w0.heap.size ≤ d := by
  obtain ⟨⟨M, h1, _⟩, _⟩ := h
  exact h1.dge
theorem Turn.low {O : List Nat} (g : Turn O w w') (h : Below w0.heap.size w0 w) (ho : ∀ b, b ∈ O → w0.heap.size ≤ b) : Below w0.heap.size w0 w' :=
  ⟨g.os.trans h.os, g.tape.trans h.tape, g.output.trans h.output, Nat.le_trans h.size g.size, fun b hb => (g.block b (Nat.lt_of_lt_of_le hb h.size) fun hm => by have := ho b hm; omega).trans (h.block b hb)⟩
theorem PM.turn {O2 : List Nat} (h : PM w0 w m d n p O W xs) (g : Turn O2 w w') (ho : ∀ b, b ∈ m :: d :: O → b ∉ O2) (h0 : ∀ b, b ∈ O2 → w0.heap.size ≤ b) : PM w0 w' m d n p O W xs :=
  h.kept g.size (fun b hb => g.block b (h.lt b hb) (ho b hb)) (g.low h.below h0)
theorem PM.grow (h : PM w0 w m d n p O W xs) (g : w.grownBy w' none) : PM w0 w' m d n p O W xs := h.turn (O2 := []) (Turn.grown g) (fun _ _ hm => by cases hm) (fun _ hm => by cases hm)
theorem PX.turn (H : PmOk S Z) {O2 : List Nat} (h : PX S w0 w m d n p O x OX a r s) (g : Turn O2 w w') (ho : ∀ b, b ∈ m :: d :: (O ++ OX) → b ∉ O2) (h0 : ∀ b, b ∈ O2 → w0.heap.size ≤ b) : PX S w0 w' m d n p O x OX a r s :=
  ⟨h.pm.turn g (fun b hb => ho b (by simp only [List.mem_cons, List.mem_append] at hb ⊢; rcases hb with hb | hb | hb <;> simp [hb])) h0, H.kept h.sp g.size fun b hb => g.block b (H.lt h.sp b hb) (ho b (by simp [hb])), h.xge, h.apart⟩
theorem PX.grow (H : PmOk S Z) (h : PX S w0 w m d n p O x OX a r s) (g : w.grownBy w' none) : PX S w0 w' m d n p O x OX a r s := h.turn H (O2 := []) (Turn.grown g) (fun _ _ hm => by cases hm) (fun _ hm => by cases hm)
end

end Go.Proofs.Ytlieommbomjdaaa

namespace Go.Proofs.Ytlieommbomjdaaa
open Go.ChangeShapes Go.WideShapes Go.ChangeAt Go.RowKit Go.Deep
set_option linter.unusedVariables false

section
variable {S : SpP} {Z : World → Nat → List Nat → Prop} {w0 w w' w2 : World} {m d n p x : Nat} {O OX : List Nat} {a r : Int} {s t : MS} {W : WoF} {xs : List FrV} {M : List UInt8}

/-- frames.New beside a memory. -/
theorem pm_start (h : St w0 w m d n M) (h1 : 1 ≤ n) (h2 : n ≤ 256) (N : Int) (hN : N = n) :
    Calls Try.prog 11 #[.int .i64 N, .int .i64 0] w fun e w' => ∃ p O, e = .returned (.pointer (some ⟨p, 0, none⟩)) ∧ PM w0 w' m d n p O (wordI n M) (List.replicate n zeroF) ∧ w.grownBy w' none ∧ ∀ b, b ∈ O → w.heap.size ≤ b := by
  subst hN
  refine (fr_new_ok n 0 w h1 h2 (by omega) (by omega)).mono ?_
  rintro e w' ⟨r, g, c, rfl, h3, h4, h5⟩
  refine ⟨r, [r, g], rfl, ⟨⟨M, h.grow h4, fun f a l hf => ?_⟩, ⟨g, c, rfl, h3⟩, List.length_replicate, fun b hb => Nat.le_trans h.below.size (h5 b hb), fun b hb hm => ?_, fun f a hf => ?_⟩, h4, h5⟩
  · obtain ⟨_, _, hq⟩ := getF_some hf
    exact (tabF_ne (List.eq_of_mem_replicate (List.mem_of_getElem? hq))).elim
  · have := h5 b hb
    simp only [List.mem_cons, List.not_mem_nil, or_false] at hm
    have := h.mlt
    have := h.dlt
    rcases hm with rfl | rfl <;> omega
  · obtain ⟨_, _, hq⟩ := getF_some hf
    exact (tabF_ne (List.eq_of_mem_replicate (List.mem_of_getElem? hq))).elim

/-- The first space. -/
theorem pm_first (H : PmOk S Z) (h : PM w0 w m d n p O W (List.replicate n zeroF)) (h1 : 1 ≤ n) (h2 : n ≤ 256) (a : Int) (ha : okI a) :
    Calls Try.prog 12 #[.pointer (some ⟨m, 0, none⟩), .pointer (some ⟨p, 0, none⟩), .int .i64 a] w fun e w' => ∃ x O' OX r s, e = .returned (.tuple #[.pointer (some ⟨x, 0, none⟩), .int .i64 0]) ∧ PX S w0 w' m d n p O' x OX a r s ∧ Inv1 n s a r ∧ s.N = 1 ∧ (∀ u, ¬ Lv s r u) ∧ (∀ b, b ≠ a → cntF s.xs b = 0) := by
  obtain ⟨k, zs, hk, ht, hi, htot, hoth, hz⟩ := start7 n h1 h2 W a ha
  refine (H.newOk h (ok_free n h2 W 0) a k zs ha hk ht).mono ?_
  rintro e w' ⟨x, O', OX, rfl, q1, _, _, _⟩
  exact ⟨x, O', OX, k, _, rfl, q1, ⟨hi, htot⟩, rfl, start_no hz, hoth⟩
theorem PX.low (h : PX S w0 w m d n p O x OX a r s) : w0.grownBy w none := grown_of_below' h.pm.below

/-- A call that leaves a space: what is hidden of it. -/
def PXn (S : SpP) (w0 w : World) (m d n p x : Nat) (a r : Int) (s : MS) : Prop := ∃ O OX, PX S w0 w m d n p O x OX a r s
theorem PXL.hidn {O OX : List Nat} (h : PXL S w0 w w' m d n p O x OX a r s) : PXn S w0 w' m d n p x a r s := by
  obtain ⟨O', OX', h, _⟩ := h
  exact ⟨O', OX', h⟩
theorem PXn.low (h : PXn S w0 w m d n p x a r s) : w0.grownBy w none := by
  obtain ⟨O, OX, h⟩ := h
  exact h.low
theorem PXn.grow (H : PmOk S Z) (h : PXn S w0 w m d n p x a r s) (g : w.grownBy w' none) : PXn S w0 w' m d n p x a r s := by
  obtain ⟨O, OX, h⟩ := h
  exact ⟨O, OX, h.grow H g⟩
theorem PXn.tables (H : PmOk S Z) (h : PXn S w0 w m d n p x a r s) (hi : Inv7 n s a r) : Calls Try.prog 18 #[.pointer (some ⟨x, 0, none⟩)] w fun e w' => e = .returned (.int .i64 s.N) ∧ PXn S w0 w' m d n p x a r s := by
  obtain ⟨O, OX, h⟩ := h
  exact (H.tables h hi).mono fun e w' ⟨e1, g⟩ => ⟨e1, O, OX, h.grow H g⟩
theorem PXn.root (H : PmOk S Z) (h : PXn S w0 w m d n p x a r s) (hi : Inv7 n s a r) : Calls Try.prog 21 #[.pointer (some ⟨x, 0, none⟩)] w fun e w' => e = .returned (.int .i64 r) ∧ PXn S w0 w' m d n p x a r s := by
  obtain ⟨O, OX, h⟩ := h
  exact (H.root h hi).mono fun e w' ⟨e1, g⟩ => ⟨e1, O, OX, h.grow H g⟩
theorem PXn.find (H : PmOk S Z) (h : PXn S w0 w m d n p x a r s) (hi : Inv7 n s a r) (v : Int) (hv : okI v) : Calls Try.prog 22 #[.pointer (some ⟨x, 0, none⟩), .int .i64 v] w fun e w' => e = .returned (findV (leafE n s.W r v)) ∧ w.grownBy w' none ∧ PXn S w0 w' m d n p x a r s := by
  obtain ⟨O, OX, h⟩ := h
  exact (H.find h hi v hv).mono fun e w' ⟨e1, g⟩ => ⟨e1, g, O, OX, h.grow H g⟩
theorem PXn.enter (H : PmOk S Z) (h : PXn S w0 w m d n p x a r s) (hi : Inv7 n s a r) (v fr q : Int) (hv : okI v) (hf : okI fr) (hq : okI q) : Calls Try.prog 13 #[.pointer (some ⟨x, 0, none⟩), .int .i64 v, .int .i64 fr, .int .i64 q] w fun e w' => e = .returned (.int .i64 (enterM n a r v fr q s).1) ∧ PXn S w0 w' m d n p x a r (enterM n a r v fr q s).2 := by
  obtain ⟨O, OX, h⟩ := h
  exact (H.enter h hi v fr q hv hf hq).mono fun e w' ⟨e1, k⟩ => ⟨e1, PXL.hidn k⟩
theorem PXn.remove (H : PmOk S Z) (h : PXn S w0 w m d n p x a r s) (hi : Inv7 n s a r) (v : Int) (hv : okI v) : Calls Try.prog 15 #[.pointer (some ⟨x, 0, none⟩), .int .i64 v] w fun e w' => e = .returned (.bool (removeM n r v s).1) ∧ PXn S w0 w' m d n p x a r (removeM n r v s).2 := by
  obtain ⟨O, OX, h⟩ := h
  exact (H.remove h hi v hv).mono fun e w' ⟨e1, k⟩ => ⟨e1, PXL.hidn k⟩
theorem PXn.free (H : PmOk S Z) (h : PXn S w0 w m d n p x a r s) : Calls Try.prog 19 #[.pointer (some ⟨p, 0, none⟩)] w fun e w' => e = .returned (.int .i64 (countF s.xs 0)) ∧ PXn S w0 w' m d n p x a r s := by
  obtain ⟨O, OX, h⟩ := h
  obtain ⟨g, c, _, hp⟩ := h.pm.pool
  exact (fr_free hp).mono fun e w' ⟨e1, g⟩ => ⟨e1, O, OX, h.grow H g⟩
theorem PXn.count (H : PmOk S Z) (h : PXn S w0 w m d n p x a r s) (c : Int) : Calls Try.prog 29 #[.pointer (some ⟨p, 0, none⟩), .int .i64 c] w fun e w' => e = .returned (.int .i64 (countF s.xs c)) ∧ PXn S w0 w' m d n p x a r s := by
  obtain ⟨O, OX, h⟩ := h
  obtain ⟨g, c, _, hp⟩ := h.pm.pool
  exact (fr_count hp _).mono fun e w' ⟨e1, g⟩ => ⟨e1, O, OX, h.grow H g⟩
end

theorem ok_s7 {x : Int} (h0 : -1000 ≤ x) (h1 : x ≤ 1000) : okI x := ⟨by omega, by omega⟩

set_option maxRecDepth 100000 in
set_option maxHeartbeats 2000000 in
theorem lives7 {S : SpP} {Z : World → Nat → List Nat → Prop} (H : PmOk S Z) (w : World) : Calls Try.prog 9 #[] w fun e w' => e = .returned (.bool true) ∧ w.grownBy w' none := by
  have HH := Lib.hid H
  have HN := Lib.hid (newE w (Below.refl _ w) 12 12 rfl (by decide) (by decide))
  have hnoughts : ∃ M : List UInt8, List.replicate (12 * 4096) 0 = M := ⟨_, rfl⟩
  obtain ⟨M, hM⟩ := hnoughts
  rw [hM] at HN
  clear H hM
  go_enter Try.func9, Try.ntmps9
  go_wp2_with fail
  refine HN.out.mono ?_
  rintro e w1 ⟨rfl, h1, g1⟩
  have HP := Lib.hid (pm_start h1 (by decide) (by decide) 12 rfl)
  generalize w.heap.size + 1 = m at *
  generalize w.heap.size = d at *
  clear h1 g1 HN
  go_wp2_with fail
  refine HP.out.mono ?_
  rintro e w2 ⟨p, O, rfl, h2, -, -⟩
  have HF := Lib.hid (pm_first HH.out h2 (by decide) (by decide) 1 (ok_s7 (by decide) (by decide)))
  clear h2 HP
  go_wp2_with fail
  refine HF.out.mono ?_
  rintro e w3 ⟨x, O3, OX3, r, s, rfl, h3, hi, hN, hno, -⟩
  obtain ⟨s1, s2, s3, s4, e1, i1, n1, e2, i2, n2, e3, i3, e4, i4, n4⟩ := lives_model hi hN hno
  have H3 := Lib.hid (show PXn S w w3 m d 12 p x 1 r s from ⟨O3, OX3, h3⟩)
  have HT := Lib.hid (H3.out.tables HH.out hi.inv)
  rw [hN] at HT
  have HI := Lib.hid hi
  have HI1 := Lib.hid i1
  have HI2 := Lib.hid i2
  have HI3 := Lib.hid i3
  have HI4 := Lib.hid i4
  have HE1 := Lib.hid e1
  have HE2 := Lib.hid e2
  have HE3 := Lib.hid e3
  have HE4 := Lib.hid e4
  have HN1 := Lib.hid n1
  have HN2 := Lib.hid n2
  have HN4 := Lib.hid n4
  clear h3 hi hN hno e1 e2 e3 e4 i1 i2 i3 i4 n1 n2 n4 HF H3
  go_wp2_with fail
  refine HT.out.mono ?_
  rintro e w4 ⟨rfl, h4⟩
  have q := h4.enter HH.out HI.out.inv 5 9 1 (ok_s7 (by decide) (by decide)) (ok_s7 (by decide) (by decide)) (ok_s7 (by decide) (by decide))
  rw [HE1.out] at q
  have Q := Lib.hid q
  clear h4 q HT
  go_wp2_with fail
  refine Q.out.mono ?_
  rintro e w5 ⟨rfl, h5⟩
  have q := h5.tables HH.out HI1.out.inv
  rw [show (((0 : Int), s1) : Int × MS).2.N = 3 from HN1.out] at q
  replace Q := Lib.hid q
  clear h5 q
  go_wp2_with fail
  refine Q.out.mono ?_
  rintro e w6 ⟨rfl, h6⟩
  have q := h6.enter HH.out HI1.out.inv 6 9 1 (ok_s7 (by decide) (by decide)) (ok_s7 (by decide) (by decide)) (ok_s7 (by decide) (by decide))
  rw [HE2.out] at q
  replace Q := Lib.hid q
  clear h6 q
  go_wp2_with fail
  refine Q.out.mono ?_
  rintro e w7 ⟨rfl, h7⟩
  have q := h7.tables HH.out HI2.out.inv
  rw [show (((0 : Int), s2) : Int × MS).2.N = 3 from HN2.out] at q
  replace Q := Lib.hid q
  clear h7 q
  go_wp2_with fail
  refine Q.out.mono ?_
  rintro e w8 ⟨rfl, h8⟩
  have q := h8.remove HH.out HI2.out.inv 5 (ok_s7 (by decide) (by decide))
  rw [HE3.out] at q
  replace Q := Lib.hid q
  clear h8 q
  go_wp2_with fail
  refine Q.out.mono ?_
  rintro e w9 ⟨rfl, h9⟩
  have q := h9.remove HH.out HI3.out.inv 6 (ok_s7 (by decide) (by decide))
  rw [HE4.out] at q
  replace Q := Lib.hid q
  clear h9 q
  go_wp2_with fail
  refine Q.out.mono ?_
  rintro e w10 ⟨rfl, h10⟩
  have q := h10.tables HH.out HI4.out.inv
  rw [show ((true, s4) : Bool × MS).2.N = 1 from HN4.out] at q
  replace Q := Lib.hid q
  clear h10 q
  go_wp2_with fail
  refine Q.out.mono ?_
  rintro e w11 ⟨rfl, h11⟩
  have HL := Lib.hid h11.low
  clear h11
  go_wp2_with fail
  go_ret
  exact ⟨rfl, HL.out⟩
end Go.Proofs.Ytlieommbomjdaaa
