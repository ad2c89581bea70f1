/- Layer 7: spaces' tables, as plain functions of words and frames: what is so of them whatever was done. No program in it. Layer 7: what is done to a space, as plain functions of words and frames; what stays so. No program in it. Layer 7: Enter and Remove keep what is so of all spaces' tables, and turn nothing of another space. No program in it. Layer 7: which leaves there are behind Enter, Remove and what turns a leaf. No program in it. Layer 7: which leaves there are behind Enter, Remove, Protect and Clear, in all spaces. No program in it. Layer 7: how many tables there are. No program in it. Layer 7: Close: a space's tables are given back, and nothing else. No program in it. Layer 7: New, Protect, Clear; all spaces closed; words that nobody's table has do not matter. No program in it. Layer 7: what All tells: a space's leaves, rising. No program in it. Layer 7: a memory's bytes as words: stores, pages of noughts, places, leaves; pages with the same words are the same. -/
import Derived.Test.YtlieommbomjdaaaFB1
import Derived.Test.YtlieommbomjdaaaPteB1
import Derived.Test.YtlieommbomjdaaaWB2
namespace Go.Proofs.Ytlieommbomjdaaa
set_option linter.unusedVariables false

/-- A table's entry, by the frame below. -/
def entT (g : Int) : Int := g * 1024 + 1
/-- Frames, by their numbers; words, by frame and place. -/
abbrev FrF := Int → Option FrV
abbrev WoF := Int → Int → Int
def tabF (a l : Int) : FrV := ⟨1, a, l, 0, 0⟩
def Tab (F : FrF) (f a l : Int) : Prop := F f = some (tabF a l)
def okX (i : Int) : Prop := 0 ≤ i ∧ i < 512
instance (i : Int) : Decidable (okX i) := inferInstanceAs (Decidable (_ ∧ _))
def updW (W : WoF) (f i v : Int) : WoF := fun g j => if g = f ∧ j = i then v else W g j
def zeroW (W : WoF) (f : Int) : WoF := fun g j => if g = f then 0 else W g j
def updF (F : FrF) (f : Int) (x : FrV) : FrF := fun g => if g = f then some x else F g

theorem ent_ne (g : Int) : entT g ≠ 0 := by unfold entT; omega
theorem ent_inj {g h : Int} (e : entT g = entT h) : g = h := by unfold entT at e; omega
theorem kind_ent (g : Int) : kindOf (flagOf (entT g)) = 1 := by
  have : flagOf (entT g) = 1 := by unfold flagOf entT; omega
  rw [this]; decide
theorem kind_zero : kindOf (flagOf 0) = 0 := by decide
theorem tabF_inj {a l b m : Int} (e : tabF a l = tabF b m) : a = b ∧ l = m := by
  unfold tabF at e; injection e with _ h1 h2; exact ⟨h1, h2⟩
theorem tabF_ne {a l : Int} (e : tabF a l = zeroF) : False := by
  unfold tabF zeroF at e; injection e with h; exact absurd h (by decide)
theorem Tab.eq {F : FrF} {f a l b m : Int} (h : Tab F f a l) (h' : Tab F f b m) : a = b ∧ l = m := by
  unfold Tab at h h'; rw [h] at h'; injection h' with e; exact tabF_inj e
theorem Tab.notFree {F : FrF} {f a l : Int} (h : Tab F f a l) (h' : F f = some zeroF) : False := by
  unfold Tab at h; rw [h] at h'; injection h' with e; exact tabF_ne e

/-- What is so of all spaces' tables: a frame is free, or a table of level 2 - l of the space a. Tables in E may have nothing. -/
structure Tree (F : FrF) (W : WoF) (E : Int → Prop) : Prop where
  all : ∀ f x, F f = some x → x = zeroF ∨ ∃ a l, x = tabF a l ∧ 0 ≤ l ∧ l ≤ 2
  root : ∀ f g a, Tab F f a 0 → Tab F g a 0 → f = g
  down : ∀ f a l i, Tab F f a l → l < 2 → okX i → W f i = 0 ∨ ∃ g, W f i = entT g ∧ Tab F g a (l + 1)
  leaf : ∀ f a i, Tab F f a 2 → okX i → W f i = 0 ∨ kindOf (flagOf (W f i)) = 2
  up : ∀ g a l, Tab F g a l → 0 < l → ∃ f i, okX i ∧ Tab F f a (l - 1) ∧ W f i = entT g
  once : ∀ f f' i i' g a l, Tab F f a l → Tab F f' a l → l < 2 → okX i → okX i' → W f i = entT g → W f' i' = entT g → f = f' ∧ i = i'
  full : ∀ f a l, Tab F f a l → 0 < l → ¬ E f → ∃ i, okX i ∧ W f i ≠ 0

theorem Tree.weak {F : FrF} {W : WoF} {E E' : Int → Prop} (h : Tree F W E) (he : ∀ f a l, Tab F f a l → 0 < l → E f → E' f) : Tree F W E' :=
  ⟨h.all, h.root, h.down, h.leaf, h.up, h.once, fun f a l ht hl hn => h.full f a l ht hl fun e => hn (he f a l ht hl e)⟩
theorem Tree.lev {F : FrF} {W : WoF} {E : Int → Prop} (h : Tree F W E) {f a l : Int} (ht : Tab F f a l) : 0 ≤ l ∧ l ≤ 2 := by
  rcases h.all f _ ht with e | ⟨b, m, e, h0, h1⟩
  · exact (tabF_ne e).elim
  · have := (tabF_inj e).2; omega

theorem updF_self (F : FrF) (f : Int) (x : FrV) : updF F f x f = some x := by unfold updF; rw [if_pos rfl]
theorem updF_ne (F : FrF) {f g : Int} (x : FrV) (h : g ≠ f) : updF F f x g = F g := by unfold updF; rw [if_neg h]
theorem Tab.upd {F : FrF} {f g a l : Int} {x : FrV} (h : Tab F g a l) (hn : g ≠ f) : Tab (updF F f x) g a l := by
  unfold Tab; rw [updF_ne _ _ hn]; exact h
theorem Tab.of_upd {F : FrF} {f g a l : Int} {x : FrV} (h : Tab (updF F f x) g a l) : (g = f ∧ x = tabF a l) ∨ (g ≠ f ∧ Tab F g a l) := by
  by_cases e : g = f
  · subst e; unfold Tab at h; rw [updF_self] at h; injection h with h; exact Or.inl ⟨rfl, h⟩
  · unfold Tab at h; rw [updF_ne _ _ e] at h; exact Or.inr ⟨e, h⟩
theorem Tab.ne_free {F : FrF} {f g a l : Int} (h : Tab F f a l) (h' : F g = some zeroF) : f ≠ g := fun e => by subst e; exact h.notFree h'

/-- Nothing at all. -/
theorem tree_none (n : Nat) (W : WoF) (E : Int → Prop) (F : FrF) (hF : ∀ f x, F f = some x → x = zeroF) : Tree F W E := by
  have no : ∀ f a l, Tab F f a l → False := fun f a l h => tabF_ne (hF f _ h)
  exact ⟨fun f x h => Or.inl (hF f x h), fun f _ a h => (no f a 0 h).elim, fun f a l _ h => (no f a l h).elim, fun f a _ h => (no f a 2 h).elim, fun f a l h => (no f a l h).elim, fun f _ _ _ _ a l h => (no f a l h).elim, fun f a l h => (no f a l h).elim⟩

section
variable {F : FrF} {W : WoF} {E : Int → Prop}

/-- A new root. -/
theorem Tree.newRoot (h : Tree F W E) {f a : Int} (hf : F f = some zeroF) (ha : ∀ g, ¬ Tab F g a 0) : Tree (updF F f (tabF a 0)) (zeroW W f) E := by
  have wz : ∀ j, zeroW W f f j = 0 := fun j => if_pos rfl
  have wn : ∀ g j, g ≠ f → zeroW W f g j = W g j := fun g j e => if_neg e
  refine ⟨?_, ?_, ?_, ?_, ?_, ?_, ?_⟩
  · intro g x hg
    by_cases e : g = f
    · subst e; rw [updF_self] at hg; injection hg with hg; exact Or.inr ⟨a, 0, hg.symm, by omega, by omega⟩
    · rw [updF_ne _ _ e] at hg; exact h.all g x hg
  · intro g g' b hg hg'
    rcases hg.of_upd with ⟨e, e1⟩ | ⟨e, h1⟩ <;> rcases hg'.of_upd with ⟨e', e1'⟩ | ⟨e', h1'⟩
    · rw [e, e']
    · rw [← (tabF_inj e1).1] at h1'; exact (ha _ h1').elim
    · rw [← (tabF_inj e1').1] at h1; exact (ha _ h1).elim
    · exact h.root _ _ _ h1 h1'
  · intro g b l i hg hl hi
    rcases hg.of_upd with ⟨e, e1⟩ | ⟨e, h1⟩
    · subst e; exact Or.inl (wz i)
    · rw [wn _ _ e]
      rcases h.down g b l i h1 hl hi with e0 | ⟨g2, e2, h2⟩
      · exact Or.inl e0
      · exact Or.inr ⟨g2, e2, h2.upd (h2.ne_free hf)⟩
  · intro g b i hg hi
    rcases hg.of_upd with ⟨e, e1⟩ | ⟨e, h1⟩
    · subst e; exact Or.inl (wz i)
    · rw [wn _ _ e]; exact h.leaf g b i h1 hi
  · intro g b l hg hl
    rcases hg.of_upd with ⟨e, e1⟩ | ⟨e, h1⟩
    · have := (tabF_inj e1).2; omega
    · obtain ⟨p, i, hi, hp, hw⟩ := h.up g b l h1 hl
      have hne := hp.ne_free hf
      exact ⟨p, i, hi, hp.upd hne, by rw [wn _ _ hne]; exact hw⟩
  · intro p p' i i' g b l hp hp' hl hi hi' hw hw'
    rcases hp.of_upd with ⟨e, e1⟩ | ⟨e, h1⟩
    · subst e; rw [wz] at hw; exact (ent_ne g hw.symm).elim
    · rcases hp'.of_upd with ⟨e', e1'⟩ | ⟨e', h1'⟩
      · subst e'; rw [wz] at hw'; exact (ent_ne g hw'.symm).elim
      · rw [wn _ _ e] at hw; rw [wn _ _ e'] at hw'
        exact h.once p p' i i' g b l h1 h1' hl hi hi' hw hw'
  · intro g b l hg hl hn
    rcases hg.of_upd with ⟨e, e1⟩ | ⟨e, h1⟩
    · have := (tabF_inj e1).2; omega
    · obtain ⟨i, hi, hw⟩ := h.full g b l h1 hl hn
      exact ⟨i, hi, by rw [wn _ _ e]; exact hw⟩

/-- A new table below an entry that has nothing. -/
theorem Tree.grow (h : Tree F W E) {g f i a l : Int} (hg : F g = some zeroF) (hf : Tab F f a l) (hl : l < 2) (hi : okX i) (h0 : W f i = 0) :
    Tree (updF F g (tabF a (l + 1))) (updW (zeroW W g) f i (entT g)) fun x => x = g ∨ (E x ∧ x ≠ f) := by
  have hfg : f ≠ g := hf.ne_free hg
  have hl0 := (h.lev hf).1
  have wg : ∀ j, updW (zeroW W g) f i (entT g) g j = 0 := fun j => by
    unfold updW zeroW; rw [if_neg (fun e => hfg e.1.symm), if_pos rfl]
  have ws : updW (zeroW W g) f i (entT g) f i = entT g := if_pos ⟨rfl, rfl⟩
  have wn : ∀ p j, p ≠ g → ¬ (p = f ∧ j = i) → updW (zeroW W g) f i (entT g) p j = W p j := fun p j e e' => by
    unfold updW zeroW; rw [if_neg e', if_neg e]
  have noUp : ∀ p b m j, Tab F p b m → m < 2 → okX j → W p j ≠ entT g := fun p b m j hp hm hj e => by
    rcases h.down p b m j hp hm hj with e0 | ⟨g2, e2, h2⟩
    · rw [e0] at e; exact ent_ne g e.symm
    · rw [e2] at e; rw [ent_inj e] at h2; exact h2.notFree hg
  refine ⟨?_, ?_, ?_, ?_, ?_, ?_, ?_⟩
  · intro p x hp
    by_cases e : p = g
    · subst e; rw [updF_self] at hp; injection hp with hp; exact Or.inr ⟨a, l + 1, hp.symm, by omega, by omega⟩
    · rw [updF_ne _ _ e] at hp; exact h.all p x hp
  · intro p p' b hp hp'
    rcases hp.of_upd with ⟨e, e1⟩ | ⟨e, h1⟩
    · have := (tabF_inj e1).2; omega
    · rcases hp'.of_upd with ⟨e', e1'⟩ | ⟨e', h1'⟩
      · have := (tabF_inj e1').2; omega
      · exact h.root _ _ _ h1 h1'
  · intro p b m j hp hm hj
    rcases hp.of_upd with ⟨e, e1⟩ | ⟨e, h1⟩
    · subst e; exact Or.inl (wg j)
    · by_cases e2 : p = f ∧ j = i
      · obtain ⟨rfl, rfl⟩ := e2
        obtain ⟨rfl, rfl⟩ := h1.eq hf
        exact Or.inr ⟨g, ws, updF_self _ _ _⟩
      · rw [wn _ _ e e2]
        rcases h.down p b m j h1 hm hj with e0 | ⟨g2, e3, h2⟩
        · exact Or.inl e0
        · exact Or.inr ⟨g2, e3, h2.upd (h2.ne_free hg)⟩
  · intro p b j hp hj
    rcases hp.of_upd with ⟨e, e1⟩ | ⟨e, h1⟩
    · subst e; exact Or.inl (wg j)
    · have hpf : p ≠ f := fun e => by subst e; have := (h1.eq hf).2; omega
      rw [wn _ _ e fun e => hpf e.1]; exact h.leaf p b j h1 hj
  · intro p b m hp hm
    rcases hp.of_upd with ⟨e, e1⟩ | ⟨e, h1⟩
    · obtain ⟨rfl, rfl⟩ := tabF_inj e1
      subst e
      refine ⟨f, i, hi, ?_, ws⟩
      rw [show l + 1 - 1 = l by omega]; exact hf.upd hfg
    · obtain ⟨q, j, hj, hq, hw⟩ := h.up p b m h1 hm
      have hqg := hq.ne_free hg
      refine ⟨q, j, hj, hq.upd hqg, ?_⟩
      rw [wn _ _ hqg fun e => by obtain ⟨rfl, rfl⟩ := e; rw [h0] at hw; exact ent_ne p hw.symm]; exact hw
  · intro p p' j j' c b m hp hp' hm hj hj' hw hw'
    rcases hp.of_upd with ⟨e, e1⟩ | ⟨e, h1⟩
    · subst e; rw [wg] at hw; exact (ent_ne c hw.symm).elim
    · rcases hp'.of_upd with ⟨e', e1'⟩ | ⟨e', h1'⟩
      · subst e'; rw [wg] at hw'; exact (ent_ne c hw'.symm).elim
      · by_cases e2 : p = f ∧ j = i
        · by_cases e2' : p' = f ∧ j' = i
          · exact ⟨e2.1.trans e2'.1.symm, e2.2.trans e2'.2.symm⟩
          · rw [e2.1, e2.2, ws] at hw
            rw [wn _ _ e' e2', ← ent_inj hw] at hw'
            exact (noUp _ _ _ _ h1' hm hj' hw').elim
        · by_cases e2' : p' = f ∧ j' = i
          · rw [e2'.1, e2'.2, ws] at hw'
            rw [wn _ _ e e2, ← ent_inj hw'] at hw
            exact (noUp _ _ _ _ h1 hm hj hw).elim
          · rw [wn _ _ e e2] at hw; rw [wn _ _ e' e2'] at hw'
            exact h.once p p' j j' c b m h1 h1' hm hj hj' hw hw'
  · intro p b m hp hm hn
    rcases hp.of_upd with ⟨e, e1⟩ | ⟨e, h1⟩
    · exact (hn (Or.inl e)).elim
    · by_cases e2 : p = f
      · subst e2; exact ⟨i, hi, by rw [ws]; exact ent_ne g⟩
      · obtain ⟨j, hj, hw⟩ := h.full p b m h1 hm fun e3 => hn (Or.inr ⟨e3, e2⟩)
        exact ⟨j, hj, by rw [wn _ _ e fun e4 => e2 e4.1]; exact hw⟩

/-- A leaf's word stored: 0, or a leaf. -/
theorem Tree.setLeaf (h : Tree F W E) {f i a v : Int} (hf : Tab F f a 2) (hi : okX i) (hv : v = 0 ∨ kindOf (flagOf v) = 2) :
    Tree F (updW W f i v) fun x => (E x ∧ x ≠ f) ∨ (x = f ∧ v = 0) ∨ (x = f ∧ E f ∧ v = 0) := by
  have wn : ∀ p j, ¬ (p = f ∧ j = i) → updW W f i v p j = W p j := fun p j e => if_neg e
  have ws : updW W f i v f i = v := if_pos ⟨rfl, rfl⟩
  have nf : ∀ p b m, Tab F p b m → m < 2 → p ≠ f := fun p b m hp hm e => by subst e; have := (hp.eq hf).2; omega
  refine ⟨h.all, h.root, ?_, ?_, ?_, ?_, ?_⟩
  · intro p b m j hp hm hj
    rw [wn _ _ fun e => nf p b m hp hm e.1]; exact h.down p b m j hp hm hj
  · intro p b j hp hj
    by_cases e : p = f ∧ j = i
    · obtain ⟨rfl, rfl⟩ := e; rw [ws]; exact hv
    · rw [wn _ _ e]; exact h.leaf p b j hp hj
  · intro p b m hp hm
    obtain ⟨q, j, hj, hq, hw⟩ := h.up p b m hp hm
    have := (h.lev hp).2
    exact ⟨q, j, hj, hq, by rw [wn _ _ fun e => nf q b (m - 1) hq (by omega) e.1]; exact hw⟩
  · intro p p' j j' c b m hp hp' hm hj hj' hw hw'
    rw [wn _ _ fun e => nf p b m hp hm e.1] at hw
    rw [wn _ _ fun e => nf p' b m hp' hm e.1] at hw'
    exact h.once p p' j j' c b m hp hp' hm hj hj' hw hw'
  · intro p b m hp hm hn
    by_cases e : p = f
    · subst e
      by_cases e0 : v = 0
      · exact (hn (Or.inr (Or.inl ⟨rfl, e0⟩))).elim
      · exact ⟨i, hi, by rw [ws]; exact e0⟩
    · obtain ⟨j, hj, hw⟩ := h.full p b m hp hm fun e1 => hn (Or.inl ⟨e1, e⟩)
      exact ⟨j, hj, by rw [wn _ _ fun e1 => e e1.1]; exact hw⟩

/-- A table that has nothing is given back. -/
theorem Tree.shrink (h : Tree F W E) {g f i a l : Int} (hf : Tab F f a l) (hl : l < 2) (hi : okX i) (hw : W f i = entT g) (hg : Tab F g a (l + 1)) (h0 : ∀ j, okX j → W g j = 0) :
    Tree (updF F g zeroF) (updW W f i 0) fun x => E x ∨ x = f := by
  have hfg : f ≠ g := fun e => by subst e; have := (hf.eq hg).2; omega
  have wn : ∀ p j, ¬ (p = f ∧ j = i) → updW W f i 0 p j = W p j := fun p j e => if_neg e
  have ws : updW W f i 0 f i = 0 := if_pos ⟨rfl, rfl⟩
  have old : ∀ p b m, Tab (updF F g zeroF) p b m → p ≠ g ∧ Tab F p b m := fun p b m hp => by
    rcases hp.of_upd with ⟨e, e1⟩ | h1
    · exact (tabF_ne e1.symm).elim
    · exact h1
  refine ⟨?_, ?_, ?_, ?_, ?_, ?_, ?_⟩
  · intro p x hp
    by_cases e : p = g
    · subst e; rw [updF_self] at hp; injection hp with hp; exact Or.inl hp.symm
    · rw [updF_ne _ _ e] at hp; exact h.all p x hp
  · intro p p' b hp hp'; exact h.root _ _ _ (old _ _ _ hp).2 (old _ _ _ hp').2
  · intro p b m j hp hm hj
    obtain ⟨e, h1⟩ := old _ _ _ hp
    by_cases e2 : p = f ∧ j = i
    · obtain ⟨rfl, rfl⟩ := e2; exact Or.inl ws
    · rw [wn _ _ e2]
      rcases h.down p b m j h1 hm hj with e0 | ⟨c, e3, h2⟩
      · exact Or.inl e0
      · refine Or.inr ⟨c, e3, h2.upd fun e4 => ?_⟩
        subst e4
        obtain ⟨ea, el⟩ := h2.eq hg
        have el : m = l := by omega
        subst ea; subst el
        exact e2 (h.once p f j i c b m h1 hf hm hj hi e3 hw)
  · intro p b j hp hj
    obtain ⟨e, h1⟩ := old _ _ _ hp
    rw [wn _ _ fun e => by obtain ⟨rfl, rfl⟩ := e; have := (h1.eq hf).2; omega]
    exact h.leaf p b j h1 hj
  · intro p b m hp hm
    obtain ⟨e, h1⟩ := old _ _ _ hp
    obtain ⟨q, j, hj, hq, hw2⟩ := h.up p b m h1 hm
    have hqg : q ≠ g := fun e1 => by
      subst e1; rw [h0 j hj] at hw2; exact ent_ne p hw2.symm
    refine ⟨q, j, hj, hq.upd hqg, ?_⟩
    rw [wn _ _ fun e1 => by obtain ⟨rfl, rfl⟩ := e1; rw [hw] at hw2; exact e (ent_inj hw2).symm]; exact hw2
  · intro p p' j j' c b m hp hp' hm hj hj' hw2 hw2'
    obtain ⟨e, h1⟩ := old _ _ _ hp
    obtain ⟨e', h1'⟩ := old _ _ _ hp'
    have k : ¬ (p = f ∧ j = i) := fun e1 => by obtain ⟨rfl, rfl⟩ := e1; rw [ws] at hw2; exact ent_ne c hw2.symm
    have k' : ¬ (p' = f ∧ j' = i) := fun e1 => by obtain ⟨rfl, rfl⟩ := e1; rw [ws] at hw2'; exact ent_ne c hw2'.symm
    rw [wn _ _ k] at hw2; rw [wn _ _ k'] at hw2'
    exact h.once p p' j j' c b m h1 h1' hm hj hj' hw2 hw2'
  · intro p b m hp hm hn
    obtain ⟨e, h1⟩ := old _ _ _ hp
    obtain ⟨j, hj, hw2⟩ := h.full p b m h1 hm fun e1 => hn (Or.inl e1)
    exact ⟨j, hj, by rw [wn _ _ fun e1 => hn (Or.inr e1.1)]; exact hw2⟩
end
end Go.Proofs.Ytlieommbomjdaaa

namespace Go.Proofs.Ytlieommbomjdaaa
set_option linter.unusedVariables false

/-- The table below an entry. -/
def nxW (n : Nat) (W : WoF) (f i : Int) : Option Int := if kindOf (flagOf (W f i)) = 1 ∧ 0 ≤ ppnOf (W f i) ∧ ppnOf (W f i) < n then some (ppnOf (W f i)) else none
/-- Words, frames, and how many tables a space has. -/
structure MS where
  W : WoF
  xs : List FrV
  N : Int
def clearW (W : WoF) (g : Int) : Prop := ∀ j, okX j → W g j = 0
open Classical in
noncomputable def shrinkM (n : Nat) (s : MS) (f i : Int) : MS :=
  match nxW n s.W f i with
  | none => s
  | some g => if clearW s.W g then ⟨updW s.W f i 0, (giveF s.xs g).xs, s.N - 1⟩ else s
noncomputable def tidyM (n : Nat) (r v : Int) (s : MS) : MS :=
  match nxW n s.W r (indexOf v 2) with
  | none => s
  | some m => shrinkM n (shrinkM n s m (indexOf v 1)) r (indexOf v 2)
def growM (s : MS) (t : AnsF) (f i : Int) : MS := ⟨updW (zeroW s.W t.n) f i (entT t.n), t.xs, s.N + 1⟩
def leafM (s : MS) (f v x : Int) : MS := ⟨updW s.W f (indexOf v 0) x, s.xs, s.N⟩
noncomputable def enter2 (n : Nat) (a r v x : Int) (s : MS) (m : Int) : Int × MS :=
  match nxW n s.W m (indexOf v 1) with
  | some l => (0, leafM s l v x)
  | none => if (takeF 0 s.xs 1 a 2).e = 0 then (0, leafM (growM s (takeF 0 s.xs 1 a 2) m (indexOf v 1)) (takeF 0 s.xs 1 a 2).n v x) else ((takeF 0 s.xs 1 a 2).e, tidyM n r v s)
noncomputable def enter1 (n : Nat) (a r v x : Int) (s : MS) : Int × MS :=
  match nxW n s.W r (indexOf v 2) with
  | some m => enter2 n a r v x s m
  | none => if (takeF 0 s.xs 1 a 1).e = 0 then enter2 n a r v x (growM s (takeF 0 s.xs 1 a 1) r (indexOf v 2)) (takeF 0 s.xs 1 a 1).n else ((takeF 0 s.xs 1 a 1).e, s)
noncomputable def enterM (n : Nat) (a r v fr p : Int) (s : MS) : Int × MS :=
  if (0 ≤ v ∧ v < 67108864) ∧ (1 ≤ p ∧ p ≤ 7) ∧ (0 ≤ fr ∧ fr < n) then enter1 n a r v (encOf (flagsOf p true) fr) s else (2, s)
/-- The table in which a page's entry stands; its leaf. -/
def placeW (n : Nat) (W : WoF) (r v : Int) : Option Int := if (0 ≤ r ∧ r < n) ∧ 0 ≤ v ∧ v < 134217728 then (nxW n W r (indexOf v 2)).bind fun m => nxW n W m (indexOf v 1) else none
def leafW (n : Nat) (W : WoF) (r v : Int) : Option (Int × Int) := (placeW n W r v).bind fun f => if kindOf (flagOf (W f (indexOf v 0))) = 2 then some (f, W f (indexOf v 0)) else none
noncomputable def removeM (n : Nat) (r v : Int) (s : MS) : Bool × MS :=
  match leafW n s.W r v with
  | none => (false, s)
  | some (f, _) => (true, tidyM n r v (leafM s f v 0))

theorem getF_some {xs : List FrV} {f : Int} {x : FrV} (h : getF xs f = some x) : 0 ≤ f ∧ f < xs.length ∧ xs[f.toNat]? = some x := by
  unfold getF at h
  split at h
  · rename_i hc; exact ⟨hc.1, hc.2, h⟩
  · cases h
theorem getF_at {xs : List FrV} {k : Nat} {x : FrV} (h : xs[k]? = some x) : getF xs k = some x := by
  have := (List.getElem?_eq_some_iff.1 h).1
  unfold getF
  rw [if_pos (by omega), Int.toNat_natCast, h]
theorem getF_set {xs : List FrV} {k : Nat} (hk : k < xs.length) (y : FrV) : getF (xs.set k y) = updF (getF xs) k y := by
  funext g
  by_cases e : g = k
  · subst e; rw [updF_self]; exact getF_at (List.getElem?_set_self hk)
  · rw [updF_ne _ _ e]
    unfold getF
    rw [List.length_set]
    split
    · rw [List.getElem?_set_ne (by omega)]
    · rfl

/-- What stays so of a memory of n frames and all its spaces. -/
structure MOk (n : Nat) (s : MS) (E : Int → Prop) : Prop where
  tree : Tree (getF s.xs) s.W E
  len : s.xs.length = n
  le : n ≤ 256

section
variable {n : Nat} {s : MS} {E : Int → Prop} {a r v f i g l m : Int}
theorem nx_ent {W : WoF} (hn : n ≤ 256) (h : W f i = entT g) (hg : 0 ≤ g ∧ g < n) : nxW n W f i = some g := by
  have hp : ppnOf (entT g) = g := by unfold ppnOf entT; omega
  unfold nxW
  rw [h, hp, if_pos ⟨kind_ent g, hg⟩]
theorem nx_zero {W : WoF} (h : W f i = 0) : nxW n W f i = none := by
  unfold nxW
  rw [h, if_neg]
  intro hc
  have := hc.1
  rw [kind_zero] at this
  exact absurd this (by decide)
theorem MOk.lt (h : MOk n s E) {x : FrV} (hx : getF s.xs f = some x) : 0 ≤ f ∧ f < n := by
  have := getF_some hx
  have := h.len
  omega
theorem MOk.nx (h : MOk n s E) (hf : Tab (getF s.xs) f a l) (hl : l < 2) (hi : okX i) :
    (nxW n s.W f i = none ∧ s.W f i = 0) ∨ ∃ g, nxW n s.W f i = some g ∧ s.W f i = entT g ∧ Tab (getF s.xs) g a (l + 1) := by
  rcases h.tree.down f a l i hf hl hi with e | ⟨g, e, hg⟩
  · exact Or.inl ⟨nx_zero e, e⟩
  · exact Or.inr ⟨g, nx_ent h.le e (h.lt hg), e, hg⟩
theorem index_okX (v l : Int) : okX (indexOf v l) := by
  unfold indexOf okX
  repeat' split
  all_goals omega

/-- What may have turned: the frames of one space, and free ones. -/
def Only (a : Int) (s t : MS) : Prop := ∀ f, (∀ l, ¬ Tab (getF s.xs) f a l) → getF s.xs f ≠ some zeroF → getF t.xs f = getF s.xs f ∧ ∀ j, t.W f j = s.W f j
theorem Only.refl (a : Int) (s : MS) : Only a s s := fun _ _ _ => ⟨rfl, fun _ => rfl⟩
theorem Only.trans {s t u : MS} (h : Only a s t) (k : Only a t u) : Only a s u := fun f hf h0 => by
  obtain ⟨e, ew⟩ := h f hf h0
  obtain ⟨e2, ew2⟩ := k f (fun l hl => hf l (by unfold Tab at hl ⊢; rw [← e]; exact hl)) (by rw [e]; exact h0)
  exact ⟨e2.trans e, fun j => (ew2 j).trans (ew j)⟩

theorem MOk.take (h : MOk n s E) (a l : Int) :
    ((takeF 0 s.xs 1 a l).e = 5 ∧ (takeF 0 s.xs 1 a l).xs = s.xs ∧ ∀ f x, getF s.xs f = some x → x ≠ zeroF) ∨
    ∃ k : Nat, k < n ∧ (takeF 0 s.xs 1 a l) = ⟨k, 0, s.xs.set k (tabF a l)⟩ ∧ getF s.xs k = some zeroF := by
  have hc1 : isCls 1 := ⟨by decide, by decide⟩
  cases hk : freeAt s.xs with
  | none =>
    left
    have e : takeF 0 s.xs 1 a l = ⟨0, 5, s.xs⟩ := by
      unfold takeF
      rw [if_neg (fun h => h hc1), if_pos (Or.inl (count_free.2 hk))]
    rw [e]
    refine ⟨rfl, rfl, fun f x hx e0 => ?_⟩
    obtain ⟨_, _, hx⟩ := getF_some hx
    have := (List.findIdx?_eq_none_iff.1 hk) x (List.mem_of_getElem? hx)
    rw [e0] at this
    exact absurd this (by decide)
  | some k =>
    right
    have hfree : ¬ countF s.xs 0 = 0 := fun e => by rw [count_free.1 e] at hk; cases hk
    obtain ⟨hk1, hk2, _⟩ := List.findIdx?_eq_some_iff_getElem.1 hk
    have hx : getF s.xs k = some s.xs[k] := getF_at (List.getElem?_eq_getElem hk1)
    have hz : s.xs[k] = zeroF := by
      rcases h.tree.all k _ hx with e | ⟨b, m, e, _⟩
      · exact e
      · rw [e] at hk2; exact absurd hk2 (by simp [tabF])
    refine ⟨k, by have := h.len; omega, ?_, by rw [hx, hz]⟩
    unfold takeF
    rw [if_neg (fun h => h hc1), if_neg (fun hc => by
      rcases hc with e | ⟨e, _⟩
      · exact hfree e
      · exact e rfl), hk]
    rfl
theorem MOk.give (h : MOk n s E) (hg : Tab (getF s.xs) g a l) : giveF s.xs g = ⟨0, 0, s.xs.set g.toNat zeroF⟩ ∧ getF (s.xs.set g.toNat zeroF) = updF (getF s.xs) g zeroF := by
  obtain ⟨h0, h1, h2⟩ := getF_some hg
  obtain ⟨k, rfl⟩ := Int.eq_ofNat_of_zero_le h0
  rw [Int.toNat_natCast] at *
  exact ⟨atF_at h2 (by show (1 : Int) ≠ 0; decide), getF_set (by omega) _⟩

/-- A new table below an entry that has none. -/
theorem MOk.grow (h : MOk n s E) (hf : Tab (getF s.xs) f a l) (hl : l < 2) (hi : okX i) (h0 : s.W f i = 0) {k : Nat} (hk : k < n) (ht : takeF 0 s.xs 1 a (l + 1) = ⟨k, 0, s.xs.set k (tabF a (l + 1))⟩) (hz : getF s.xs k = some zeroF) :
    MOk n (growM s (takeF 0 s.xs 1 a (l + 1)) f i) (fun x => x = k ∨ (E x ∧ x ≠ f)) ∧ Only a s (growM s (takeF 0 s.xs 1 a (l + 1)) f i) ∧
      getF (growM s (takeF 0 s.xs 1 a (l + 1)) f i).xs = updF (getF s.xs) k (tabF a (l + 1)) ∧ (growM s (takeF 0 s.xs 1 a (l + 1)) f i).W = updW (zeroW s.W k) f i (entT k) := by
  rw [ht]
  have hF : getF (s.xs.set k (tabF a (l + 1))) = updF (getF s.xs) k (tabF a (l + 1)) := getF_set (by have := h.len; omega) _
  refine ⟨⟨?_, ?_, h.le⟩, ?_, hF, rfl⟩
  · show Tree (getF (s.xs.set k (tabF a (l + 1)))) _ _
    rw [hF]
    exact h.tree.grow hz hf hl hi h0
  · show (s.xs.set k _).length = n
    rw [List.length_set]; exact h.len
  · intro p hp hp0
    have hpk : p ≠ k := fun e => by subst e; exact hp0 hz
    have hpf : p ≠ f := fun e => by subst e; exact hp l hf
    refine ⟨?_, fun j => ?_⟩
    · show getF (s.xs.set k (tabF a (l + 1))) p = _
      rw [hF, updF_ne _ _ hpk]
    · show updW (zeroW s.W k) f i (entT k) p j = _
      unfold updW zeroW
      rw [if_neg (fun e => hpf e.1), if_neg hpk]

/-- A table that has nothing goes. -/
theorem MOk.shrink (h : MOk n s E) (hf : Tab (getF s.xs) f a l) (hl : l < 2) (hi : okX i) :
    MOk n (shrinkM n s f i) (fun x => (E x ∧ s.W f i ≠ entT x) ∨ (x = f ∧ 0 < l ∧ clearW (shrinkM n s f i).W f)) ∧ Only a s (shrinkM n s f i) ∧ Tab (getF (shrinkM n s f i).xs) f a l := by
  unfold shrinkM
  rcases h.nx hf hl hi with ⟨e, e0⟩ | ⟨g, e, e0, hg⟩
  · rw [e]
    refine ⟨⟨h.tree.weak fun p b m hp hm he => Or.inl ⟨he, fun e1 => ?_⟩, h.len, h.le⟩, Only.refl _ _, hf⟩
    rw [e0] at e1
    exact ent_ne p e1.symm
  · rw [e]
    simp only
    split
    · rename_i hc
      obtain ⟨h1, h2⟩ := h.give hg
      rw [h1]
      have hgf : f ≠ g := fun e1 => by subst e1; have := (hf.eq hg).2; omega
      refine ⟨⟨?_, ?_, h.le⟩, ?_, ?_⟩
      · show Tree (getF (s.xs.set g.toNat zeroF)) _ _
        rw [h2]
        have hT := h.tree.shrink hf hl hi e0 hg hc
        refine ⟨hT.all, hT.root, hT.down, hT.leaf, hT.up, hT.once, fun p b m hp hm hn => ?_⟩
        by_cases epf : p = f
        · subst epf
          by_cases hcl : clearW (updW s.W p i 0) p
          · have hml := (hp.eq (hf.upd hgf)).2
            exact (hn (Or.inr ⟨rfl, by omega, hcl⟩)).elim
          · exact Classical.byContradiction fun hno => hcl fun j hj => Classical.byContradiction fun hw => hno ⟨j, hj, hw⟩
        · refine hT.full p b m hp hm fun e1 => ?_
          rcases e1 with e1 | e1
          · refine hn (Or.inl ⟨e1, fun e2 => ?_⟩)
            rw [e0] at e2
            have := ent_inj e2
            subst this
            rcases hp.of_upd with ⟨_, e3⟩ | ⟨e3, _⟩
            · exact tabF_ne e3.symm
            · exact e3 rfl
          · exact epf e1
      · show (s.xs.set _ _).length = n
        rw [List.length_set]; exact h.len
      · intro p hp hp0
        have hpg : p ≠ g := fun e1 => by subst e1; exact hp _ hg
        have hpf : p ≠ f := fun e1 => by subst e1; exact hp _ hf
        refine ⟨?_, fun j => ?_⟩
        · show getF (s.xs.set g.toNat zeroF) p = _
          rw [h2, updF_ne _ _ hpg]
        · exact if_neg fun e1 => hpf e1.1
      · show getF (s.xs.set g.toNat zeroF) f = _
        rw [h2, updF_ne _ _ hgf]; exact hf
    · rename_i hc
      refine ⟨⟨?_, h.len, h.le⟩, Only.refl _ _, hf⟩
      have hT := h.tree
      refine ⟨hT.all, hT.root, hT.down, hT.leaf, hT.up, hT.once, fun p b m hp hm hn => ?_⟩
      by_cases epg : p = g
      · subst epg
        exact Classical.byContradiction fun hno => hc fun j hj => Classical.byContradiction fun hw => hno ⟨j, hj, hw⟩
      · exact hT.full p b m hp hm fun e1 => hn (Or.inl ⟨e1, fun e2 => epg (ent_inj (e0.symm.trans e2)).symm⟩)
end
end Go.Proofs.Ytlieommbomjdaaa

namespace Go.Proofs.Ytlieommbomjdaaa
set_option linter.unusedVariables false

/-- Nothing is left half done: no table but a root has nothing. -/
def noE : Int → Prop := fun _ => False
section
variable {n : Nat} {s : MS} {E : Int → Prop} {a r v f i g l m x : Int}
theorem shrink_word (p j : Int) (h : p ≠ f) : (shrinkM n s f i).W p j = s.W p j := by
  unfold shrinkM
  cases nxW n s.W f i with
  | none => rfl
  | some g =>
    simp only
    split
    · exact if_neg fun e => h e.1
    · rfl
theorem MOk.weak {E' : Int → Prop} (h : MOk n s E) (he : ∀ f a l, Tab (getF s.xs) f a l → 0 < l → E f → E' f) : MOk n s E' := ⟨h.tree.weak he, h.len, h.le⟩

theorem MOk.shrink_old (h : MOk n s E) (hf : Tab (getF s.xs) f a l) (hl : l < 2) (hi : okX i) {p b m : Int} (hp : Tab (getF (shrinkM n s f i).xs) p b m) : Tab (getF s.xs) p b m := by
  unfold shrinkM at hp
  rcases h.nx hf hl hi with ⟨e, e0⟩ | ⟨g, e, e0, hg⟩
  · rw [e] at hp; exact hp
  · rw [e] at hp
    simp only at hp
    split at hp
    · rw [(h.give hg).1] at hp
      have hp : Tab (getF (s.xs.set g.toNat zeroF)) p b m := hp
      rw [(h.give hg).2] at hp
      rcases hp.of_upd with ⟨_, e3⟩ | ⟨_, e3⟩
      · exact (tabF_ne e3.symm).elim
      · exact e3
    · exact hp
/-- A leaf's word stored. -/
theorem MOk.leaf (h : MOk n s E) (hf : Tab (getF s.xs) f a 2) (hx : x = 0 ∨ kindOf (flagOf x) = 2) :
    MOk n (leafM s f v x) (fun y => (E y ∧ y ≠ f) ∨ (y = f ∧ x = 0)) ∧ Only a s (leafM s f v x) := by
  refine ⟨⟨(h.tree.setLeaf hf (index_okX v 0) hx).weak fun p b m hp hm he => ?_, h.len, h.le⟩, fun p hp hp0 => ⟨rfl, fun j => if_neg fun e => by obtain ⟨e, _⟩ := e; subst e; exact hp _ hf⟩⟩
  rcases he with he | he | ⟨e1, _, e2⟩
  · exact Or.inl he
  · exact Or.inr he
  · exact Or.inr ⟨e1, e2⟩

/-- What tidy leaves. -/
theorem MOk.tidy (h : MOk n s E) (hr : Tab (getF s.xs) r a 0)
    (hE : ∀ x b l, Tab (getF s.xs) x b l → 0 < l → E x → ∃ m, s.W r (indexOf v 2) = entT m ∧ (x = m ∨ s.W m (indexOf v 1) = entT x)) :
    MOk n (tidyM n r v s) noE ∧ Only a s (tidyM n r v s) ∧ Tab (getF (tidyM n r v s).xs) r a 0 := by
  unfold tidyM
  rcases h.nx hr (by decide) (index_okX v 2) with ⟨e, e0⟩ | ⟨m, e, e0, hm⟩
  · rw [e]
    refine ⟨h.weak fun x b l hx hl he => ?_, Only.refl _ _, hr⟩
    obtain ⟨m, e1, _⟩ := hE x b l hx hl he
    rw [e0] at e1
    exact (ent_ne m e1.symm).elim
  · rw [e]
    simp only
    have hrm : r ≠ m := fun e1 => by subst e1; have := (hr.eq hm).2; omega
    obtain ⟨k1, k2, k3⟩ := h.shrink hm (by decide) (index_okX v 1)
    have hr2 : Tab (getF (shrinkM n s m (indexOf v 1)).xs) r a 0 := by
      unfold shrinkM
      rcases h.nx hm (by decide) (index_okX v 1) with ⟨e3, _⟩ | ⟨g, e3, _, hg⟩
      · rw [e3]; exact hr
      · rw [e3]
        simp only
        split
        · rw [(h.give hg).1]
          show Tab (getF (s.xs.set g.toNat zeroF)) r a 0
          rw [(h.give hg).2]
          exact hr.upd fun e4 => by subst e4; have := (hr.eq hg).2; omega
        · exact hr
    obtain ⟨q1, q2, q3⟩ := k1.shrink hr2 (by decide) (index_okX v 2)
    refine ⟨q1.weak fun x b l hx hl he => ?_, k2.trans q2, q3⟩
    rw [shrink_word r (indexOf v 2) hrm] at he
    rcases he with ⟨he, e4⟩ | ⟨_, he, _⟩
    · rcases he with ⟨he, e5⟩ | ⟨e5, _⟩
      · by_cases hold : Tab (getF s.xs) x b l
        · obtain ⟨m', e6, e7⟩ := hE x b l hold hl he
          rw [e0] at e6
          have := ent_inj e6
          subst this
          rcases e7 with e7 | e7
          · subst e7; exact e4 e0
          · exact e5 e7
        · exact hold (h.shrink_old hm (by decide) (index_okX v 1) (k1.shrink_old hr2 (by decide) (index_okX v 2) hx))
      · subst e5; exact e4 e0
    · exact absurd he (by omega)

/-- The second half of Enter: from a table of level 1, which may be new. -/
theorem MOk.enter2_ok (h : MOk n s E) (hr : Tab (getF s.xs) r a 0) (hm : Tab (getF s.xs) m a 1) (hw : s.W r (indexOf v 2) = entT m) (hE : ∀ x b l, Tab (getF s.xs) x b l → 0 < l → E x → x = m) (hx : kindOf (flagOf x) = 2) :
    MOk n (enter2 n a r v x s m).2 noE ∧ Only a s (enter2 n a r v x s m).2 ∧ Tab (getF (enter2 n a r v x s m).2.xs) r a 0 := by
  have hx0 : x ≠ 0 := fun e => by subst e; rw [kind_zero] at hx; exact absurd hx (by decide)
  have hrm : r ≠ m := fun e1 => by subst e1; have := (hr.eq hm).2; omega
  unfold enter2
  rcases h.nx hm (by decide) (index_okX v 1) with ⟨e, e0⟩ | ⟨g, e, e0, hg⟩
  · rw [e]
    simp only
    split
    · rename_i ht
      rcases h.take a 2 with ⟨e1, _⟩ | ⟨k, hk, e1, hz⟩
      · rw [e1] at ht; exact absurd ht (by decide)
      · obtain ⟨q1, q2, q3, q4⟩ := h.grow hm (by decide) (index_okX v 1) e0 hk e1 hz
        have q1 : MOk n (growM s (takeF 0 s.xs 1 a 2) m (indexOf v 1)) (fun x => x = k ∨ (E x ∧ x ≠ m)) := q1
        have q2 : Only a s (growM s (takeF 0 s.xs 1 a 2) m (indexOf v 1)) := q2
        have q3 : getF (growM s (takeF 0 s.xs 1 a 2) m (indexOf v 1)).xs = updF (getF s.xs) k (tabF a 2) := q3
        have en : (takeF 0 s.xs 1 a 2).n = k := by rw [show takeF 0 s.xs 1 a 2 = _ from e1]
        have hkt : Tab (getF (growM s (takeF 0 s.xs 1 a 2) m (indexOf v 1)).xs) k a 2 := by rw [q3]; exact updF_self _ _ _
        rw [en]
        obtain ⟨p1, p2⟩ := q1.leaf (v := v) hkt (Or.inr hx)
        refine ⟨p1.weak fun y b l hy hl he => ?_, q2.trans p2, ?_⟩
        · rcases he with ⟨he | ⟨he, he2⟩, he1⟩ | ⟨_, he⟩
          · exact he1 he
          · have hy : Tab (getF (growM s (takeF 0 s.xs 1 a 2) m (indexOf v 1)).xs) y b l := hy
            rw [q3] at hy
            rcases hy.of_upd with ⟨e3, _⟩ | ⟨_, hy⟩
            · exact he1 e3
            · exact he2 (hE y b l hy hl he)
          · exact hx0 he
        · show Tab (getF (growM s (takeF 0 s.xs 1 a 2) m (indexOf v 1)).xs) r a 0
          rw [q3]
          exact hr.upd fun e => by subst e; exact hr.notFree hz
    · exact h.tidy hr fun y b l hy hl he => ⟨m, hw, Or.inl (hE y b l hy hl he)⟩
  · rw [e]
    simp only
    obtain ⟨p1, p2⟩ := h.leaf (v := v) hg (Or.inr hx)
    refine ⟨?_, p2, hr⟩
    have hT := p1.tree
    refine ⟨⟨hT.all, hT.root, hT.down, hT.leaf, hT.up, hT.once, fun p b l hp hl _ => ?_⟩, h.len, h.le⟩
    by_cases epm : p = m
    · subst epm
      have hpg : p ≠ g := fun e1 => by subst e1; have := (hm.eq hg).2; omega
      refine ⟨indexOf v 1, index_okX v 1, ?_⟩
      show updW s.W g (indexOf v 0) x p (indexOf v 1) ≠ 0
      unfold updW
      rw [if_neg (fun e1 => hpg e1.1), e0]
      exact ent_ne g
    · refine hT.full p b l hp hl fun he => ?_
      rcases he with ⟨he, _⟩ | ⟨_, he⟩
      · exact epm (hE p b l hp hl he)
      · exact hx0 he

/-- Enter keeps what is so, and turns nothing of another space. -/
theorem MOk.enter1_ok (h : MOk n s noE) (hr : Tab (getF s.xs) r a 0) (hx : kindOf (flagOf x) = 2) :
    MOk n (enter1 n a r v x s).2 noE ∧ Only a s (enter1 n a r v x s).2 ∧ Tab (getF (enter1 n a r v x s).2.xs) r a 0 := by
  unfold enter1
  rcases h.nx hr (by decide) (index_okX v 2) with ⟨e, e0⟩ | ⟨m, e, e0, hm⟩
  · rw [e]
    simp only
    split
    · rename_i ht
      rcases h.take a 1 with ⟨e1, _⟩ | ⟨k, hk, e1, hz⟩
      · rw [e1] at ht; exact absurd ht (by decide)
      · obtain ⟨q1, q2, q3, q4⟩ := h.grow hr (by decide) (index_okX v 2) e0 hk e1 hz
        have q1 : MOk n (growM s (takeF 0 s.xs 1 a 1) r (indexOf v 2)) (fun x => x = k ∨ (noE x ∧ x ≠ r)) := q1
        have q2 : Only a s (growM s (takeF 0 s.xs 1 a 1) r (indexOf v 2)) := q2
        have q3 : getF (growM s (takeF 0 s.xs 1 a 1) r (indexOf v 2)).xs = updF (getF s.xs) k (tabF a 1) := q3
        have q4 : (growM s (takeF 0 s.xs 1 a 1) r (indexOf v 2)).W = updW (zeroW s.W k) r (indexOf v 2) (entT k) := q4
        have en : (takeF 0 s.xs 1 a 1).n = k := by rw [show takeF 0 s.xs 1 a 1 = _ from e1]
        rw [en]
        have hrk : r ≠ k := fun e => by subst e; exact hr.notFree hz
        obtain ⟨p1, p2, p3⟩ := q1.enter2_ok (v := v) (x := x) (r := r) (m := k) (a := a) (by rw [q3]; exact hr.upd hrk) (by rw [q3]; exact updF_self _ _ _) (by rw [q4]; exact if_pos ⟨rfl, rfl⟩) (fun y b l _ _ he => by
          rcases he with he | ⟨he, _⟩
          · exact he
          · exact he.elim) hx
        exact ⟨p1, q2.trans p2, p3⟩
    · exact ⟨h, Only.refl _ _, hr⟩
  · rw [e]
    simp only
    exact h.enter2_ok hr hm e0 (fun y b l _ _ he => he.elim) hx

theorem kind_flags (p fr : Int) (hp : 1 ≤ p ∧ p ≤ 7) : kindOf (flagOf (encOf (flagsOf p true) fr)) = 2 := by
  have e : flagOf (encOf (flagsOf p true) fr) = flagsOf p true % 256 := by unfold flagOf encOf; omega
  rw [e]
  rcases (show p = 1 ∨ p = 2 ∨ p = 3 ∨ p = 4 ∨ p = 5 ∨ p = 6 ∨ p = 7 by omega) with rfl | rfl | rfl | rfl | rfl | rfl | rfl <;> decide
theorem MOk.enterM_ok (h : MOk n s noE) (hr : Tab (getF s.xs) r a 0) (fr p : Int) :
    MOk n (enterM n a r v fr p s).2 noE ∧ Only a s (enterM n a r v fr p s).2 ∧ Tab (getF (enterM n a r v fr p s).2.xs) r a 0 := by
  unfold enterM
  split
  · rename_i hc
    exact h.enter1_ok hr (kind_flags p fr hc.2.1)
  · exact ⟨h, Only.refl _ _, hr⟩

/-- Where a page's entry stands. -/
theorem MOk.place (h : MOk n s E) (hr : Tab (getF s.xs) r a 0) (hp : placeW n s.W r v = some f) :
    ∃ m, s.W r (indexOf v 2) = entT m ∧ Tab (getF s.xs) m a 1 ∧ s.W m (indexOf v 1) = entT f ∧ Tab (getF s.xs) f a 2 := by
  unfold placeW at hp
  split at hp
  · rcases h.nx hr (by decide) (index_okX v 2) with ⟨e, e0⟩ | ⟨m, e, e0, hm⟩
    · rw [e] at hp; cases hp
    · rw [e] at hp
      have hp : nxW n s.W m (indexOf v 1) = some f := hp
      rcases h.nx hm (by decide) (index_okX v 1) with ⟨e1, _⟩ | ⟨g, e1, e2, hg⟩
      · rw [e1] at hp; cases hp
      · rw [e1] at hp
        injection hp with hp
        subst hp
        exact ⟨m, e0, hm, e2, hg⟩
  · cases hp
theorem leaf_place {W : WoF} {y : Int} (hl : leafW n W r v = some (f, y)) : placeW n W r v = some f ∧ y = W f (indexOf v 0) ∧ kindOf (flagOf y) = 2 := by
  unfold leafW at hl
  cases hp : placeW n W r v with
  | none => rw [hp] at hl; cases hl
  | some g =>
    rw [hp] at hl
    have hl : (if kindOf (flagOf (W g (indexOf v 0))) = 2 then some (g, W g (indexOf v 0)) else none) = some (f, y) := hl
    split at hl
    · rename_i hk
      injection hl with hl
      injection hl with h1 h2
      subst h1
      subst h2
      exact ⟨rfl, rfl, hk⟩
    · cases hl
/-- Remove keeps what is so. -/
theorem MOk.removeM_ok (h : MOk n s noE) (hr : Tab (getF s.xs) r a 0) :
    MOk n (removeM n r v s).2 noE ∧ Only a s (removeM n r v s).2 ∧ Tab (getF (removeM n r v s).2.xs) r a 0 := by
  unfold removeM
  cases hl : leafW n s.W r v with
  | none => exact ⟨h, Only.refl _ _, hr⟩
  | some y =>
    obtain ⟨f, y⟩ := y
    simp only
    obtain ⟨hp, _, _⟩ := leaf_place hl
    obtain ⟨m, e0, hm, e1, hf⟩ := h.place hr hp
    obtain ⟨p1, p2⟩ := h.leaf (v := v) hf (Or.inl rfl)
    have hrf : r ≠ f := fun e => by subst e; have := (hr.eq hf).2; omega
    have hmf : m ≠ f := fun e => by subst e; have := (hm.eq hf).2; omega
    obtain ⟨q1, q2, q3⟩ := p1.tidy (v := v) (r := r) (a := a) hr fun y b l _ _ he => by
      refine ⟨m, ?_, Or.inr ?_⟩
      · show updW s.W f (indexOf v 0) 0 r (indexOf v 2) = _
        unfold updW
        rw [if_neg (fun e => hrf e.1)]; exact e0
      · rcases he with ⟨he, _⟩ | ⟨he, _⟩
        · exact he.elim
        · subst he
          show updW s.W y (indexOf v 0) 0 m (indexOf v 1) = _
          unfold updW
          rw [if_neg (fun e => hmf e.1)]; exact e1
    exact ⟨q1, p2.trans q2, q3⟩
/-- A leaf's word turned into another leaf. -/
theorem MOk.turn (h : MOk n s noE) (hr : Tab (getF s.xs) r a 0) {y : Int} (hl : leafW n s.W r v = some (f, y)) (hx : kindOf (flagOf x) = 2) :
    MOk n (leafM s f v x) noE ∧ Only a s (leafM s f v x) ∧ Tab (getF (leafM s f v x).xs) r a 0 := by
  obtain ⟨hp, _, _⟩ := leaf_place hl
  obtain ⟨m, e0, hm, e1, hf⟩ := h.place hr hp
  obtain ⟨p1, p2⟩ := h.leaf (v := v) hf (Or.inr hx)
  refine ⟨p1.weak fun y b l _ _ he => ?_, p2, hr⟩
  rcases he with ⟨he, _⟩ | ⟨_, he⟩
  · exact he
  · subst he; rw [kind_zero] at hx; exact absurd hx (by decide)
end
end Go.Proofs.Ytlieommbomjdaaa

namespace Go.Proofs.Ytlieommbomjdaaa
set_option linter.unusedVariables false

/-- A page's leaf, in the table f. -/
def LeafAt (W : WoF) (r u f y : Int) : Prop := ∃ m, W r (indexOf u 2) = entT m ∧ W m (indexOf u 1) = entT f ∧ W f (indexOf u 0) = y ∧ kindOf (flagOf y) = 2
def Has (W : WoF) (r u y : Int) : Prop := ∃ f, LeafAt W r u f y
def okV (u : Int) : Prop := 0 ≤ u ∧ u < 134217728
theorem okV_eq {u v : Int} (hu : okV u) (hv : okV v) (h2 : indexOf u 2 = indexOf v 2) (h1 : indexOf u 1 = indexOf v 1) (h0 : indexOf u 0 = indexOf v 0) : u = v := by
  have e2 : ∀ x, indexOf x 2 = x / 262144 % 512 := fun _ => rfl
  have e1 : ∀ x, indexOf x 1 = x / 512 % 512 := fun _ => rfl
  have e0 : ∀ x, indexOf x 0 = x % 512 := fun _ => rfl
  rw [e2, e2] at h2
  rw [e1, e1] at h1
  rw [e0, e0] at h0
  obtain ⟨a, b⟩ := hu
  obtain ⟨c, d⟩ := hv
  omega

section
variable {n : Nat} {s : MS} {E : Int → Prop} {a b r r' u v f g i l m x y : Int}
theorem MOk.ent (h : MOk n s E) (hf : Tab (getF s.xs) f a l) (hl : l < 2) (hi : okX i) (hw : s.W f i = entT g) : Tab (getF s.xs) g a (l + 1) := by
  rcases h.tree.down f a l i hf hl hi with e | ⟨c, e, hc⟩
  · rw [hw] at e; exact (ent_ne g e).elim
  · rw [hw] at e; rw [ent_inj e]; exact hc
theorem MOk.way (h : MOk n s E) (hr : Tab (getF s.xs) r a 0) (h2 : s.W r (indexOf u 2) = entT m) (h1 : s.W m (indexOf u 1) = entT f) : Tab (getF s.xs) m a 1 ∧ Tab (getF s.xs) f a 2 := by
  have hm := h.ent hr (by decide) (index_okX u 2) h2
  exact ⟨hm, h.ent hm (by decide) (index_okX u 1) h1⟩
theorem MOk.leaf_iff (h : MOk n s E) (hr : Tab (getF s.xs) r a 0) : leafW n s.W r u = some (f, y) ↔ okV u ∧ LeafAt s.W r u f y := by
  constructor
  · intro hl
    obtain ⟨hp, hy, hk⟩ := leaf_place hl
    obtain ⟨m, e0, hm, e1, hf⟩ := h.place hr hp
    refine ⟨?_, m, e0, e1, hy.symm, hk⟩
    unfold placeW at hp
    split at hp
    · rename_i hc; exact hc.2
    · cases hp
  · rintro ⟨hu, m, e0, e1, e2, hk⟩
    obtain ⟨hm, hf⟩ := h.way hr e0 e1
    have hp : placeW n s.W r u = some f := by
      unfold placeW
      rw [if_pos ⟨h.lt hr, hu⟩, nx_ent h.le e0 (h.lt hm)]
      exact nx_ent h.le e1 (h.lt hf)
    unfold leafW
    rw [hp]
    show (if kindOf (flagOf (s.W f (indexOf u 0))) = 2 then some (f, s.W f (indexOf u 0)) else none) = some (f, y)
    rw [e2, if_pos hk]

/-- A new table has no leaf, and hides none. -/
theorem MOk.grow_has (h : MOk n s E) (hf : Tab (getF s.xs) f a l) (hl : l < 2) (h0 : s.W f i = 0) (hz : getF s.xs g = some zeroF) (hr : Tab (getF s.xs) r b 0) :
    Has (updW (zeroW s.W g) f i (entT g)) r u y ↔ Has s.W r u y := by
  have hfg : f ≠ g := hf.ne_free hz
  have wg : ∀ j, updW (zeroW s.W g) f i (entT g) g j = 0 := fun j => by
    unfold updW zeroW; rw [if_neg (fun e => hfg e.1.symm), if_pos rfl]
  have ws : updW (zeroW s.W g) f i (entT g) f i = entT g := if_pos ⟨rfl, rfl⟩
  have wn : ∀ p j, p ≠ g → ¬ (p = f ∧ j = i) → updW (zeroW s.W g) f i (entT g) p j = s.W p j := fun p j e e' => by
    unfold updW zeroW; rw [if_neg e', if_neg e]
  have hrg := hr.ne_free hz
  constructor
  · rintro ⟨p, m, e2, e1, e0, hk⟩
    by_cases c2 : r = f ∧ indexOf u 2 = i
    · rw [c2.1, c2.2, ws] at e2
      have := ent_inj e2
      subst this
      rw [wg] at e1
      exact (ent_ne p e1.symm).elim
    · rw [wn _ _ hrg c2] at e2
      have hm := h.ent hr (by decide) (index_okX u 2) e2
      by_cases c1 : m = f ∧ indexOf u 1 = i
      · rw [c1.1, c1.2, ws] at e1
        have := ent_inj e1
        subst this
        rw [wg] at e0
        subst e0
        rw [kind_zero] at hk
        exact absurd hk (by decide)
      · rw [wn _ _ (hm.ne_free hz) c1] at e1
        obtain ⟨_, hp⟩ := h.way hr e2 e1
        rw [wn _ _ (hp.ne_free hz) fun e => by obtain ⟨e, _⟩ := e; subst e; have := (hp.eq hf).2; omega] at e0
        exact ⟨p, m, e2, e1, e0, hk⟩
  · rintro ⟨p, m, e2, e1, e0, hk⟩
    obtain ⟨hm, hp⟩ := h.way hr e2 e1
    refine ⟨p, m, ?_, ?_, ?_, hk⟩
    · rw [wn _ _ hrg fun e => by rw [e.1, e.2, h0] at e2; exact ent_ne m e2.symm]; exact e2
    · rw [wn _ _ (hm.ne_free hz) fun e => by rw [e.1, e.2, h0] at e1; exact ent_ne p e1.symm]; exact e1
    · rw [wn _ _ (hp.ne_free hz) fun e => by obtain ⟨e, _⟩ := e; subst e; have := (hp.eq hf).2; omega]; exact e0

/-- A leaf's word stored: this page's leaf turns, and no other one. -/
theorem MOk.leaf_has (h : MOk n s E) (hr : Tab (getF s.xs) r a 0) (h2 : s.W r (indexOf v 2) = entT m) (h1 : s.W m (indexOf v 1) = entT f) (hv : okV v) (hr' : Tab (getF s.xs) r' b 0) (hu : okV u) :
    Has (leafM s f v x).W r' u y ↔ if r' = r ∧ u = v then y = x ∧ kindOf (flagOf x) = 2 else Has s.W r' u y := by
  obtain ⟨hm, hf⟩ := h.way hr h2 h1
  have ws : updW s.W f (indexOf v 0) x f (indexOf v 0) = x := if_pos ⟨rfl, rfl⟩
  have wn : ∀ p j, ¬ (p = f ∧ j = indexOf v 0) → updW s.W f (indexOf v 0) x p j = s.W p j := fun p j e => if_neg e
  have wl : ∀ p j c k, Tab (getF s.xs) p c k → k < 2 → updW s.W f (indexOf v 0) x p j = s.W p j := fun p j c k hp hk => wn _ _ fun e => by
    obtain ⟨e, _⟩ := e; subst e; have := (hp.eq hf).2; omega
  have same : ∀ p q, Tab (getF s.xs) q b 1 → s.W r' (indexOf u 2) = entT q → s.W q (indexOf u 1) = entT p → p = f → indexOf u 0 = indexOf v 0 → r' = r ∧ u = v := by
    intro p q hq e2 e1 ep e0
    subst ep
    obtain ⟨hq1, hp1⟩ := h.way hr' e2 e1
    obtain ⟨eb, _⟩ := hp1.eq hf
    subst eb
    have er := h.tree.root _ _ _ hr' hr
    subst er
    obtain ⟨eq, ei⟩ := h.tree.once q m _ _ p b 1 hq1 hm (by decide) (index_okX u 1) (index_okX v 1) e1 h1
    subst eq
    obtain ⟨_, ej⟩ := h.tree.once r' r' _ _ q b 0 hr hr (by decide) (index_okX u 2) (index_okX v 2) e2 h2
    exact ⟨rfl, okV_eq hu hv ej ei e0⟩
  show Has (updW s.W f (indexOf v 0) x) r' u y ↔ _
  constructor
  · rintro ⟨p, q, e2, e1, e0, hk⟩
    rw [wl _ _ _ _ hr' (by decide)] at e2
    have hq := h.ent hr' (by decide) (index_okX u 2) e2
    rw [wl _ _ _ _ hq (by decide)] at e1
    by_cases c : p = f ∧ indexOf u 0 = indexOf v 0
    · rw [if_pos (same p q hq e2 e1 c.1 c.2)]
      rw [c.1, c.2, ws] at e0
      exact ⟨e0.symm, by rw [e0]; exact hk⟩
    · rw [wn _ _ c] at e0
      rw [if_neg]
      · exact ⟨p, q, e2, e1, e0, hk⟩
      · rintro ⟨rfl, rfl⟩
        rw [h2] at e2
        rw [← ent_inj e2, h1] at e1
        exact c ⟨(ent_inj e1).symm, rfl⟩
  · intro hc
    split at hc
    · rename_i c
      obtain ⟨rfl, rfl⟩ := c
      obtain ⟨rfl, hk⟩ := hc
      exact ⟨f, m, by rw [wl _ _ _ _ hr' (by decide)]; exact h2, by rw [wl _ _ _ _ hm (by decide)]; exact h1, ws, hk⟩
    · rename_i c
      obtain ⟨p, q, e2, e1, e0, hk⟩ := hc
      obtain ⟨hq, hp⟩ := h.way hr' e2 e1
      refine ⟨p, q, by rw [wl _ _ _ _ hr' (by decide)]; exact e2, by rw [wl _ _ _ _ hq (by decide)]; exact e1, ?_, hk⟩
      rw [wn _ _ fun e => c (same p q hq e2 e1 e.1 e.2)]; exact e0

/-- A table that goes has no leaf. -/
theorem MOk.shrink_has (h : MOk n s E) (hf : Tab (getF s.xs) f a l) (hl : l < 2) (hi : okX i) (hr : Tab (getF s.xs) r b 0) :
    Has (shrinkM n s f i).W r u y ↔ Has s.W r u y := by
  unfold shrinkM
  rcases h.nx hf hl hi with ⟨e, _⟩ | ⟨g, e, e0, hg⟩
  · rw [e]
  · rw [e]
    simp only
    split
    · rename_i hc
      have ws : updW s.W f i 0 f i = 0 := if_pos ⟨rfl, rfl⟩
      have wn : ∀ p j, ¬ (p = f ∧ j = i) → updW s.W f i 0 p j = s.W p j := fun p j e => if_neg e
      show Has (updW s.W f i 0) r u y ↔ _
      constructor
      · rintro ⟨p, q, k2, k1, k0, hk⟩
        have c2 : ¬ (r = f ∧ indexOf u 2 = i) := fun c => by rw [c.1, c.2, ws] at k2; exact ent_ne q k2.symm
        rw [wn _ _ c2] at k2
        have c1 : ¬ (q = f ∧ indexOf u 1 = i) := fun c => by rw [c.1, c.2, ws] at k1; exact ent_ne p k1.symm
        rw [wn _ _ c1] at k1
        have c0 : ¬ (p = f ∧ indexOf u 0 = i) := fun c => by rw [c.1, c.2, ws] at k0; subst k0; rw [kind_zero] at hk; exact absurd hk (by decide)
        rw [wn _ _ c0] at k0
        exact ⟨p, q, k2, k1, k0, hk⟩
      · rintro ⟨p, q, k2, k1, k0, hk⟩
        obtain ⟨hq, hp⟩ := h.way hr k2 k1
        refine ⟨p, q, ?_, ?_, ?_, hk⟩
        · rw [wn _ _ fun c => ?_]; exact k2
          rw [c.1, c.2, e0] at k2
          rw [← ent_inj k2, hc _ (index_okX u 1)] at k1
          exact ent_ne p k1.symm
        · rw [wn _ _ fun c => ?_]; exact k1
          rw [c.1, c.2, e0] at k1
          rw [← ent_inj k1, hc _ (index_okX u 0)] at k0
          subst k0; rw [kind_zero] at hk; exact absurd hk (by decide)
        · rw [wn _ _ fun c => ?_]; exact k0
          obtain ⟨c, _⟩ := c
          subst c
          have := (hp.eq hf).2
          omega
    · exact Iff.rfl
end
end Go.Proofs.Ytlieommbomjdaaa

namespace Go.Proofs.Ytlieommbomjdaaa
set_option linter.unusedVariables false

section
variable {n : Nat} {s : MS} {E : Int → Prop} {a b r r' u v f g i l m x y : Int}
theorem MOk.shrink_root (h : MOk n s E) (hf : Tab (getF s.xs) f a l) (hl : l < 2) (hi : okX i) {p : Int} (hp : Tab (getF s.xs) p b 0) : Tab (getF (shrinkM n s f i).xs) p b 0 := by
  unfold shrinkM
  rcases h.nx hf hl hi with ⟨e, _⟩ | ⟨g, e, _, hg⟩
  · rw [e]; exact hp
  · rw [e]
    simp only
    split
    · rw [(h.give hg).1]
      show Tab (getF (s.xs.set g.toNat zeroF)) p b 0
      rw [(h.give hg).2]
      have := (h.tree.lev hf).1
      exact hp.upd fun e4 => by subst e4; have := (hp.eq hg).2; omega
    · exact hp
theorem MOk.tidy_has (h : MOk n s E) (hr : Tab (getF s.xs) r a 0) (hr' : Tab (getF s.xs) r' b 0) : Has (tidyM n r v s).W r' u y ↔ Has s.W r' u y := by
  unfold tidyM
  rcases h.nx hr (by decide) (index_okX v 2) with ⟨e, _⟩ | ⟨m, e, _, hm⟩
  · rw [e]
  · rw [e]
    simp only
    obtain ⟨k1, _, _⟩ := h.shrink hm (by decide) (index_okX v 1)
    rw [k1.shrink_has (h.shrink_root hm (by decide) (index_okX v 1) hr) (by decide) (index_okX v 2) (h.shrink_root hm (by decide) (index_okX v 1) hr')]
    exact h.shrink_has hm (by decide) (index_okX v 1) hr'
theorem MOk.tidy_root (h : MOk n s E) (hr : Tab (getF s.xs) r a 0) {p : Int} (hp : Tab (getF s.xs) p b 0) : Tab (getF (tidyM n r v s).xs) p b 0 := by
  unfold tidyM
  rcases h.nx hr (by decide) (index_okX v 2) with ⟨e, _⟩ | ⟨m, e, _, hm⟩
  · rw [e]; exact hp
  · rw [e]
    simp only
    obtain ⟨k1, _, _⟩ := h.shrink hm (by decide) (index_okX v 1)
    exact k1.shrink_root (h.shrink_root hm (by decide) (index_okX v 1) hr) (by decide) (index_okX v 2) (h.shrink_root hm (by decide) (index_okX v 1) hp)

/-- Which leaves there are behind the second half of Enter. -/
theorem MOk.enter2_has (h : MOk n s E) (hr : Tab (getF s.xs) r a 0) (hm : Tab (getF s.xs) m a 1) (hw : s.W r (indexOf v 2) = entT m) (hx : kindOf (flagOf x) = 2) (hv : okV v) (hr' : Tab (getF s.xs) r' b 0) (hu : okV u) :
    ((enter2 n a r v x s m).1 = 0 ∨ (enter2 n a r v x s m).1 = 5) ∧
    (Has (enter2 n a r v x s m).2.W r' u y ↔ if (enter2 n a r v x s m).1 = 0 ∧ r' = r ∧ u = v then y = x else Has s.W r' u y) := by
  have hrm : r ≠ m := fun e1 => by subst e1; have := (hr.eq hm).2; omega
  unfold enter2
  rcases h.nx hm (by decide) (index_okX v 1) with ⟨e, e0⟩ | ⟨g, e, e0, hg⟩
  · rw [e]
    simp only
    rcases h.take a 2 with ⟨e1, _⟩ | ⟨k, hk, e1, hz⟩
    · rw [if_neg (by rw [e1]; decide)]
      refine ⟨Or.inr e1, ?_⟩
      simp only
      rw [if_neg (by rw [e1]; intro hc; exact absurd hc.1 (by decide))]
      exact h.tidy_has hr hr'
    · have en : (takeF 0 s.xs 1 a 2).n = k := by rw [e1]
      have ee : (takeF 0 s.xs 1 a 2).e = 0 := by rw [e1]
      rw [if_pos ee, en]
      refine ⟨Or.inl rfl, ?_⟩
      obtain ⟨q1, q2, q3, q4⟩ := h.grow hm (by decide) (index_okX v 1) e0 hk e1 hz
      have q1 : MOk n (growM s (takeF 0 s.xs 1 a 2) m (indexOf v 1)) (fun x => x = k ∨ (E x ∧ x ≠ m)) := q1
      have q3 : getF (growM s (takeF 0 s.xs 1 a 2) m (indexOf v 1)).xs = updF (getF s.xs) k (tabF a 2) := q3
      have q4 : (growM s (takeF 0 s.xs 1 a 2) m (indexOf v 1)).W = updW (zeroW s.W k) m (indexOf v 1) (entT k) := q4
      have hrk := hr.ne_free hz
      have hr2 : Tab (getF (growM s (takeF 0 s.xs 1 a 2) m (indexOf v 1)).xs) r a 0 := by rw [q3]; exact hr.upd hrk
      have hr2' : Tab (getF (growM s (takeF 0 s.xs 1 a 2) m (indexOf v 1)).xs) r' b 0 := by rw [q3]; exact hr'.upd (hr'.ne_free hz)
      rw [q1.leaf_has (m := m) hr2 (by
          rw [q4]; unfold updW zeroW
          rw [if_neg (fun e => hrm e.1), if_neg hrk]; exact hw) (by rw [q4]; exact if_pos ⟨rfl, rfl⟩) hv hr2' hu, q4, h.grow_has hm (by decide) e0 hz hr']
      by_cases c : r' = r ∧ u = v
      · rw [if_pos c, if_pos ⟨rfl, c⟩]; exact ⟨fun k => k.1, fun k => ⟨k, hx⟩⟩
      · rw [if_neg c, if_neg fun k => c k.2]
  · rw [e]
    refine ⟨Or.inl rfl, ?_⟩
    simp only
    rw [h.leaf_has hr hw e0 hv hr' hu]
    by_cases c : r' = r ∧ u = v
    · rw [if_pos c, if_pos ⟨trivial, c⟩]; exact ⟨fun k => k.1, fun k => ⟨k, hx⟩⟩
    · rw [if_neg c, if_neg fun k => c k.2]

/-- .. behind Enter. -/
theorem MOk.enter1_has (h : MOk n s noE) (hr : Tab (getF s.xs) r a 0) (hx : kindOf (flagOf x) = 2) (hv : okV v) (hr' : Tab (getF s.xs) r' b 0) (hu : okV u) :
    ((enter1 n a r v x s).1 = 0 ∨ (enter1 n a r v x s).1 = 5) ∧
    (Has (enter1 n a r v x s).2.W r' u y ↔ if (enter1 n a r v x s).1 = 0 ∧ r' = r ∧ u = v then y = x else Has s.W r' u y) := by
  unfold enter1
  rcases h.nx hr (by decide) (index_okX v 2) with ⟨e, e0⟩ | ⟨m, e, e0, hm⟩
  · rw [e]
    simp only
    rcases h.take a 1 with ⟨e1, _⟩ | ⟨k, hk, e1, hz⟩
    · rw [if_neg (by rw [e1]; decide)]
      refine ⟨Or.inr e1, ?_⟩
      simp only
      rw [if_neg (by rw [e1]; intro hc; exact absurd hc.1 (by decide))]
    · have en : (takeF 0 s.xs 1 a 1).n = k := by rw [e1]
      have ee : (takeF 0 s.xs 1 a 1).e = 0 := by rw [e1]
      rw [if_pos ee, en]
      obtain ⟨q1, q2, q3, q4⟩ := h.grow hr (by decide) (index_okX v 2) e0 hk e1 hz
      have q1 : MOk n (growM s (takeF 0 s.xs 1 a 1) r (indexOf v 2)) (fun x => x = k ∨ (noE x ∧ x ≠ r)) := q1
      have q3 : getF (growM s (takeF 0 s.xs 1 a 1) r (indexOf v 2)).xs = updF (getF s.xs) k (tabF a 1) := q3
      have q4 : (growM s (takeF 0 s.xs 1 a 1) r (indexOf v 2)).W = updW (zeroW s.W k) r (indexOf v 2) (entT k) := q4
      have hrk := hr.ne_free hz
      obtain ⟨p1, p2⟩ := q1.enter2_has (u := u) (v := v) (x := x) (y := y) (r := r) (m := k) (a := a) (r' := r') (b := b) (by rw [q3]; exact hr.upd hrk) (by rw [q3]; exact updF_self _ _ _) (by rw [q4]; exact if_pos ⟨rfl, rfl⟩) hx hv (by rw [q3]; exact hr'.upd (hr'.ne_free hz)) hu
      refine ⟨p1, p2.trans ?_⟩
      rw [q4, h.grow_has hr (by decide) e0 hz hr']
  · rw [e]
    exact h.enter2_has hr hm e0 hx hv hr' hu
/-- .. behind Remove. -/
theorem MOk.remove_has (h : MOk n s noE) (hr : Tab (getF s.xs) r a 0) (hv : okV v) (hr' : Tab (getF s.xs) r' b 0) (hu : okV u) :
    ((removeM n r v s).1 = true ↔ ∃ z, Has s.W r v z) ∧ (Has (removeM n r v s).2.W r' u y ↔ ¬ (r' = r ∧ u = v) ∧ Has s.W r' u y) := by
  unfold removeM
  cases hl : leafW n s.W r v with
  | none =>
    have no : ∀ z, ¬ Has s.W r v z := fun z ⟨f, hz⟩ => by
      rw [(h.leaf_iff hr).2 ⟨hv, hz⟩] at hl; cases hl
    refine ⟨⟨fun e => (Bool.noConfusion e), fun ⟨z, hz⟩ => (no z hz).elim⟩, ?_⟩
    show Has s.W r' u y ↔ _
    exact ⟨fun k => ⟨fun c => by obtain ⟨rfl, rfl⟩ := c; exact no _ k, k⟩, fun k => k.2⟩
  | some z =>
    obtain ⟨f, z⟩ := z
    obtain ⟨_, hz⟩ := (h.leaf_iff hr).1 hl
    refine ⟨⟨fun _ => ⟨z, f, hz⟩, fun _ => rfl⟩, ?_⟩
    obtain ⟨m, e2, e1, e0, hk⟩ := hz
    obtain ⟨hm, hf⟩ := h.way hr e2 e1
    obtain ⟨p1, _⟩ := h.leaf (v := v) hf (Or.inl rfl)
    show Has (tidyM n r v (leafM s f v 0)).W r' u y ↔ _
    rw [p1.tidy_has hr hr', h.leaf_has hr e2 e1 hv hr' hu]
    by_cases c : r' = r ∧ u = v
    · rw [if_pos c]
      exact ⟨fun k => by have := k.2; rw [kind_zero] at this; exact absurd this (by decide), fun k => (k.1 c).elim⟩
    · rw [if_neg c]
      exact ⟨fun k => ⟨c, k⟩, fun k => k.2⟩
/-- .. behind what turns a leaf. -/
theorem MOk.turn_has (h : MOk n s noE) (hr : Tab (getF s.xs) r a 0) {z : Int} (hl : leafW n s.W r v = some (f, z)) (hx : kindOf (flagOf x) = 2) (hr' : Tab (getF s.xs) r' b 0) (hu : okV u) :
    Has (leafM s f v x).W r' u y ↔ if r' = r ∧ u = v then y = x else Has s.W r' u y := by
  obtain ⟨hv, m, e2, e1, e0, hk⟩ := (h.leaf_iff hr).1 hl
  rw [h.leaf_has hr e2 e1 hv hr' hu]
  by_cases c : r' = r ∧ u = v
  · rw [if_pos c, if_pos c]; exact ⟨fun k => k.1, fun k => ⟨k, hx⟩⟩
  · rw [if_neg c, if_neg c]
/-- A page has one leaf at most. -/
theorem MOk.has_one (h : MOk n s E) (hr : Tab (getF s.xs) r a 0) (h1 : Has s.W r u x) (h2 : Has s.W r u y) : x = y := by
  obtain ⟨f, m, a2, a1, a0, _⟩ := h1
  obtain ⟨g, p, b2, b1, b0, _⟩ := h2
  rw [a2] at b2
  have := ent_inj b2
  subst this
  rw [a1] at b1
  have := ent_inj b1
  subst this
  rw [← a0, ← b0]

/-- A table that isn't empty has a leaf below it. -/
theorem MOk.has_leaf (h : MOk n s noE) (hr : Tab (getF s.xs) r a 0) (hg : Tab (getF s.xs) g a l) (hl : 0 < l) : ∃ u y, okV u ∧ Has s.W r u y ∧ (l = 2 → ∃ m, s.W r (indexOf u 2) = entT m ∧ s.W m (indexOf u 1) = entT g) ∧ (l = 1 → s.W r (indexOf u 2) = entT g) := by
  have join : ∀ c2 c1 c0, okX c2 → okX c1 → okX c0 → okV (c2 * 262144 + c1 * 512 + c0) ∧ indexOf (c2 * 262144 + c1 * 512 + c0) 2 = c2 ∧ indexOf (c2 * 262144 + c1 * 512 + c0) 1 = c1 ∧ indexOf (c2 * 262144 + c1 * 512 + c0) 0 = c0 := by
    intro c2 c1 c0 k2 k1 k0
    have e2 : ∀ x, indexOf x 2 = x / 262144 % 512 := fun _ => rfl
    have e1 : ∀ x, indexOf x 1 = x / 512 % 512 := fun _ => rfl
    have e0 : ∀ x, indexOf x 0 = x % 512 := fun _ => rfl
    rw [e2, e1, e0]
    unfold okX at k2 k1 k0
    unfold okV
    omega
  have low : ∀ g, Tab (getF s.xs) g a 2 → ∃ c0, okX c0 ∧ kindOf (flagOf (s.W g c0)) = 2 := fun g hg => by
    obtain ⟨c0, k0, hw⟩ := h.tree.full g a 2 hg (by decide) id
    exact ⟨c0, k0, (h.tree.leaf g a c0 hg k0).resolve_left hw⟩
  have top : ∀ g, Tab (getF s.xs) g a 1 → ∃ c2, okX c2 ∧ s.W r c2 = entT g := fun g hg => by
    obtain ⟨p, c2, k2, hp, hw⟩ := h.tree.up g a 1 hg (by decide)
    have := h.tree.root _ _ _ hp hr
    subst this
    exact ⟨c2, k2, hw⟩
  have hlev := (h.tree.lev hg).2
  rcases (show l = 1 ∨ l = 2 by omega) with rfl | rfl
  · obtain ⟨c2, k2, w2⟩ := top g hg
    obtain ⟨c1, k1, w1⟩ := h.tree.full g a 1 hg (by decide) id
    rcases h.tree.down g a 1 c1 hg (by decide) k1 with e | ⟨p, w1, hp⟩
    · exact (w1 e).elim
    · obtain ⟨c0, k0, w0⟩ := low p hp
      obtain ⟨j, j2, j1, j0⟩ := join c2 c1 c0 k2 k1 k0
      exact ⟨_, _, j, ⟨p, g, by rw [j2]; exact w2, by rw [j1]; exact w1, rfl, by rw [j0]; exact w0⟩, fun e => absurd e (by decide), fun _ => by rw [j2]; exact w2⟩
  · obtain ⟨m, c1, k1, hm, w1⟩ := h.tree.up g a 2 hg (by decide)
    obtain ⟨c2, k2, w2⟩ := top m hm
    obtain ⟨c0, k0, w0⟩ := low g hg
    obtain ⟨j, j2, j1, j0⟩ := join c2 c1 c0 k2 k1 k0
    exact ⟨_, _, j, ⟨g, m, by rw [j2]; exact w2, by rw [j1]; exact w1, rfl, by rw [j0]; exact w0⟩, fun _ => ⟨m, by rw [j2]; exact w2, by rw [j1]; exact w1⟩, fun e => absurd e (by decide)⟩
end
end Go.Proofs.Ytlieommbomjdaaa

namespace Go.Proofs.Ytlieommbomjdaaa
set_option linter.unusedVariables false

/-- A space's tables, counted; all tables. -/
def cntF (xs : List FrV) (a : Int) : Int := (xs.countP fun x => x.cl == 1 && x.ow == a : Nat)
def totF (xs : List FrV) : Int := (xs.countP fun x => x.cl == 1 : Nat)

theorem countP_at {α : Type} (p : α → Bool) : ∀ (xs : List α) (k : Nat) (x y : α), xs[k]? = some x → ((xs.set k y).countP p : Int) = xs.countP p - (if p x then 1 else 0) + (if p y then 1 else 0)
  | [], k, x, y, h => by cases h
  | z :: xs, 0, x, y, h => by
    injection h with h
    subst h
    show (((y :: xs).countP p : Nat) : Int) = _
    rw [List.countP_cons, List.countP_cons]
    split <;> split <;> omega
  | z :: xs, k + 1, x, y, h => by
    have ih := countP_at p xs k x y h
    show (((z :: xs.set k y).countP p : Nat) : Int) = _
    rw [List.countP_cons, List.countP_cons]
    generalize (xs.set k y).countP p = A at *
    generalize xs.countP p = B at *
    generalize (if p x = true then (1 : Int) else 0) = X at *
    generalize (if p y = true then (1 : Int) else 0) = Y at *
    split <;> omega

section
variable {n : Nat} {s t : MS} {E : Int → Prop} {a b r r' u v f g i l m x y : Int}
theorem cnt_set {xs : List FrV} {k : Nat} {z w : FrV} (h : xs[k]? = some z) (b : Int) : cntF (xs.set k w) b = cntF xs b - (if z.cl = 1 ∧ z.ow = b then 1 else 0) + (if w.cl = 1 ∧ w.ow = b then 1 else 0) := by
  unfold cntF
  rw [countP_at _ xs k z w h]
  have e : ∀ q : FrV, (if (q.cl == 1 && q.ow == b) = true then (1 : Int) else 0) = if q.cl = 1 ∧ q.ow = b then 1 else 0 := fun q => by
    simp only [Bool.and_eq_true, beq_iff_eq]
  rw [e, e]
theorem tot_set {xs : List FrV} {k : Nat} {z w : FrV} (h : xs[k]? = some z) : totF (xs.set k w) = totF xs - (if z.cl = 1 then 1 else 0) + (if w.cl = 1 then 1 else 0) := by
  unfold totF
  rw [countP_at _ xs k z w h]
  have e : ∀ q : FrV, (if (q.cl == 1) = true then (1 : Int) else 0) = if q.cl = 1 then 1 else 0 := fun q => by
    simp only [beq_iff_eq]
  rw [e, e]

/-- A space's number of tables goes with the count; other spaces' counts stay; what all have goes with it. -/
structure Cnt (a : Int) (s t : MS) : Prop where
  own : t.N - cntF t.xs a = s.N - cntF s.xs a
  oth : ∀ b, b ≠ a → cntF t.xs b = cntF s.xs b
  tot : t.N - totF t.xs = s.N - totF s.xs
theorem Cnt.refl (a : Int) (s : MS) : Cnt a s s := ⟨rfl, fun _ _ => rfl, rfl⟩
theorem Cnt.trans {u : MS} (h : Cnt a s t) (k : Cnt a t u) : Cnt a s u := ⟨k.own.trans h.own, fun b hb => (k.oth b hb).trans (h.oth b hb), k.tot.trans h.tot⟩
theorem Cnt.leaf (f v x : Int) : Cnt a s (leafM s f v x) := ⟨rfl, fun _ _ => rfl, rfl⟩

theorem MOk.grow_cnt (h : MOk n s E) {k : Nat} (hk : k < n) (ht : takeF 0 s.xs 1 a l = ⟨k, 0, s.xs.set k (tabF a l)⟩) (hz : getF s.xs k = some zeroF) (f i : Int) :
    Cnt a s (growM s (takeF 0 s.xs 1 a l) f i) := by
  obtain ⟨_, _, hz⟩ := getF_some hz
  rw [Int.toNat_natCast] at hz
  have c1 : (tabF a l).cl = 1 := rfl
  have c2 : (tabF a l).ow = a := rfl
  have c3 : zeroF.cl = 0 := rfl
  rw [ht]
  refine ⟨?_, fun b hb => ?_, ?_⟩
  · show s.N + 1 - cntF (s.xs.set k (tabF a l)) a = _
    rw [cnt_set hz, c1, c2, c3, if_neg (by omega), if_pos ⟨rfl, rfl⟩]
    omega
  · show cntF (s.xs.set k (tabF a l)) b = _
    rw [cnt_set hz, c1, c2, c3, if_neg (by omega), if_neg (fun e => hb e.2.symm)]
    omega
  · show s.N + 1 - totF (s.xs.set k (tabF a l)) = _
    rw [tot_set hz, c1, c3, if_neg (by omega), if_pos rfl]
    omega
theorem MOk.give_cnt (h : MOk n s E) (hg : Tab (getF s.xs) g a l) : cntF (giveF s.xs g).xs a = cntF s.xs a - 1 ∧ (∀ b, b ≠ a → cntF (giveF s.xs g).xs b = cntF s.xs b) ∧ totF (giveF s.xs g).xs = totF s.xs - 1 := by
  rw [(h.give hg).1]
  obtain ⟨_, _, hz⟩ := getF_some hg
  have c1 : (tabF a l).cl = 1 := rfl
  have c2 : (tabF a l).ow = a := rfl
  have c3 : zeroF.cl = 0 := rfl
  refine ⟨?_, fun b hb => ?_, ?_⟩
  · show cntF (s.xs.set g.toNat zeroF) a = _
    rw [cnt_set hz, c1, c2, c3, if_pos ⟨rfl, rfl⟩, if_neg (by omega)]
    omega
  · show cntF (s.xs.set g.toNat zeroF) b = _
    rw [cnt_set hz, c1, c2, c3, if_neg (fun e => hb e.2.symm), if_neg (by omega)]
    omega
  · show totF (s.xs.set g.toNat zeroF) = _
    rw [tot_set hz, c1, c3, if_pos rfl, if_neg (by omega)]
    omega
theorem MOk.shrink_cnt (h : MOk n s E) (hf : Tab (getF s.xs) f a l) (hl : l < 2) (hi : okX i) : Cnt a s (shrinkM n s f i) := by
  unfold shrinkM
  rcases h.nx hf hl hi with ⟨e, _⟩ | ⟨g, e, _, hg⟩
  · rw [e]; exact Cnt.refl _ _
  · rw [e]
    simp only
    split
    · obtain ⟨k1, k2, k3⟩ := h.give_cnt hg
      refine ⟨?_, k2, ?_⟩
      · show s.N - 1 - cntF (giveF s.xs g).xs a = _
        rw [k1]; omega
      · show s.N - 1 - totF (giveF s.xs g).xs = _
        rw [k3]; omega
    · exact Cnt.refl _ _
theorem MOk.tidy_cnt (h : MOk n s E) (hr : Tab (getF s.xs) r a 0) : Cnt a s (tidyM n r v s) := by
  unfold tidyM
  rcases h.nx hr (by decide) (index_okX v 2) with ⟨e, _⟩ | ⟨m, e, _, hm⟩
  · rw [e]; exact Cnt.refl _ _
  · rw [e]
    simp only
    obtain ⟨k1, _, _⟩ := h.shrink hm (by decide) (index_okX v 1)
    exact (h.shrink_cnt hm (by decide) (index_okX v 1)).trans (k1.shrink_cnt (h.shrink_root hm (by decide) (index_okX v 1) hr) (by decide) (index_okX v 2))
theorem MOk.enter2_cnt (h : MOk n s E) (hr : Tab (getF s.xs) r a 0) (hm : Tab (getF s.xs) m a 1) : Cnt a s (enter2 n a r v x s m).2 := by
  unfold enter2
  rcases h.nx hm (by decide) (index_okX v 1) with ⟨e, e0⟩ | ⟨g, e, e0, hg⟩
  · rw [e]
    simp only
    rcases h.take a 2 with ⟨e1, _⟩ | ⟨k, hk, e1, hz⟩
    · rw [if_neg (by rw [e1]; decide)]
      exact h.tidy_cnt hr
    · rw [if_pos (by rw [e1])]
      exact (h.grow_cnt hk e1 hz _ _).trans (Cnt.leaf _ _ _)
  · rw [e]; exact Cnt.leaf _ _ _
theorem MOk.enter1_cnt (h : MOk n s noE) (hr : Tab (getF s.xs) r a 0) : Cnt a s (enter1 n a r v x s).2 := by
  unfold enter1
  rcases h.nx hr (by decide) (index_okX v 2) with ⟨e, e0⟩ | ⟨m, e, e0, hm⟩
  · rw [e]
    simp only
    rcases h.take a 1 with ⟨e1, _⟩ | ⟨k, hk, e1, hz⟩
    · rw [if_neg (by rw [e1]; decide)]
      exact Cnt.refl _ _
    · have en : (takeF 0 s.xs 1 a 1).n = k := by rw [e1]
      rw [if_pos (by rw [e1]), en]
      obtain ⟨q1, q2, q3, q4⟩ := h.grow hr (by decide) (index_okX v 2) e0 hk e1 hz
      have q1 : MOk n (growM s (takeF 0 s.xs 1 a 1) r (indexOf v 2)) (fun x => x = k ∨ (noE x ∧ x ≠ r)) := q1
      have q3 : getF (growM s (takeF 0 s.xs 1 a 1) r (indexOf v 2)).xs = updF (getF s.xs) k (tabF a 1) := q3
      exact (h.grow_cnt hk e1 hz _ _).trans (q1.enter2_cnt (by rw [q3]; exact hr.upd (hr.ne_free hz)) (by rw [q3]; exact updF_self _ _ _))
  · rw [e]; exact h.enter2_cnt hr hm
theorem MOk.enterM_cnt (h : MOk n s noE) (hr : Tab (getF s.xs) r a 0) (fr p : Int) : Cnt a s (enterM n a r v fr p s).2 := by
  unfold enterM
  split
  · exact h.enter1_cnt hr
  · exact Cnt.refl _ _
theorem MOk.remove_cnt (h : MOk n s noE) (hr : Tab (getF s.xs) r a 0) : Cnt a s (removeM n r v s).2 := by
  unfold removeM
  cases hl : leafW n s.W r v with
  | none => exact Cnt.refl _ _
  | some y =>
    obtain ⟨f, y⟩ := y
    obtain ⟨hv, m, e2, e1, e0, hk⟩ := (h.leaf_iff hr).1 hl
    obtain ⟨hm, hf⟩ := h.way hr e2 e1
    obtain ⟨p1, _⟩ := h.leaf (v := v) hf (Or.inl rfl)
    exact (Cnt.leaf _ _ _).trans (p1.tidy_cnt hr)

/-- When there is no frame, all are tables. -/
theorem MOk.tot_le (h : MOk n s E) : totF s.xs ≤ n := by
  have := List.countP_le_length (p := fun x : FrV => x.cl == 1) (l := s.xs)
  have := h.len
  unfold totF
  omega
theorem MOk.full_tot (h : MOk n s E) (hn : ∀ f x, getF s.xs f = some x → x ≠ zeroF) : totF s.xs = n := by
  have e : s.xs.countP (fun x => x.cl == 1) = s.xs.length := by
    rw [List.countP_eq_length]
    intro x hx
    obtain ⟨k, hk⟩ := List.mem_iff_getElem?.1 hx
    rcases h.tree.all _ _ (getF_at hk) with e | ⟨b, l, e, _⟩
    · exact (hn _ _ (getF_at hk) e).elim
    · rw [e]; rfl
  unfold totF
  rw [e, h.len]
theorem MOk.take_fits (h : MOk n s E) (hl : totF s.xs < n) (a l : Int) : (takeF 0 s.xs 1 a l).e = 0 := by
  rcases h.take a l with ⟨_, _, hn⟩ | ⟨k, hk, e1, hz⟩
  · have := h.full_tot hn; omega
  · rw [e1]
/-- Enter with two frames left ends well, and takes at most two. -/
theorem MOk.enter2_fits (h : MOk n s E) (hl : totF s.xs < n) (m : Int) : (enter2 n a r v x s m).1 = 0 ∧ (enter2 n a r v x s m).2.N ≤ s.N + 1 := by
  unfold enter2
  cases nxW n s.W m (indexOf v 1) with
  | none =>
    simp only
    rw [if_pos (h.take_fits hl a 2)]
    exact ⟨rfl, Int.le_refl _⟩
  | some g => exact ⟨rfl, by show s.N ≤ s.N + 1; omega⟩
theorem MOk.enter1_fits (h : MOk n s noE) (hr : Tab (getF s.xs) r a 0) (hl : totF s.xs + 1 < n) : (enter1 n a r v x s).1 = 0 ∧ (enter1 n a r v x s).2.N ≤ s.N + 2 := by
  unfold enter1
  rcases h.nx hr (by decide) (index_okX v 2) with ⟨e, e0⟩ | ⟨m, e, e0, hm⟩
  · rw [e]
    simp only
    rcases h.take a 1 with ⟨e1, _, hn⟩ | ⟨k, hk, e1, hz⟩
    · have := h.full_tot hn; omega
    · have en : (takeF 0 s.xs 1 a 1).n = k := by rw [e1]
      rw [if_pos (by rw [e1]), en]
      obtain ⟨q1, _, _, _⟩ := h.grow hr (by decide) (index_okX v 2) e0 hk e1 hz
      have q1 : MOk n (growM s (takeF 0 s.xs 1 a 1) r (indexOf v 2)) (fun x => x = k ∨ (noE x ∧ x ≠ r)) := q1
      have q5 := (h.grow_cnt hk e1 hz r (indexOf v 2)).tot
      have qN : (growM s (takeF 0 s.xs 1 a 1) r (indexOf v 2)).N = s.N + 1 := rfl
      obtain ⟨p1, p2⟩ := q1.enter2_fits (a := a) (r := r) (v := v) (x := x) (by omega) k
      exact ⟨p1, by omega⟩
  · rw [e]
    obtain ⟨p1, p2⟩ := h.enter2_fits (a := a) (r := r) (v := v) (x := x) (by omega) m
    exact ⟨p1, by show (enter2 n a r v x s m).2.N ≤ _; omega⟩

/-- How many tables Enter makes. -/
theorem MOk.enter1_N (h : MOk n s noE) (hr : Tab (getF s.xs) r a 0) (he : (enter1 n a r v x s).1 = 0) :
    (s.W r (indexOf v 2) = 0 → (enter1 n a r v x s).2.N = s.N + 2) ∧
    (∀ m, s.W r (indexOf v 2) = entT m → (s.W m (indexOf v 1) = 0 → (enter1 n a r v x s).2.N = s.N + 1) ∧ (s.W m (indexOf v 1) ≠ 0 → (enter1 n a r v x s).2.N = s.N)) := by
  have two : ∀ (t : MS) (m : Int), (enter2 n a r v x t m).1 = 0 → (nxW n t.W m (indexOf v 1) = none → (enter2 n a r v x t m).2.N = t.N + 1) ∧ (nxW n t.W m (indexOf v 1) ≠ none → (enter2 n a r v x t m).2.N = t.N) := by
    intro t m
    unfold enter2
    cases nxW n t.W m (indexOf v 1) with
    | none =>
      simp only
      split
      · exact fun _ => ⟨fun _ => rfl, fun k => (k rfl).elim⟩
      · rename_i k; exact fun e => (k e).elim
    | some g => exact fun _ => ⟨fun k => (by cases k), fun _ => rfl⟩
  unfold enter1 at he ⊢
  rcases h.nx hr (by decide) (index_okX v 2) with ⟨e, e0⟩ | ⟨m, e, e0, hm⟩
  · rw [e] at he ⊢
    refine ⟨fun _ => ?_, fun m e1 => by rw [e0] at e1; exact (ent_ne m e1.symm).elim⟩
    simp only at he ⊢
    split at he
    · rename_i hk
      rw [if_pos hk]
      rcases h.take a 1 with ⟨e1, _⟩ | ⟨k, hk, e1, hz⟩
      · rw [e1] at hk; exact absurd hk (by decide)
      · have en : (takeF 0 s.xs 1 a 1).n = k := by rw [e1]
        rw [en] at he ⊢
        obtain ⟨_, _, _, q4⟩ := h.grow hr (by decide) (index_okX v 2) e0 hk e1 hz
        have q4 : (growM s (takeF 0 s.xs 1 a 1) r (indexOf v 2)).W = updW (zeroW s.W k) r (indexOf v 2) (entT k) := q4
        have hrk := hr.ne_free hz
        have z : (growM s (takeF 0 s.xs 1 a 1) r (indexOf v 2)).W k (indexOf v 1) = 0 := by
          rw [q4]; unfold updW zeroW
          rw [if_neg (fun e => hrk e.1.symm), if_pos rfl]
        rw [(two _ _ he).1 (nx_zero z)]
        show s.N + 1 + 1 = _
        omega
    · rename_i hk; exact (hk he).elim
  · rw [e] at he ⊢
    refine ⟨fun e1 => by rw [e0] at e1; exact (ent_ne m e1).elim, fun m' e1 => ?_⟩
    rw [e0] at e1
    have := ent_inj e1
    subst this
    simp only at he ⊢
    refine ⟨fun z => (two s m he).1 (nx_zero z), fun z => (two s m he).2 ?_⟩
    rcases h.nx hm (by decide) (index_okX v 1) with ⟨_, e2⟩ | ⟨g, e2, _, _⟩
    · exact (z e2).elim
    · rw [e2]; exact fun k => by cases k
end
end Go.Proofs.Ytlieommbomjdaaa

namespace Go.Proofs.Ytlieommbomjdaaa
set_option linter.unusedVariables false

/-- Frames given back, one behind the other; how many were. -/
def giveAll : List Int → Int × List FrV → Int × List FrV
  | [], p => p
  | f :: fs, p => giveAll fs (if (giveF p.2 f).e = 0 then p.1 + 1 else p.1, (giveF p.2 f).xs)
/-- The tables of a space, as Close meets them. -/
def closeMid (n : Nat) (W : WoF) (m : Int) : List Int := (List.range 512).flatMap fun k => (nxW n W m (k : Nat)).toList
def closeTop (n : Nat) (W : WoF) (r : Int) (i : Nat) : List Int :=
  match nxW n W r i with
  | none => []
  | some m => closeMid n W m ++ [m]
def closeL (n : Nat) (W : WoF) (r : Int) : List Int := (List.range 512).flatMap (closeTop n W r) ++ [r]
def closeM (n : Nat) (r : Int) (s : MS) : Int × List FrV := giveAll (closeL n s.W r) (0, s.xs)

section
variable {n : Nat} {s : MS} {E : Int → Prop} {a b r r' u v f g i l m x y : Int}
theorem giveAll_app (fs gs : List Int) (p : Int × List FrV) : giveAll (fs ++ gs) p = giveAll gs (giveAll fs p) := by
  induction fs generalizing p with
  | nil => rfl
  | cons f fs ih => exact ih _

/-- Some frames less, all of them tables of one space; the rest as it was. -/
structure Less (a : Int) (F : FrF) (D : Int → Prop) (F' : FrF) : Prop where
  gone : ∀ f, D f → F' f = some zeroF
  same : ∀ f, ¬ D f → F' f = F f

/-- Giving tables of a space: those are free, and no other frame turns; as many are given as there are tables less. -/
theorem giveAll_ok (a : Int) : ∀ (fs : List Int) (c : Int) (xs : List FrV), (∀ f, f ∈ fs → getF xs f = some zeroF ∨ ∃ l, Tab (getF xs) f a l) →
    (giveAll fs (c, xs)).2.length = xs.length ∧ (∀ f, f ∈ fs → getF (giveAll fs (c, xs)).2 f = some zeroF) ∧ (∀ f, f ∉ fs → getF (giveAll fs (c, xs)).2 f = getF xs f) ∧
    (giveAll fs (c, xs)).1 + totF (giveAll fs (c, xs)).2 = c + totF xs ∧ (giveAll fs (c, xs)).1 + cntF (giveAll fs (c, xs)).2 a = c + cntF xs a ∧ ∀ b, b ≠ a → cntF (giveAll fs (c, xs)).2 b = cntF xs b
  | [], c, xs, h => ⟨rfl, fun f hf => (by cases hf), fun f _ => rfl, rfl, rfl, fun _ _ => rfl⟩
  | f :: fs, c, xs, h => by
    have hone : ((giveF xs f).e = 0 ∨ (giveF xs f).e ≠ 0) := Classical.em _
    show (giveAll fs (if (giveF xs f).e = 0 then c + 1 else c, (giveF xs f).xs)).2.length = _ ∧ _
    rcases h f List.mem_cons_self with hz | ⟨l, ht⟩
    · have e : giveF xs f = ⟨0, 2, xs⟩ := by
        obtain ⟨h0, h1, h2⟩ := getF_some hz
        obtain ⟨k, rfl⟩ := Int.eq_ofNat_of_zero_le h0
        rw [Int.toNat_natCast] at h2
        exact atF_free h2 rfl
      have ih := giveAll_ok a fs c xs fun g hg => h g (List.mem_cons_of_mem _ hg)
      have e2 : giveAll (f :: fs) (c, xs) = giveAll fs (c, xs) := by
        show giveAll fs (if (giveF xs f).e = 0 then c + 1 else c, (giveF xs f).xs) = _
        rw [e]; rfl
      have e3 : (if (giveF xs f).e = 0 then c + 1 else c, (giveF xs f).xs) = (c, xs) := by rw [e]; rfl
      rw [e3, e2]
      obtain ⟨i0, i1, i2, i3⟩ := ih
      refine ⟨i0, fun g hg => ?_, fun g hg => i2 g fun k => hg (List.mem_cons_of_mem _ k), i3⟩
      rcases List.mem_cons.1 hg with rfl | hg
      · by_cases hm : g ∈ fs
        · exact i1 g hm
        · rw [i2 g hm]; exact hz
      · exact i1 g hg
    · obtain ⟨h0, h1, h2⟩ := getF_some ht
      have e : giveF xs f = ⟨0, 0, xs.set f.toNat zeroF⟩ := by
        obtain ⟨k, rfl⟩ := Int.eq_ofNat_of_zero_le h0
        rw [Int.toNat_natCast] at *
        exact atF_at h2 (by show (1 : Int) ≠ 0; decide)
      have hF : getF (xs.set f.toNat zeroF) = updF (getF xs) f zeroF := by
        rw [getF_set (by omega)]
        rw [show ((f.toNat : Nat) : Int) = f by omega]
      have e2 : giveAll (f :: fs) (c, xs) = giveAll fs (c + 1, xs.set f.toNat zeroF) := by
        show giveAll fs (if (giveF xs f).e = 0 then c + 1 else c, (giveF xs f).xs) = _
        rw [e]; rfl
      have e3 : (if (giveF xs f).e = 0 then c + 1 else c, (giveF xs f).xs) = (c + 1, xs.set f.toNat zeroF) := by rw [e]; rfl
      rw [e3, e2]
      obtain ⟨i0, i1, i2, i3, i4, i5⟩ := giveAll_ok a fs (c + 1) (xs.set f.toNat zeroF) fun g hg => by
        rw [hF]
        by_cases eg : g = f
        · subst eg; exact Or.inl (updF_self _ _ _)
        · rcases h g (List.mem_cons_of_mem _ hg) with k | ⟨l, k⟩
          · exact Or.inl (by rw [updF_ne _ _ eg]; exact k)
          · exact Or.inr ⟨l, k.upd eg⟩
      have c1 : (tabF a l).cl = 1 := rfl
      have c2 : (tabF a l).ow = a := rfl
      have c3 : zeroF.cl = 0 := rfl
      rw [List.length_set] at i0
      refine ⟨i0, fun g hg => ?_, fun g hg => ?_, ?_, ?_, fun b hb => ?_⟩
      · by_cases hm : g ∈ fs
        · exact i1 g hm
        · rw [i2 g hm, hF]
          rcases List.mem_cons.1 hg with rfl | hg
          · exact updF_self _ _ _
          · exact (hm hg).elim
      · rw [i2 g fun k => hg (List.mem_cons_of_mem _ k), hF]
        exact updF_ne _ _ fun k => hg (by subst k; exact List.mem_cons_self)
      · rw [i3, tot_set h2, c1, c3, if_pos rfl, if_neg (by omega)]; omega
      · rw [i4, cnt_set h2, c1, c2, c3, if_pos ⟨rfl, rfl⟩, if_neg (by omega)]; omega
      · rw [i5 b hb, cnt_set h2, c1, c2, c3, if_neg (fun e => hb e.2.symm), if_neg (by omega)]; omega

/-- Close meets the tables of its space, all of them. -/
theorem MOk.closeL_iff (h : MOk n s E) (hr : Tab (getF s.xs) r a 0) (f : Int) : f ∈ closeL n s.W r ↔ ∃ l, Tab (getF s.xs) f a l := by
  have okN : ∀ k, k ∈ List.range 512 → okX (k : Nat) := fun k hk => by
    have := List.mem_range.1 hk
    unfold okX; omega
  have toN : ∀ i, okX i → ∃ k : Nat, k ∈ List.range 512 ∧ i = k := fun i hi => by
    unfold okX at hi
    exact ⟨i.toNat, List.mem_range.2 (by omega), by omega⟩
  unfold closeL
  rw [List.mem_append, List.mem_flatMap, List.mem_singleton]
  constructor
  · rintro (⟨k, hk, hf⟩ | rfl)
    · unfold closeTop at hf
      rcases h.nx hr (by decide) (okN k hk) with ⟨e, _⟩ | ⟨m, e, _, hm⟩
      · rw [e] at hf; cases hf
      · rw [e] at hf
        simp only at hf
        rcases List.mem_append.1 hf with hf | hf
        · obtain ⟨j, hj, hf⟩ := List.mem_flatMap.1 hf
          rcases h.nx hm (by decide) (okN j hj) with ⟨e, _⟩ | ⟨g, e, _, hg⟩
          · rw [e] at hf; cases hf
          · rw [e] at hf
            rw [List.mem_singleton.1 hf]
            exact ⟨_, hg⟩
        · rw [List.mem_singleton.1 hf]; exact ⟨_, hm⟩
    · exact ⟨0, hr⟩
  · rintro ⟨l, hf⟩
    have hl := h.tree.lev hf
    have mid : ∀ m, Tab (getF s.xs) m a 1 → ∃ k, k ∈ List.range 512 ∧ closeTop n s.W r k = closeMid n s.W m ++ [m] := fun m hm => by
      obtain ⟨p, i, hi, hp, hw⟩ := h.tree.up m a 1 hm (by decide)
      have := h.tree.root _ _ _ hp hr
      subst this
      obtain ⟨k, hk, rfl⟩ := toN i hi
      refine ⟨k, hk, ?_⟩
      unfold closeTop
      rw [nx_ent h.le hw (h.lt hm)]
    rcases (show l = 0 ∨ l = 1 ∨ l = 2 by omega) with rfl | rfl | rfl
    · exact Or.inr (h.tree.root _ _ _ hf hr)
    · obtain ⟨k, hk, e⟩ := mid f hf
      exact Or.inl ⟨k, hk, by rw [e]; exact List.mem_append.2 (Or.inr (List.mem_singleton.2 rfl))⟩
    · obtain ⟨p, i, hi, hp, hw⟩ := h.tree.up f a 2 hf (by decide)
      obtain ⟨k, hk, e⟩ := mid p hp
      obtain ⟨j, hj, rfl⟩ := toN i hi
      have hx : f ∈ (nxW n s.W p (j : Nat)).toList := by
        rw [nx_ent h.le hw (h.lt hf)]
        exact List.mem_singleton.2 rfl
      exact Or.inl ⟨k, hk, by rw [e]; exact List.mem_append.2 (Or.inl (List.mem_flatMap.2 ⟨j, hj, hx⟩))⟩

/-- A space less: the others' tables are as they were. -/
theorem Tree.less {F F' : FrF} {W : WoF} (h : Tree F W E) (a : Int) (h1 : ∀ f l, Tab F f a l → F' f = some zeroF) (h2 : ∀ f, (∀ l, ¬ Tab F f a l) → F' f = F f) : Tree F' W E := by
  have old : ∀ f b l, Tab F' f b l → b ≠ a ∧ Tab F f b l := fun f b l hf => by
    by_cases c : ∃ l, Tab F f a l
    · obtain ⟨k, hk⟩ := c
      exact (hf.notFree (h1 f k hk)).elim
    · have hf' : Tab F f b l := by unfold Tab at hf ⊢; rw [← h2 f fun l hl => c ⟨l, hl⟩]; exact hf
      exact ⟨fun e => by subst e; exact c ⟨l, hf'⟩, hf'⟩
  have new : ∀ f b l, b ≠ a → Tab F f b l → Tab F' f b l := fun f b l hb hf => by
    unfold Tab at hf ⊢
    rw [h2 f fun k hk => hb (Tab.eq hf hk).1]; exact hf
  refine ⟨?_, ?_, ?_, ?_, ?_, ?_, ?_⟩
  · intro f x hf
    by_cases c : ∃ l, Tab F f a l
    · obtain ⟨k, hk⟩ := c
      rw [h1 f k hk] at hf
      injection hf with hf
      exact Or.inl hf.symm
    · rw [h2 f fun l hl => c ⟨l, hl⟩] at hf
      exact h.all f x hf
  · intro f g b hf hg; exact h.root _ _ _ (old _ _ _ hf).2 (old _ _ _ hg).2
  · intro f b l i hf hl hi
    obtain ⟨hb, hf⟩ := old _ _ _ hf
    rcases h.down f b l i hf hl hi with e | ⟨g, e, hg⟩
    · exact Or.inl e
    · exact Or.inr ⟨g, e, new _ _ _ hb hg⟩
  · intro f b i hf hi; exact h.leaf f b i (old _ _ _ hf).2 hi
  · intro g b l hg hl
    obtain ⟨hb, hg⟩ := old _ _ _ hg
    obtain ⟨f, i, hi, hf, hw⟩ := h.up g b l hg hl
    exact ⟨f, i, hi, new _ _ _ hb hf, hw⟩
  · intro f f' i i' g b l hf hf' hl hi hi' hw hw'
    exact h.once f f' i i' g b l (old _ _ _ hf).2 (old _ _ _ hf').2 hl hi hi' hw hw'
  · intro f b l hf hl hn; exact h.full f b l (old _ _ _ hf).2 hl hn

/-- Close: its tables are free, no other frame has turned, and it tells how many there were. -/
theorem MOk.close (h : MOk n s noE) (hr : Tab (getF s.xs) r a 0) (N : Int) :
    MOk n ⟨s.W, (closeM n r s).2, N⟩ noE ∧ (∀ f l, Tab (getF s.xs) f a l → getF (closeM n r s).2 f = some zeroF) ∧ (∀ f, (∀ l, ¬ Tab (getF s.xs) f a l) → getF (closeM n r s).2 f = getF s.xs f) ∧
    (closeM n r s).1 = cntF s.xs a ∧ totF (closeM n r s).2 = totF s.xs - cntF s.xs a ∧ (∀ b, b ≠ a → cntF (closeM n r s).2 b = cntF s.xs b) := by
  obtain ⟨i0, i1, i2, i3, i4, i5⟩ := giveAll_ok a (closeL n s.W r) 0 s.xs fun f hf => Or.inr ((h.closeL_iff hr f).1 hf)
  have g1 : ∀ f l, Tab (getF s.xs) f a l → getF (closeM n r s).2 f = some zeroF := fun f l hf => i1 f ((h.closeL_iff hr f).2 ⟨l, hf⟩)
  have g2 : ∀ f, (∀ l, ¬ Tab (getF s.xs) f a l) → getF (closeM n r s).2 f = getF s.xs f := fun f hf => i2 f fun k => by
    obtain ⟨l, hl⟩ := (h.closeL_iff hr f).1 k
    exact hf l hl
  have i0 : (closeM n r s).2.length = n := Eq.trans i0 h.len
  have i4 : (closeM n r s).1 + cntF (closeM n r s).2 a = 0 + cntF s.xs a := i4
  have i3 : (closeM n r s).1 + totF (closeM n r s).2 = 0 + totF s.xs := i3
  have hc : cntF (closeM n r s).2 a = 0 := by
    unfold cntF
    rw [List.countP_eq_zero.2]
    · rfl
    · intro x hx hp
      obtain ⟨k, hk⟩ := List.mem_iff_getElem?.1 hx
      have hk := getF_at hk
      simp only [Bool.and_eq_true, beq_iff_eq] at hp
      by_cases c : ∃ l, Tab (getF s.xs) k a l
      · obtain ⟨l, hl⟩ := c
        rw [g1 _ _ hl] at hk
        injection hk with hk
        rw [← hk] at hp
        exact absurd hp.1 (by decide)
      · rw [g2 _ fun l hl => c ⟨l, hl⟩] at hk
        rcases h.tree.all _ _ hk with e | ⟨b, l, e, _⟩
        · rw [e] at hp; exact absurd hp.1 (by decide)
        · have : b = a := by rw [e] at hp; exact hp.2
          subst this
          rw [e] at hk
          exact c ⟨l, hk⟩
  have i5 : ∀ b, b ≠ a → cntF (closeM n r s).2 b = cntF s.xs b := i5
  clear i1 i2
  generalize closeM n r s = P at *
  exact ⟨⟨h.tree.less a g1 g2, i0, h.le⟩, g1, g2, by omega, by omega, i5⟩
end
end Go.Proofs.Ytlieommbomjdaaa

namespace Go.Proofs.Ytlieommbomjdaaa
set_option linter.unusedVariables false

/-- A and D of flags; those of F that are in k, too. -/
def adOf (F : Int) : Int := one (bit F 64) 64 + one (bit F 128) 128
def hadOf (F k : Int) : Int := one (bit F 64 && bit k 64) 64 + one (bit F 128 && bit k 128) 128
noncomputable def protectM (n : Nat) (r v p : Int) (s : MS) : Bool × MS :=
  match leafW n s.W r v with
  | none => (false, s)
  | some (f, y) => if p % 8 = 0 then removeM n r v s else (true, leafM s f v (encOf (flagsOf p true + adOf (flagOf y)) (ppnOf y)))
def clearM (n : Nat) (r v k : Int) (s : MS) : Int × MS :=
  match leafW n s.W r v with
  | none => (0, s)
  | some (f, y) => (hadOf (flagOf y) k, leafM s f v (encOf (flagOf y - hadOf (flagOf y) k) (ppnOf y)))
/-- New: what it answers, its root, and what there is then. -/
def newM (a : Int) (s : MS) : Int × Int × MS :=
  if (takeF 0 s.xs 1 a 0).e = 0 then (0, (takeF 0 s.xs 1 a 0).n, ⟨zeroW s.W (takeF 0 s.xs 1 a 0).n, (takeF 0 s.xs 1 a 0).xs, 1⟩) else ((takeF 0 s.xs 1 a 0).e, 0, s)

theorem kind_low (F : Int) : kindOf F = kindOf (F % 16) := by
  have b1 : bit (F % 16) 1 = bit F 1 := by unfold bit; rw [decide_eq_decide]; omega
  have b2 : bit (F % 16) 2 = bit F 2 := by unfold bit; rw [decide_eq_decide]; omega
  have b4 : bit (F % 16) 4 = bit F 4 := by unfold bit; rw [decide_eq_decide]; omega
  have b8 : bit (F % 16) 8 = bit F 8 := by unfold bit; rw [decide_eq_decide]; omega
  unfold kindOf
  rw [b1, b2, b4, b8]
theorem flag_enc (F P : Int) : flagOf (encOf F P) = F % 256 := by unfold flagOf encOf; omega
theorem ppn_enc (F P : Int) : ppnOf (encOf F P) = P % 17592186044416 := by unfold ppnOf encOf; omega
theorem one_cases (b : Bool) (k : Int) : one b k = 0 ∨ one b k = k := by cases b; exact Or.inl rfl; exact Or.inr rfl
theorem kind_protect (p F P : Int) (hp : p % 8 ≠ 0) : kindOf (flagOf (encOf (flagsOf p true + adOf F) P)) = 2 := by
  rw [flag_enc, kind_low]
  have e : flagsOf p true = flagsOf (p % 8) true := by
    have b1 : bit (p % 8) 1 = bit p 1 := by unfold bit; rw [decide_eq_decide]; omega
    have b2 : bit (p % 8) 2 = bit p 2 := by unfold bit; rw [decide_eq_decide]; omega
    have b4 : bit (p % 8) 4 = bit p 4 := by unfold bit; rw [decide_eq_decide]; omega
    unfold flagsOf
    rw [b1, b2, b4, show p % 8 % 8 = p % 8 by omega]
  rw [e]
  have ha : adOf F % 16 = 0 := by
    unfold adOf
    have := one_cases (bit F 64) 64
    have := one_cases (bit F 128) 128
    omega
  rw [show (flagsOf (p % 8) true + adOf F) % 256 % 16 = flagsOf (p % 8) true % 16 by omega]
  rcases (show p % 8 = 1 ∨ p % 8 = 2 ∨ p % 8 = 3 ∨ p % 8 = 4 ∨ p % 8 = 5 ∨ p % 8 = 6 ∨ p % 8 = 7 by omega) with e | e | e | e | e | e | e <;> rw [e] <;> decide
theorem kind_clear (F k P : Int) (hF : kindOf F = 2) : kindOf (flagOf (encOf (F - hadOf F k) P)) = 2 := by
  rw [flag_enc, kind_low]
  have ha : hadOf F k % 16 = 0 := by
    unfold hadOf
    have := one_cases (bit F 64 && bit k 64) 64
    have := one_cases (bit F 128 && bit k 128) 128
    omega
  rw [show (F - hadOf F k) % 256 % 16 = F % 16 by omega, ← kind_low]
  exact hF

section
variable {n : Nat} {s : MS} {E : Int → Prop} {a b r r' u v f g i l m x y : Int}
theorem MOk.protect_ok (h : MOk n s noE) (hr : Tab (getF s.xs) r a 0) (p : Int) :
    MOk n (protectM n r v p s).2 noE ∧ Only a s (protectM n r v p s).2 ∧ Tab (getF (protectM n r v p s).2.xs) r a 0 ∧ Cnt a s (protectM n r v p s).2 := by
  unfold protectM
  cases hl : leafW n s.W r v with
  | none => exact ⟨h, Only.refl _ _, hr, Cnt.refl _ _⟩
  | some y =>
    obtain ⟨f, y⟩ := y
    simp only
    split
    · obtain ⟨q1, q2, q3⟩ := h.removeM_ok (v := v) hr
      exact ⟨q1, q2, q3, h.remove_cnt hr⟩
    · rename_i hp
      obtain ⟨q1, q2, q3⟩ := h.turn hr hl (kind_protect p (flagOf y) (ppnOf y) hp)
      exact ⟨q1, q2, q3, Cnt.leaf _ _ _⟩
theorem MOk.clear_ok (h : MOk n s noE) (hr : Tab (getF s.xs) r a 0) (k : Int) :
    MOk n (clearM n r v k s).2 noE ∧ Only a s (clearM n r v k s).2 ∧ Tab (getF (clearM n r v k s).2.xs) r a 0 ∧ Cnt a s (clearM n r v k s).2 := by
  unfold clearM
  cases hl : leafW n s.W r v with
  | none => exact ⟨h, Only.refl _ _, hr, Cnt.refl _ _⟩
  | some y =>
    obtain ⟨f, y⟩ := y
    obtain ⟨_, _, hk⟩ := leaf_place hl
    obtain ⟨q1, q2, q3⟩ := h.turn hr hl (kind_clear (flagOf y) k (ppnOf y) hk)
    exact ⟨q1, q2, q3, Cnt.leaf _ _ _⟩

/-- New: a space of a number that none has, if there is a frame. -/
theorem MOk.new (h : MOk n s noE) (ha : ∀ g l, ¬ Tab (getF s.xs) g a l) :
    ((newM a s).1 = 5 ∧ (newM a s).2.2 = s ∧ totF s.xs = n) ∨
    ((newM a s).1 = 0 ∧ totF s.xs < n ∧ MOk n (newM a s).2.2 noE ∧ Only a s (newM a s).2.2 ∧ Tab (getF (newM a s).2.2.xs) (newM a s).2.1 a 0 ∧ (∀ j, (newM a s).2.2.W (newM a s).2.1 j = 0) ∧
      (newM a s).2.2.N = 1 ∧ cntF (newM a s).2.2.xs a = cntF s.xs a + 1 ∧ (∀ b, b ≠ a → cntF (newM a s).2.2.xs b = cntF s.xs b) ∧ totF (newM a s).2.2.xs = totF s.xs + 1) := by
  unfold newM
  rcases h.take a 0 with ⟨e1, e2, hn⟩ | ⟨k, hk, e1, hz⟩
  · rw [if_neg (by rw [e1]; decide)]
    exact Or.inl ⟨e1, rfl, h.full_tot hn⟩
  · rw [if_pos (by rw [e1]), e1]
    right
    have hF : getF (s.xs.set k (tabF a 0)) = updF (getF s.xs) k (tabF a 0) := getF_set (by have := h.len; omega) _
    have hz' := hz
    obtain ⟨_, _, hz2⟩ := getF_some hz
    rw [Int.toNat_natCast] at hz2
    have c1 : (tabF a 0).cl = 1 := rfl
    have c2 : (tabF a 0).ow = a := rfl
    have c3 : zeroF.cl = 0 := rfl
    have ht : totF (s.xs.set k (tabF a 0)) = totF s.xs + 1 := by rw [tot_set hz2, c1, c3, if_neg (by omega), if_pos rfl]; omega
    have hm : MOk n ⟨zeroW s.W k, s.xs.set k (tabF a 0), 1⟩ noE := by
      refine ⟨?_, ?_, h.le⟩
      · show Tree (getF (s.xs.set k (tabF a 0))) _ _
        rw [hF]
        exact h.tree.newRoot hz fun g => ha g 0
      · show (s.xs.set k _).length = n
        rw [List.length_set]; exact h.len
    have := hm.tot_le
    refine ⟨rfl, ?_, hm, ?_, ?_, ?_, rfl, ?_, ?_, ht⟩
    · have h1 : totF (s.xs.set k (tabF a 0)) ≤ n := this
      omega
    · intro p hp hp0
      have hpk : p ≠ k := fun e => by subst e; exact hp0 hz
      exact ⟨by show getF (s.xs.set k (tabF a 0)) p = _; rw [hF, updF_ne _ _ hpk], fun j => if_neg hpk⟩
    · show getF (s.xs.set k (tabF a 0)) k = _
      rw [hF]; exact updF_self _ _ _
    · exact fun j => if_pos rfl
    · show cntF (s.xs.set k (tabF a 0)) a = _
      rw [cnt_set hz2, c1, c2, c3, if_neg (by omega), if_pos ⟨rfl, rfl⟩]; omega
    · intro b hb
      show cntF (s.xs.set k (tabF a 0)) b = _
      rw [cnt_set hz2, c1, c2, c3, if_neg (by omega), if_neg (fun e => hb e.2.symm)]; omega

/-- When no space has a table, all frames are free. -/
theorem MOk.all_free (h : MOk n s E) (hn : ∀ f a l, ¬ Tab (getF s.xs) f a l) : countF s.xs 0 = n ∧ totF s.xs = 0 := by
  have hz : ∀ x, x ∈ s.xs → x = zeroF := fun x hx => by
    obtain ⟨k, hk⟩ := List.mem_iff_getElem?.1 hx
    rcases h.tree.all _ _ (getF_at hk) with e | ⟨b, l, e, _⟩
    · exact e
    · exact (hn k b l (by unfold Tab; rw [← e]; exact getF_at hk)).elim
  constructor
  · unfold countF
    rw [List.filter_eq_self.2 fun x hx => by rw [hz x hx]; rfl, h.len]
  · unfold totF
    rw [List.countP_eq_zero.2 fun x hx => by rw [hz x hx]; decide]
    rfl
/-- Free frames and tables are all frames. -/
theorem MOk.free_tot (h : MOk n s E) : countF s.xs 0 + totF s.xs = n := by
  have key : ∀ xs : List FrV, (∀ x, x ∈ xs → x.cl = 0 ∨ x.cl = 1) → countF xs 0 + totF xs = xs.length := by
    intro xs
    induction xs with
    | nil => intro _; rfl
    | cons x xs ih =>
      intro hx
      have ih := ih fun y hy => hx y (List.mem_cons_of_mem _ hy)
      unfold countF totF at *
      rw [List.countP_cons, List.length_cons]
      rcases hx x List.mem_cons_self with e | e
      · rw [List.filter_cons_of_pos (by rw [e]; rfl), List.length_cons, if_neg (by rw [e]; decide)]
        omega
      · rw [List.filter_cons_of_neg (by rw [e]; decide), if_pos (by rw [e]; rfl)]
        omega
  rw [key s.xs, h.len]
  intro x hx
  obtain ⟨k, hk⟩ := List.mem_iff_getElem?.1 hx
  rcases h.tree.all _ _ (getF_at hk) with e | ⟨b, l, e, _⟩
  · rw [e]; exact Or.inl rfl
  · rw [e]; exact Or.inr rfl
end
end Go.Proofs.Ytlieommbomjdaaa

namespace Go.Proofs.Ytlieommbomjdaaa
set_option linter.unusedVariables false

def tell0 (W : WoF) (f vp : Int) (c : Nat) : List Int := if kindOf (flagOf (W f c)) = 2 then [vp * 512 + c] else []
def tell1 (n : Nat) (W : WoF) (f vp : Int) (b : Nat) : List Int :=
  match nxW n W f b with
  | none => []
  | some g => (List.range 512).flatMap (tell0 W g (vp * 512 + b))
def tell2 (n : Nat) (W : WoF) (r : Int) (a : Nat) : List Int :=
  match nxW n W r a with
  | none => []
  | some g => (List.range 512).flatMap (tell1 n W g a)
/-- The pages of a space's leaves. -/
def tellW (n : Nat) (W : WoF) (r : Int) : List Int := (List.range 512).flatMap (tell2 n W r)

/-- Rows that stand side by side, each rising. -/
theorem rising_flat (f : Nat → List Int) (K lo : Int) (h1 : ∀ i, (f i).Pairwise (· < ·)) (h2 : ∀ i x, x ∈ f i → lo + i * K ≤ x ∧ x < lo + (i + 1) * K) (hK : 0 ≤ K) :
    ∀ k : Nat, ((List.range k).flatMap f).Pairwise (· < ·) ∧ ∀ x, x ∈ (List.range k).flatMap f → lo ≤ x ∧ x < lo + k * K
  | 0 => ⟨List.Pairwise.nil, fun x hx => by cases hx⟩
  | k + 1 => by
    obtain ⟨i1, i2⟩ := rising_flat f K lo h1 h2 hK k
    have e : (List.range (k + 1)).flatMap f = (List.range k).flatMap f ++ f k := by
      rw [List.range_succ, List.flatMap_append]
      simp
    have hk : 0 ≤ (k : Int) * K := Int.mul_nonneg (by omega) hK
    have hs : ((k : Int) + 1) * K = k * K + K := by rw [Int.add_mul, Int.one_mul]
    rw [e]
    refine ⟨List.pairwise_append.2 ⟨i1, h1 k, fun x hx y hy => ?_⟩, fun x hx => ?_⟩
    · have := (i2 x hx).2
      have := (h2 k y hy).1
      omega
    · rw [show (((k + 1 : Nat) : Int)) * K = k * K + K by rw [← hs]; rfl]
      rcases List.mem_append.1 hx with hx | hx
      · have := i2 x hx; omega
      · have := h2 k x hx
        rw [hs] at this
        omega

theorem tell0_rise (W : WoF) (f vp : Int) : ((List.range 512).flatMap (tell0 W f vp)).Pairwise (· < ·) ∧ ∀ x, x ∈ (List.range 512).flatMap (tell0 W f vp) → vp * 512 ≤ x ∧ x < vp * 512 + 512 := by
  have := rising_flat (tell0 W f vp) 1 (vp * 512) (fun i => by
    unfold tell0
    split
    · exact List.pairwise_singleton _ _
    · exact List.Pairwise.nil) (fun i x hx => by
    unfold tell0 at hx
    split at hx
    · rw [List.mem_singleton.1 hx]; omega
    · cases hx) (by decide) 512
  refine ⟨this.1, fun x hx => ?_⟩
  have := this.2 x hx
  omega
theorem tell1_rise (n : Nat) (W : WoF) (f vp : Int) : ((List.range 512).flatMap (tell1 n W f vp)).Pairwise (· < ·) ∧ ∀ x, x ∈ (List.range 512).flatMap (tell1 n W f vp) → vp * 262144 ≤ x ∧ x < vp * 262144 + 262144 := by
  have := rising_flat (tell1 n W f vp) 512 (vp * 262144) (fun i => by
    unfold tell1
    cases nxW n W f i with
    | none => exact List.Pairwise.nil
    | some g => exact (tell0_rise W g (vp * 512 + i)).1) (fun i x hx => by
    unfold tell1 at hx
    cases hg : nxW n W f i with
    | none => rw [hg] at hx; cases hx
    | some g =>
      rw [hg] at hx
      have := (tell0_rise W g (vp * 512 + i)).2 x hx
      omega) (by decide) 512
  refine ⟨this.1, fun x hx => ?_⟩
  have := this.2 x hx
  omega
theorem tellW_rise (n : Nat) (W : WoF) (r : Int) : (tellW n W r).Pairwise (· < ·) := by
  refine (rising_flat (tell2 n W r) 262144 0 (fun i => ?_) (fun i x hx => ?_) (by decide) 512).1
  · unfold tell2
    cases nxW n W r i with
    | none => exact List.Pairwise.nil
    | some g => exact (tell1_rise n W g i).1
  · unfold tell2 at hx
    cases hg : nxW n W r i with
    | none => rw [hg] at hx; cases hx
    | some g =>
      rw [hg] at hx
      have := (tell1_rise n W g i).2 x hx
      omega

section
variable {n : Nat} {s : MS} {E : Int → Prop} {a r u : Int}
/-- All tells a page just if it has a leaf. -/
theorem MOk.tell_iff (h : MOk n s E) (hr : Tab (getF s.xs) r a 0) (u : Int) : u ∈ tellW n s.W r ↔ okV u ∧ ∃ y, Has s.W r u y := by
  have okN : ∀ k, k ∈ List.range 512 → okX (k : Nat) := fun k hk => by
    have := List.mem_range.1 hk
    unfold okX; omega
  have toN : ∀ i, okX i → ∃ k : Nat, k ∈ List.range 512 ∧ i = k := fun i hi => by
    unfold okX at hi
    exact ⟨i.toNat, List.mem_range.2 (by omega), by omega⟩
  have d2 : ∀ x, indexOf x 2 = x / 262144 % 512 := fun _ => rfl
  have d1 : ∀ x, indexOf x 1 = x / 512 % 512 := fun _ => rfl
  have d0 : ∀ x, indexOf x 0 = x % 512 := fun _ => rfl
  unfold tellW
  rw [List.mem_flatMap]
  constructor
  · rintro ⟨i, hi, hx⟩
    unfold tell2 at hx
    rcases h.nx hr (by decide) (okN i hi) with ⟨e, _⟩ | ⟨m, e, e2, hm⟩
    · rw [e] at hx; cases hx
    rw [e] at hx
    obtain ⟨j, hj, hx⟩ := List.mem_flatMap.1 hx
    unfold tell1 at hx
    rcases h.nx hm (by decide) (okN j hj) with ⟨e, _⟩ | ⟨f, e, e1, hf⟩
    · rw [e] at hx; cases hx
    rw [e] at hx
    obtain ⟨k, hk, hx⟩ := List.mem_flatMap.1 hx
    unfold tell0 at hx
    split at hx
    · rename_i hc
      have hx := List.mem_singleton.1 hx
      have li := List.mem_range.1 hi
      have lj := List.mem_range.1 hj
      have lk := List.mem_range.1 hk
      have c2 : indexOf u 2 = i := by rw [d2]; omega
      have c1 : indexOf u 1 = j := by rw [d1]; omega
      have c0 : indexOf u 0 = k := by rw [d0]; omega
      exact ⟨by unfold okV; omega, _, f, m, by rw [c2]; exact e2, by rw [c1]; exact e1, rfl, by rw [c0]; exact hc⟩
    · cases hx
  · rintro ⟨hu, y, f, m, e2, e1, e0, hk⟩
    obtain ⟨hm, hf⟩ := h.way hr e2 e1
    obtain ⟨i, hi, ei⟩ := toN _ (index_okX u 2)
    obtain ⟨j, hj, ej⟩ := toN _ (index_okX u 1)
    obtain ⟨k, hk', ek⟩ := toN _ (index_okX u 0)
    rw [ei] at e2
    rw [ej] at e1
    rw [ek] at e0
    have h0 : u ∈ tell0 s.W f ((i : Int) * 512 + j) k := by
      unfold tell0
      rw [e0, if_pos hk, List.mem_singleton]
      rw [d2] at ei
      rw [d1] at ej
      rw [d0] at ek
      unfold okV at hu
      omega
    have h1 : u ∈ tell1 n s.W m i j := by
      unfold tell1
      rw [nx_ent h.le e1 (h.lt hf)]
      exact List.mem_flatMap.2 ⟨k, hk', h0⟩
    refine ⟨i, hi, ?_⟩
    unfold tell2
    rw [nx_ent h.le e2 (h.lt hm)]
    exact List.mem_flatMap.2 ⟨j, hj, h1⟩
/-- Two rising rows with the same numbers are the same. -/
theorem rising_eq : ∀ {xs ys : List Int}, xs.Pairwise (· < ·) → ys.Pairwise (· < ·) → (∀ x, x ∈ xs ↔ x ∈ ys) → xs = ys
  | [], [], _, _, _ => rfl
  | [], y :: ys, _, _, h => by have := (h y).2 List.mem_cons_self; cases this
  | x :: xs, [], _, _, h => by have := (h x).1 List.mem_cons_self; cases this
  | x :: xs, y :: ys, hx, hy, h => by
    obtain ⟨x1, x2⟩ := List.pairwise_cons.1 hx
    obtain ⟨y1, y2⟩ := List.pairwise_cons.1 hy
    have e : x = y := by
      rcases List.mem_cons.1 ((h x).1 List.mem_cons_self) with e | e
      · exact e
      · rcases List.mem_cons.1 ((h y).2 List.mem_cons_self) with e' | e'
        · exact e'.symm
        · have := y1 x e
          have := x1 y e'
          omega
    subst e
    rw [rising_eq x2 y2 fun z => ?_]
    constructor
    · intro hz
      rcases List.mem_cons.1 ((h z).1 (List.mem_cons_of_mem _ hz)) with e | e
      · subst e; exact absurd (x1 z hz) (by omega)
      · exact e
    · intro hz
      rcases List.mem_cons.1 ((h z).2 (List.mem_cons_of_mem _ hz)) with e | e
      · subst e; exact absurd (y1 z hz) (by omega)
      · exact e
end
end Go.Proofs.Ytlieommbomjdaaa

namespace Go.Proofs.Ytlieommbomjdaaa
open Go.ChangeShapes Go.WideShapes Go.RowKit
set_option linter.unusedVariables false

section
variable {n : Nat} {L : List UInt8} {f i v r g : Int}
theorem enc_ent (hg : 0 ≤ g ∧ g < n) (hn : n ≤ 256) : encOf 1 g = entT g := by unfold encOf entT; omega
theorem okU_ent (hg : 0 ≤ g ∧ g < n) (hn : n ≤ 256) : okU (entT g) := by
  unfold okU entT; omega
theorem words_set (hl : L.length = n * 4096) (hf : 0 ≤ f ∧ f < n) (hi : okX i) (hv : okU v) : wordI n (setL n L f i v) = updW (wordI n L) f i v := by
  funext a b
  exact wordI_set hl hf hi hv a b
theorem words_zero (hl : L.length = n * 4096) (k : Nat) (hk : k < n) : wordI n (splice L (k * 4096) zeroPage) = zeroW (wordI n L) k := by
  have hz : zeroPage.length = 4096 := zeroPage_length
  funext a b
  unfold zeroW wordI wordV
  by_cases hr : (0 ≤ a ∧ a < n) ∧ (0 ≤ b ∧ b < 512)
  · rw [if_pos hr, if_pos hr]
    obtain ⟨p, rfl⟩ := Int.eq_ofNat_of_zero_le hr.1.1
    obtain ⟨q, rfl⟩ := Int.eq_ofNat_of_zero_le hr.2.1
    have hp : p < n := by omega
    have hq : q < 512 := by omega
    rw [Int.toNat_natCast, Int.toNat_natCast]
    by_cases e : (p : Int) = k
    · have e : p = k := by omega
      subst e
      rw [if_pos rfl]
      have : ((splice L (p * 4096) zeroPage).drop (p * 4096 + q * 8)).take 8 = List.replicate 8 0 := by
        apply List.ext_getElem?
        intro j
        rw [List.getElem?_take, List.getElem?_replicate]
        split
        · rw [List.getElem?_drop, get_splice _ _ _ (by omega), if_neg (by omega), if_pos (by omega)]
          unfold zeroPage
          rw [List.getElem?_replicate, if_pos (by omega)]
        · rfl
      rw [this, wordOf_noughts]
      rfl
    · rw [if_neg e]
      generalize zeroPage = Z at *
      have : ((splice L (k * 4096) Z).drop (p * 4096 + q * 8)).take 8 = (L.drop (p * 4096 + q * 8)).take 8 := by
        apply List.ext_getElem?
        intro j
        rw [List.getElem?_take, List.getElem?_take]
        split
        · rw [List.getElem?_drop, List.getElem?_drop, get_splice _ _ _ (by omega)]
          have hpk : p < k ∨ k < p := by omega
          rw [hz]
          split
          · rfl
          · split
            · omega
            · rfl
        · rfl
      rw [this]
  · rw [if_neg hr, if_neg hr]
    split <;> rfl
theorem place_words : placeOf n L r v = placeW n (wordI n L) r v := by
  unfold placeOf placeW
  split
  · show (nextOf n L v r 2).bind (downOf n L v 1) = _
    have e : downOf n L v 1 = fun m => nxW n (wordI n L) m (indexOf v 1) := by
      funext m
      show (nextOf n L v m 1).bind (downOf n L v 0) = nextOf n L v m 1
      cases nextOf n L v m 1 <;> rfl
    rw [e]
    rfl
  · rfl
theorem tell_words (hr : 0 ≤ r ∧ r < n) : (listA n L r 512).map LeafV.v = tellW n (wordI n L) r := by
  have m0 : ∀ (g vp : Int) (c : Nat), (dl0 n L g vp c).map LeafV.v = tell0 (wordI n L) g vp c := fun g vp c => by
    unfold dl0 tell0
    split <;> rfl
  have m1 : ∀ (g vp : Int) (b : Nat), (dl1 n L g vp b).map LeafV.v = tell1 n (wordI n L) g vp b := fun g vp b => by
    unfold dl1 tell1
    have e : nx n L g b = nxW n (wordI n L) g b := rfl
    rw [e]
    cases nxW n (wordI n L) g b with
    | none => rfl
    | some q =>
      show ((List.range 512).flatMap (dl0 n L q (vp * 512 + b))).map LeafV.v = _
      rw [List.map_flatMap]
      exact flatMap_range_congr 512 _ _ fun c _ => m0 _ _ _
  have m2 : ∀ (g : Int) (a : Nat), (dl2 n L g a).map LeafV.v = tell2 n (wordI n L) g a := fun g a => by
    unfold dl2 tell2
    have e : nx n L g a = nxW n (wordI n L) g a := rfl
    rw [e]
    cases nxW n (wordI n L) g a with
    | none => rfl
    | some q =>
      show ((List.range 512).flatMap (dl1 n L q a)).map LeafV.v = _
      rw [List.map_flatMap]
      exact flatMap_range_congr 512 _ _ fun c _ => m1 _ _ _
  rw [listA_down n L r hr, List.map_flatMap]
  exact flatMap_range_congr 512 _ _ fun c _ => m2 _ _

/-- Bytes with the same number are the same. -/
theorem wordOf_inj : ∀ (xs ys : List UInt8), xs.length = ys.length → wordOf xs = wordOf ys → xs = ys
  | [], [], _, _ => rfl
  | [], y :: ys, h, _ => by simp at h
  | x :: xs, [], h, _ => by simp at h
  | x :: xs, y :: ys, h, e => by
    have e : x.toNat + 256 * wordOf xs = y.toNat + 256 * wordOf ys := e
    have hx := x.toNat_lt
    have hy := y.toNat_lt
    have e1 : x.toNat = y.toNat := by omega
    have e2 : wordOf xs = wordOf ys := by omega
    rw [UInt8.toNat_inj.1 e1, wordOf_inj xs ys (by simpa using h) e2]
/-- Pages with the same words are the same. -/
theorem page_eq {M : List UInt8} (hl : L.length = n * 4096) (hm : M.length = n * 4096) (k : Nat) (hk : k < n) (h : ∀ j, okX j → wordI n L k j = wordI n M k j) : pageOf L k = pageOf M k := by
  have w : ∀ q : Nat, q < 512 → (L.drop (k * 4096 + q * 8)).take 8 = (M.drop (k * 4096 + q * 8)).take 8 := fun q hq => by
    have := h q (by unfold okX; omega)
    unfold wordI wordV at this
    rw [if_pos (by omega), if_pos (by omega), Int.toNat_natCast, Int.toNat_natCast] at this
    refine wordOf_inj _ _ ?_ (by exact Int.ofNat.inj this)
    simp only [List.length_take, List.length_drop]
    omega
  apply List.ext_getElem?
  intro j
  unfold pageOf
  rw [List.getElem?_take, List.getElem?_take]
  split
  · rename_i hj
    rw [List.getElem?_drop, List.getElem?_drop]
    have e := congrArg (fun l : List UInt8 => l[j % 8]?) (w (j / 8) (by omega))
    simp only [List.getElem?_take, List.getElem?_drop] at e
    rw [if_pos (by omega), if_pos (by omega), show k * 4096 + j / 8 * 8 + j % 8 = k * 4096 + j by omega] at e
    exact e
  · rfl
end
end Go.Proofs.Ytlieommbomjdaaa
