/- A ghost of memory in cells, rings of places, and a map of places; over any program. -/
import Derived.Below
import Derived.Deep.Draws
import Derived.Lib.Hide
import Derived.Maps.OwnSet
import Derived.Laws.NewBlocks
import Derived.Laws.Rows
import Derived.Laws.AppendOwn
namespace Go.Proofs.Ytnjpdcoahojgbaa
open Go.RowKit
set_option linter.unusedVariables false

/-! ### a ghost of memory -/
abbrev Pl := Nat × Nat
def ptr (p : Pl) : Value := .pointer (some ⟨p.1, p.2, none⟩)
abbrev Gm := Nat → Nat → Option Value
def upd (F : Gm) (b o : Nat) (v : Value) : Gm := fun x y => if x = b ∧ y = o then some v else F x y

theorem upd_same (F : Gm) (b o : Nat) (v : Value) : upd F b o v b o = some v := by simp [upd]
theorem upd_other {F : Gm} {b o x y : Nat} {v : Value} (h : ¬ (x = b ∧ y = o)) : upd F b o v x y = F x y := by simp [upd, h]

structure Holds (w : World) (F : Gm) : Prop where
  cell : ∀ b o v, F b o = some v → w.cell? ⟨b, o, none⟩ = some v
  zero : ∀ b o v, F b o = some v → ∃ cs T, w.heap[b]? = some (.cells cs T (0, 0))

theorem Holds.free {w : World} {F : Gm} (h : Holds w F) (b o : Nat) (v : Value) (hv : F b o = some v) : w.frozen? ⟨b, o, none⟩ = false := by
  obtain ⟨cs, T, hc⟩ := h.zero b o v hv
  exact frozen_of_row _ _ _ _ _ hc

theorem Holds.lt {w : World} {F : Gm} (h : Holds w F) {b o : Nat} {v : Value} (hv : F b o = some v) : b < w.heap.size :=
  World.block_lt_of_cell? w ⟨b, o, none⟩ (h.cell b o v hv)

theorem Holds.drewN {w : World} {F : Gm} (h : Holds w F) (n : Nat) : Holds (w.drewN n) F := ⟨h.cell, h.zero⟩
theorem Holds.drew {w : World} {F : Gm} (h : Holds w F) : Holds w.drew F := ⟨h.cell, h.zero⟩

theorem Holds.set {w : World} {F : Gm} (h : Holds w F) {b o : Nat} {u : Value} (hu : F b o = some u) (v : Value) : Holds (w.setCell ⟨b, o, none⟩ v) (upd F b o v) := by
  have key : ∀ x : Nat, (∃ cs T, w.heap[x]? = some (Obj.cells cs T (0, 0))) → ∃ cs T, (w.setCell ⟨b, o, none⟩ v).heap[x]? = some (Obj.cells cs T (0, 0)) := by
    rintro x ⟨cs, T, hc⟩
    by_cases e : x = b
    · subst e
      exact ⟨_, T, heap_setCell_same w x o cs T v hc⟩
    · exact ⟨cs, T, (heap_setCell_other w ⟨b, o, none⟩ x v e).trans hc⟩
  constructor
  · intro x y z hz
    by_cases e : x = b ∧ y = o
    · obtain ⟨rfl, rfl⟩ := e
      rw [upd_same] at hz
      cases hz
      exact World.cell?_setCell_same _ _ _ (h.cell _ _ _ hu)
    · rw [upd_other e] at hz
      rw [World.cell?_setCell_other _ _ _ _ (by intro h2; cases h2; exact e ⟨rfl, rfl⟩)]
      exact h.cell _ _ _ hz
  · intro x y z hz
    refine key x ?_
    by_cases e : x = b ∧ y = o
    · obtain ⟨rfl, rfl⟩ := e
      exact h.zero _ _ _ hu
    · rw [upd_other e] at hz
      exact h.zero _ _ _ hz

theorem Holds.kept {w w' : World} {F : Gm} (h : Holds w F) (hb : ∀ b o v, F b o = some v → w'.heap[b]? = w.heap[b]?) : Holds w' F :=
  ⟨fun b o v hv => (World.cell?_of_block (w := w) (hb b o v hv)).trans (h.cell b o v hv), fun b o v hv => by
    obtain ⟨cs, T, hc⟩ := h.zero b o v hv
    exact ⟨cs, T, (hb b o v hv).trans hc⟩⟩

theorem Holds.alloc {w : World} {F : Gm} (h : Holds w F) (o : Obj) : Holds (w.alloc o) F :=
  h.kept fun b _ _ hv => heap_alloc_old w o b (h.lt hv)

/-- A new block of cells. -/
def news (F : Gm) (n : Nat) (cs : Array Value) : Gm := fun x y => if x = n then cs[y]? else F x y

theorem Holds.alloc_new {w : World} {F : Gm} (h : Holds w F) (cs : Array Value) (T : TypeId) : Holds (w.alloc (.cells cs T)) (news F w.heap.size cs) := by
  constructor
  · intro b o v hv
    by_cases e : b = w.heap.size
    · subst e
      simp only [news, if_true] at hv
      rw [cell_of_row _ _ _ _ _ _ (heap_alloc_new w _)]
      exact hv
    · simp only [news, if_neg e] at hv
      exact (h.alloc _).cell _ _ _ hv
  · intro b o v hv
    by_cases e : b = w.heap.size
    · subst e
      exact ⟨cs, T, heap_alloc_new w _⟩
    · simp only [news, if_neg e] at hv
      exact (h.alloc _).zero _ _ _ hv

theorem Holds.weaken {w : World} {F G : Gm} (h : Holds w F) (hg : ∀ b o v, G b o = some v → F b o = some v) : Holds w G :=
  ⟨fun b o v hv => h.cell _ _ _ (hg _ _ _ hv), fun b o v hv => h.zero _ _ _ (hg _ _ _ hv)⟩

theorem Holds.cells {w : World} {F : Gm} (h : Holds w F) {b o : Nat} {v : Value} (hv : F b o = some v) : ∃ cs T fr, w.heap[b]? = some (.cells cs T fr) := by
  have := h.cell _ _ _ hv
  unfold World.cell? at this
  simp only at this
  cases hh : w.heap[b]? with
  | none => rw [hh] at this; simp at this
  | some o =>
    rw [hh] at this
    cases o <;> simp at this ⊢

/-! ### what a call leaves alone -/
/-- Blocks outside of O are as they were. -/
structure Kept (O : List Nat) (w w' : World) : Prop where
  os : w'.os = w.os
  tape : w'.tape = w.tape
  output : w'.output = w.output
  size : w.heap.size ≤ w'.heap.size
  block : ∀ k, k < w.heap.size → k ∉ O → w'.heap[k]? = w.heap[k]?

theorem Kept.refl (O : List Nat) (w : World) : Kept O w w := ⟨rfl, rfl, rfl, Nat.le_refl _, fun _ _ _ => rfl⟩
theorem Kept.mono {O O' : List Nat} {w w' : World} (h : Kept O w w') (hs : ∀ g, g ∈ O → g ∈ O') : Kept O' w w' := ⟨h.os, h.tape, h.output, h.size, fun k hk hn => h.block k hk fun e => hn (hs k e)⟩
/-- The second set holds what the first held, and new blocks. -/
theorem Kept.trans' {O O' : List Nat} {a b c : World} (h : Kept O a b) (k : Kept O' b c) (hs : ∀ g, g ∈ O' → g ∈ O ∨ a.heap.size ≤ g) : Kept O a c :=
  ⟨k.os.trans h.os, k.tape.trans h.tape, k.output.trans h.output, Nat.le_trans h.size k.size, fun i hi hn =>
    (k.block i (Nat.lt_of_lt_of_le hi h.size) (fun e => by rcases hs i e with e1 | e1; exact hn e1; omega)).trans (h.block i hi hn)⟩
theorem Kept.trans {O : List Nat} {a b c : World} (h : Kept O a b) (k : Kept O b c) : Kept O a c := h.trans' k fun _ e => .inl e
theorem Kept.setCell {O : List Nat} {a w : World} (h : Kept O a w) {b o : Nat} (hb : b ∈ O) (v : Value) : Kept O a (w.setCell ⟨b, o, none⟩ v) :=
  h.trans ⟨rfl, rfl, rfl, by simp [World.setCell], fun k hk hn => heap_setCell_other w _ k v (by rintro rfl; exact hn hb)⟩
theorem Kept.drew {O : List Nat} {a w : World} (h : Kept O a w) : Kept O a w.drew := ⟨h.os, h.tape, h.output, h.size, h.block⟩
theorem Kept.drewN {O : List Nat} {a w : World} (h : Kept O a w) (n : Nat) : Kept O a (w.drewN n) := ⟨h.os, h.tape, h.output, h.size, h.block⟩
theorem Kept.alloc {O : List Nat} {a w : World} (h : Kept O a w) (o : Obj) : Kept O a (w.alloc o) :=
  h.trans ⟨rfl, rfl, rfl, by simp, fun k hk _ => heap_alloc_old w o k hk⟩
theorem Kept.of_below {O : List Nat} {a b : World} (h : Below a.heap.size a b) : Kept O a b := ⟨h.os, h.tape, h.output, h.size, fun k hk _ => h.block k hk⟩
theorem Kept.of_grown {O : List Nat} {a b : World} {r : Nat} (h : a.grownBy b (some r)) (hr : r ∈ O) : Kept O a b :=
  ⟨h.os, h.tape, h.output, h.size, fun k hk hn => h.block k hk (by intro e; cases e; exact hn hr)⟩
theorem Kept.below {O : List Nat} {a b : World} (h : Kept O a b) (B : Nat) (hB : B ≤ a.heap.size) (hO : ∀ g, g ∈ O → B ≤ g) : Below B a b :=
  ⟨h.os, h.tape, h.output, h.size, fun k hk => h.block k (by omega) fun e => by have := hO k e; omega⟩

/-! ### chains -/
def Ch {α : Type} (R : α → α → Prop) : List α → Prop
  | a :: b :: t => R a b ∧ Ch R (b :: t)
  | _ => True

theorem Ch.split {α : Type} {R : α → α → Prop} {p q : α} {B : List α} : ∀ {A : List α}, Ch R (A ++ p :: q :: B) ↔ Ch R (A ++ [p]) ∧ R p q ∧ Ch R (q :: B)
  | [] => by simp [Ch]
  | [a] => by simp [Ch, and_assoc]
  | a :: b :: A => by
    have ih := Ch.split (R := R) (p := p) (q := q) (B := B) (A := b :: A)
    simp only [List.cons_append] at ih ⊢
    simp only [Ch]
    rw [ih, and_assoc]

theorem Ch.mono {α : Type} {R R' : α → α → Prop} : ∀ {l : List α}, Ch R l → (∀ a b, a ∈ l.dropLast → b ∈ l.tail → R a b → R' a b) → Ch R' l
  | [], _, _ => trivial
  | [_], _, _ => trivial
  | a :: b :: t, h, hm => by
    refine ⟨hm a b (by simp) (by simp) h.1, Ch.mono h.2 fun x y hx hy => hm x y ?_ ?_⟩
    · simp only [List.dropLast_cons_cons] at hx ⊢; exact List.mem_cons_of_mem _ hx
    · simp only [List.tail_cons] at hy ⊢; exact List.mem_cons_of_mem _ hy

/-- Two places that stand side by side. -/
def Lk (F : Gm) (u v : Pl) : Prop := F u.1 (u.2 + 3) = some (ptr v) ∧ F v.1 (v.2 + 2) = some (ptr u)

theorem Lk.agree {F G : Gm} {u v : Pl} (h : Lk F u v) (h1 : G u.1 (u.2 + 3) = F u.1 (u.2 + 3)) (h2 : G v.1 (v.2 + 2) = F v.1 (v.2 + 2)) : Lk G u v := ⟨h1.trans h.1, h2.trans h.2⟩

theorem concat_of_cons {α : Type} (a : α) : ∀ (l : List α), ∃ A p, a :: l = A ++ [p]
  | [] => ⟨[], a, rfl⟩
  | b :: l => by
    obtain ⟨A, p, h⟩ := concat_of_cons b l
    exact ⟨a :: A, p, by rw [h]; rfl⟩

theorem cons_of_concat {α : Type} (a : α) : ∀ (l : List α), ∃ q B, l ++ [a] = q :: B
  | [] => ⟨a, [], rfl⟩
  | b :: l => ⟨b, l ++ [a], rfl⟩

/-- The two links that are laid anew where a place comes or goes. -/
def laid (F : Gm) (p q : Pl) (u v : Value) : Gm := upd (upd F p.1 (p.2 + 3) u) q.1 (q.2 + 2) v

def Al (p : Pl) : Prop := p.2 % 5 = 0

section
variable {F : Gm} {p q a : Pl} {u v : Value}
theorem laid_next (hp : Al p) (hq : Al q) (ha : Al a) (hne : a ≠ p) : laid F p q u v a.1 (a.2 + 3) = F a.1 (a.2 + 3) := by
  unfold Al at *
  unfold laid
  rw [upd_other (by omega), upd_other]
  rintro ⟨h1, h2⟩
  exact hne (Prod.ext h1 (by omega))
theorem laid_back (hp : Al p) (hq : Al q) (ha : Al a) (hne : a ≠ q) : laid F p q u v a.1 (a.2 + 2) = F a.1 (a.2 + 2) := by
  unfold Al at *
  unfold laid
  rw [upd_other, upd_other (by omega)]
  rintro ⟨h1, h2⟩
  exact hne (Prod.ext h1 (by omega))
theorem laid_p (hp : Al p) (hq : Al q) : laid F p q u v p.1 (p.2 + 3) = some u := by
  unfold Al at *
  unfold laid
  rw [upd_other (by omega), upd_same]
theorem laid_q : laid F p q u v q.1 (q.2 + 2) = some v := upd_same _ _ _ _
theorem laid_else {x y : Nat} (hp : Al p) (hq : Al q) (h2 : y % 5 ≠ 2) (h3 : y % 5 ≠ 3) : laid F p q u v x y = F x y := by
  unfold Al at *
  unfold laid
  rw [upd_other (by omega), upd_other (by omega)]
theorem laid_far {x y : Nat} (hp : x ≠ p.1) (hq : x ≠ q.1) : laid F p q u v x y = F x y := by
  unfold laid
  rw [upd_other (by omega), upd_other (by omega)]

/-- A chain that does not touch the two. -/
theorem ch_far {l : List Pl} (h : Ch (Lk F) l) (hp : Al p) (hq : Al q) (hl : ∀ a, a ∈ l → Al a) (h1 : p ∉ l) (h2 : q ∉ l) : Ch (Lk (laid F p q u v)) l :=
  h.mono fun a b ha hb hab =>
    have ma : a ∈ l := List.dropLast_subset l ha
    have mb : b ∈ l := List.mem_of_mem_tail hb
    hab.agree (laid_next hp hq (hl a ma) (fun e => h1 (e ▸ ma))) (laid_back hp hq (hl b mb) (fun e => h2 (e ▸ mb)))

/-- Two pieces of one ring stay while the links between them are laid anew. -/
theorem ch_join {e : Pl} {l1 l2 A B : List Pl} (hA : e :: l1 = A ++ [p]) (hB : l2 ++ [e] = q :: B) (h1 : Ch (Lk F) (A ++ [p])) (h2 : Ch (Lk F) (q :: B)) (nd : (e :: (l1 ++ l2)).Nodup) (al : ∀ a, a ∈ e :: (l1 ++ l2) → Al a) :
    Al p ∧ Al q ∧ Ch (Lk (laid F p q u v)) (A ++ [p]) ∧ Ch (Lk (laid F p q u v)) (q :: B) := by
  have nd1 : (A ++ [p]).Nodup := by
    rw [← hA]
    exact nd.sublist (by simp)
  have hpA : p ∉ A := by
    intro hm
    have := List.nodup_append.1 nd1
    exact this.2.2 p hm p (by simp) rfl
  have nd2 : (q :: B).Nodup := by
    rw [← hB]
    have : (e :: l2).Nodup := nd.sublist (by simp)
    obtain ⟨x1, x2⟩ := List.nodup_cons.1 this
    exact List.nodup_append.2 ⟨x2, by simp, by intro a ha b hb; simp at hb; subst hb; rintro rfl; exact x1 ha⟩
  have hqB : q ∉ B := (List.nodup_cons.1 nd2).1
  have mp : p ∈ e :: l1 := by rw [hA]; simp
  have mq : q ∈ l2 ++ [e] := by rw [hB]; simp
  have alp : Al p := al p (by rcases List.mem_cons.1 mp with r | r; simp [r]; simp [r])
  have alq : Al q := al q (by rcases List.mem_append.1 mq with r | r; simp [r]; simp at r; simp [r])
  have alA : ∀ a, a ∈ A ++ [p] → Al a := by
    intro a ha
    rw [← hA] at ha
    exact al a (by rcases List.mem_cons.1 ha with r | r; simp [r]; simp [r])
  have alB : ∀ a, a ∈ q :: B → Al a := by
    intro a ha
    rw [← hB] at ha
    exact al a (by rcases List.mem_append.1 ha with r | r; simp [r]; simp at r; simp [r])
  obtain ⟨nde, nd'⟩ := List.nodup_cons.1 nd
  have ndd := List.nodup_append.1 nd'
  refine ⟨alp, alq, ?_, ?_⟩
  · refine h1.mono fun a b ha hb hab => ?_
    rw [List.dropLast_concat] at ha
    have hb' : b ∈ l1 := by rw [← hA] at hb; simpa using hb
    refine hab.agree (laid_next alp alq (alA a (by simp [ha])) (fun e1 => hpA (e1 ▸ ha))) (laid_back alp alq (alA b (by rw [← hA]; simp [hb'])) ?_)
    rintro rfl
    rcases List.mem_append.1 mq with r | r
    · exact ndd.2.2 b hb' b r rfl
    · simp at r
      subst r
      exact nde (by simp [hb'])
  · refine h2.mono fun a b ha hb hab => ?_
    have ha' : a ∈ l2 := by rw [← hB, List.dropLast_concat] at ha; exact ha
    have hb' : b ∈ B := by simpa using hb
    refine hab.agree (laid_next alp alq (alB a (by rw [← hB]; simp [ha'])) ?_) (laid_back alp alq (alB b (by simp [hb'])) (fun e1 => hqB (e1 ▸ hb')))
    rintro rfl
    rcases List.mem_cons.1 mp with r | r
    · subst r
      exact nde (by simp [ha'])
    · exact ndd.2.2 a r a ha' rfl

/-- A place leaves its ring. -/
theorem ring_cut {e x : Pl} {l1 l2 : List Pl} (h : Ch (Lk F) (e :: l1 ++ x :: (l2 ++ [e]))) (nd : (e :: (l1 ++ l2)).Nodup) (al : ∀ a, a ∈ e :: (l1 ++ l2) → Al a) :
    ∃ p q, p ∈ e :: l1 ∧ q ∈ l2 ++ [e] ∧ Al p ∧ Al q ∧ Lk F p x ∧ Lk F x q ∧ Ch (Lk (laid F p q (ptr q) (ptr p))) (e :: l1 ++ (l2 ++ [e])) := by
  obtain ⟨A, p, hA⟩ := concat_of_cons e l1
  obtain ⟨q, B, hB⟩ := cons_of_concat e l2
  rw [hA, hB, List.append_assoc, List.singleton_append] at h
  obtain ⟨h1, hpx, h2⟩ := Ch.split.1 h
  obtain ⟨hxq, h3⟩ : Lk F x q ∧ Ch (Lk F) (q :: B) := h2
  obtain ⟨alp, alq, k1, k2⟩ := ch_join (u := ptr q) (v := ptr p) hA hB h1 h3 nd al
  refine ⟨p, q, by rw [hA]; simp, by rw [hB]; simp, alp, alq, hpx, hxq, ?_⟩
  rw [hA, hB, List.append_assoc, List.singleton_append]
  exact Ch.split.2 ⟨k1, ⟨laid_p alp alq, laid_q⟩, k2⟩

/-- A place comes into a ring. -/
theorem ring_put {e x : Pl} {l1 l2 A B : List Pl} (hA : e :: l1 = A ++ [p]) (hB : l2 ++ [e] = q :: B) (h : Ch (Lk F) (e :: l1 ++ (l2 ++ [e]))) (nd : (e :: (l1 ++ l2)).Nodup) (al : ∀ a, a ∈ e :: (l1 ++ l2) → Al a)
    (hx : Al x) (hp : x ≠ p) (hq : x ≠ q) (h2 : F x.1 (x.2 + 2) = some (ptr p)) (h3 : F x.1 (x.2 + 3) = some (ptr q)) :
    Al p ∧ Al q ∧ Lk F p q ∧ Ch (Lk (laid F p q (ptr x) (ptr x))) (e :: l1 ++ x :: (l2 ++ [e])) := by
  rw [hA, hB, List.append_assoc, List.singleton_append] at h
  obtain ⟨h1, hpq, k3⟩ := Ch.split.1 h
  obtain ⟨alp, alq, k1, k2⟩ := ch_join (u := ptr x) (v := ptr x) hA hB h1 k3 nd al
  refine ⟨alp, alq, hpq, ?_⟩
  rw [hA, hB, List.append_assoc, List.singleton_append]
  exact Ch.split.2 ⟨k1, ⟨laid_p alp alq, (laid_back alp alq hx hq).trans h2⟩, ⟨(laid_next alp alq hx hp).trans h3, laid_q⟩, k2⟩
end
end Go.Proofs.Ytnjpdcoahojgbaa
