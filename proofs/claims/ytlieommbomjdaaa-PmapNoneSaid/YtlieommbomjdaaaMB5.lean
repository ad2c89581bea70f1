/- The law's alike: the same frames, and the same bytes of tables, in both. Several spaces in one memory, the program's beside the document's; other blocks of the law's own (B). Several spaces in both: a new one, one that is closed. Several spaces in both: the calls New and Close. Layer 7's acts: their cells, what they read as. Layer 7: two spaces in one memory; what is done to the one leaves the other's page. Layer 7: PmapApart, walked. -/
import Derived.Test.YtlieommbomjdaaaMB4
import Derived.Test.YtlieommbomjdaaaWB1
import Derived.Test.YtlieommbomjdaaaFB1
import Derived.Test.YtlieommbomjdaaaQB7
import Derived.Test.YtlieommbomjdaaaMUints
import Derived.Deep.CutBlock
import Derived.Deep.DeepCutAuto
namespace Go.Proofs.Ytlieommbomjdaaa
open Go.ChangeShapes Go.WideShapes Go.ChangeAt Go.RowKit Go.Deep
open Extern.Stop (cell)
set_option linter.unusedVariables false

section
variable {w0 w w' : World} {m d n p : Nat} {O : List Nat} {rb fb pb gb : Nat} {R : List Nat} {W : WoF} {xs : List FrV}
end
end Go.Proofs.Ytlieommbomjdaaa

namespace Go.Proofs.Ytlieommbomjdaaa
open Go.ChangeShapes Go.WideShapes Go.ChangeAt Go.RowKit Go.Deep
set_option linter.unusedVariables false

/-- A space in both: the program's block and its blocks; the document's; its number, root, how many tables. -/
structure Sp7 where
  x : Nat
  OX : List Nat
  y : Nat
  a : Int
  r : Int
  N : Int

/-! ### the model -/
structure MSt (n : Nat) (W : WoF) (xs : List FrV) (l : List Sp7) : Prop where
  ok : MOk n ⟨W, xs, 0⟩ noE
  root : ∀ q, q ∈ l → Tab (getF xs) q.r q.a 0
  N : ∀ q, q ∈ l → q.N = cntF xs q.a
  a : ∀ q, q ∈ l → okI q.a
  own : ∀ b, (∀ q, q ∈ l → q.a ≠ b) → cntF xs b = 0
  uniq : ∀ (i j : Nat) (q q' : Sp7), l[i]? = some q → l[j]? = some q' → q.a = q'.a → i = j
theorem MOk.any {n : Nat} {W : WoF} {xs : List FrV} {N : Int} {E : Int → Prop} (h : MOk n ⟨W, xs, N⟩ E) (N' : Int) : MOk n ⟨W, xs, N'⟩ E := ⟨h.tree, h.len, h.le⟩
theorem mem_set_cases {α : Type} {l : List α} {i : Nat} {q q' x : α} (hq : l[i]? = some q) (hx : x ∈ l.set i q') : x = q' ∨ ∃ j, j ≠ i ∧ l[j]? = some x := by
  obtain ⟨j, hj⟩ := List.getElem?_of_mem hx
  by_cases e : j = i
  · subst e
    rw [List.getElem?_set_self (List.getElem?_eq_some_iff.1 hq).1] at hj
    exact .inl (Option.some.inj hj).symm
  · rw [List.getElem?_set_ne (fun h => e h.symm)] at hj
    exact .inr ⟨j, e, hj⟩
theorem get_set_cases {α : Type} {l : List α} {i j : Nat} {q q' x : α} (hq : l[i]? = some q) (hx : (l.set i q')[j]? = some x) : (j = i ∧ x = q') ∨ (j ≠ i ∧ l[j]? = some x) := by
  by_cases e : j = i
  · subst e
    rw [List.getElem?_set_self (List.getElem?_eq_some_iff.1 hq).1] at hx
    exact .inl ⟨rfl, (Option.some.inj hx).symm⟩
  · rw [List.getElem?_set_ne (fun h => e h.symm)] at hx
    exact .inr ⟨e, hx⟩

section
variable {n : Nat} {W : WoF} {xs : List FrV} {l : List Sp7} {i : Nat} {q q' : Sp7} {s' : MS}
theorem MSt.inv (h : MSt n W xs l) (hq : l[i]? = some q) : Inv7 n ⟨W, xs, q.N⟩ q.a q.r :=
  ⟨h.ok.any _, h.root q (List.mem_of_getElem? hq), h.N q (List.mem_of_getElem? hq), h.a q (List.mem_of_getElem? hq)⟩
theorem MSt.step (h : MSt n W xs l) (hq : l[i]? = some q) (h1 : MOk n s' noE) (h2 : Only q.a ⟨W, xs, q.N⟩ s') (h3 : Tab (getF s'.xs) q.r q.a 0) (h4 : Cnt q.a ⟨W, xs, q.N⟩ s') (ea : q'.a = q.a) (er : q'.r = q.r) (eN : q'.N = s'.N) : MSt n s'.W s'.xs (l.set i q') := by
  have hqm := List.mem_of_getElem? hq
  have other : ∀ j q2, j ≠ i → l[j]? = some q2 → q2.a ≠ q.a := fun j q2 hj h2 e => hj (h.uniq j i q2 q h2 hq e)
  refine ⟨h1.any 0, fun q2 hm => ?_, fun q2 hm => ?_, fun q2 hm => ?_, fun b hb => ?_, fun j k q2 q3 hj hk e => ?_⟩
  · rcases mem_set_cases hq hm with rfl | ⟨j, hj, hm⟩
    · rw [ea, er]; exact h3
    · have ht := h.root q2 (List.mem_of_getElem? hm)
      obtain ⟨e1, _⟩ := h2 q2.r (fun l' hl' => other j q2 hj hm (ht.eq hl').1) (fun e => ht.notFree e)
      unfold Tab at ht ⊢
      rw [e1]; exact ht
  · rcases mem_set_cases hq hm with rfl | ⟨j, hj, hm⟩
    · rw [ea, eN]
      have := h4.own
      have hN : q.N = cntF xs q.a := h.N q hqm
      simp only at this
      omega
    · rw [h.N q2 (List.mem_of_getElem? hm)]
      exact (h4.oth q2.a (other j q2 hj hm)).symm
  · rcases mem_set_cases hq hm with rfl | ⟨j, hj, hm⟩
    · rw [ea]; exact h.a q hqm
    · exact h.a q2 (List.mem_of_getElem? hm)
  · have hbq : b ≠ q.a := fun e => hb q' (List.mem_of_getElem? (List.getElem?_set_self (List.getElem?_eq_some_iff.1 hq).1)) (by rw [ea, e])
    rw [h4.oth b hbq]
    refine h.own b fun q2 hm => ?_
    obtain ⟨j, hj⟩ := List.getElem?_of_mem hm
    by_cases e : j = i
    · subst e; rw [hq] at hj; cases hj; exact fun e => hbq e.symm
    · exact hb q2 (List.mem_of_getElem? (by rw [List.getElem?_set_ne (fun h => e h.symm)]; exact hj))
  · rcases get_set_cases hq hj with ⟨rfl, rfl⟩ | ⟨hj1, hj2⟩ <;> rcases get_set_cases hq hk with ⟨rfl, rfl⟩ | ⟨hk1, hk2⟩
    · rfl
    · rw [ea] at e; exact (other k q3 hk1 hk2 e.symm).elim
    · rw [ea] at e; exact (other j q2 hj1 hj2 e).elim
    · exact h.uniq j k q2 q3 hj2 hk2 e
end

/-! ### the program's, the document's -/
structure PSt (S : SpP) (w0 w : World) (m d n p : Nat) (O : List Nat) (W : WoF) (xs : List FrV) (l : List Sp7) : Prop where
  pm : PM w0 w m d n p O W xs
  sp : ∀ q, q ∈ l → S w q.x m p q.a q.r q.N q.OX
  xge : ∀ q, q ∈ l → ∀ b, b ∈ q.OX → w0.heap.size ≤ b
  apart : ∀ q, q ∈ l → ∀ b, b ∈ q.OX → b ∉ m :: d :: O
  apart2 : ∀ (i j : Nat) (q q' : Sp7), l[i]? = some q → l[j]? = some q' → i ≠ j → ∀ b, b ∈ q.OX → b ∉ q'.OX
def PB (m d : Nat) (O : List Nat) (l : List Sp7) : List Nat := m :: d :: (O ++ l.flatMap Sp7.OX)
def DB (rb fb : Nat) (R : List Nat) (pb gb : Nat) (l : List Sp7) : List Nat := pb :: gb :: rb :: fb :: (R ++ l.map Sp7.y)

section
variable {S : SpP} {Z : World → Nat → List Nat → Prop} {w0 w w' : World} {m d n p : Nat} {O : List Nat} {rb fb pb gb : Nat} {R : List Nat} {W : WoF} {xs : List FrV} {l : List Sp7} {i : Nat} {q q' : Sp7} {s' : MS} {O2 : List Nat}
theorem PB_mem {b : Nat} : b ∈ PB m d O l ↔ b = m ∨ b = d ∨ b ∈ O ∨ ∃ q, q ∈ l ∧ b ∈ q.OX := by
  unfold PB
  simp only [List.mem_cons, List.mem_append, List.mem_flatMap]
theorem DB_mem {b : Nat} : b ∈ DB rb fb R pb gb l ↔ b ∈ pb :: gb :: rb :: fb :: R ∨ ∃ q, q ∈ l ∧ b = q.y := by
  unfold DB
  simp only [List.mem_cons, List.mem_append, List.mem_map]
  constructor
  · rintro (h | h | h | h | h | ⟨q, h1, h2⟩)
    · exact .inl (.inl h)
    · exact .inl (.inr (.inl h))
    · exact .inl (.inr (.inr (.inl h)))
    · exact .inl (.inr (.inr (.inr (.inl h))))
    · exact .inl (.inr (.inr (.inr (.inr h))))
    · exact .inr ⟨q, h1, h2.symm⟩
  · rintro ((h | h | h | h | h) | ⟨q, h1, h2⟩)
    · exact .inl h
    · exact .inr (.inl h)
    · exact .inr (.inr (.inl h))
    · exact .inr (.inr (.inr (.inl h)))
    · exact .inr (.inr (.inr (.inr (.inl h))))
    · exact .inr (.inr (.inr (.inr (.inr ⟨q, h1, h2.symm⟩))))
theorem PM.mge (h : PM w0 w m d n p O W xs) : w0.heap.size ≤ m := by
  obtain ⟨⟨M, h1, _⟩, _⟩ := h
  exact h1.mge
theorem PSt.ge (h : PSt S w0 w m d n p O W xs l) : ∀ b, b ∈ PB m d O l → w0.heap.size ≤ b := by
  intro b hb
  rcases PB_mem.1 hb with rfl | rfl | hb | ⟨q, hq, hb⟩
  · exact h.pm.mge
  · exact h.pm.dge
  · exact h.pm.oge b hb
  · exact h.xge q hq b hb
theorem PSt.lt (H : PmOk S Z) (h : PSt S w0 w m d n p O W xs l) : ∀ b, b ∈ PB m d O l → b < w.heap.size := by
  intro b hb
  rcases PB_mem.1 hb with rfl | rfl | hb | ⟨q, hq, hb⟩
  · exact h.pm.lt b (by simp)
  · exact h.pm.lt b (by simp)
  · exact h.pm.lt b (by simp [hb])
  · exact H.lt (h.sp q hq) b hb
/-- Whatever turns nothing of the program's. -/
theorem PSt.turn (H : PmOk S Z) (h : PSt S w0 w m d n p O W xs l) (g : Turn O2 w w') (ho : ∀ b, b ∈ PB m d O l → b ∉ O2) (h0 : ∀ b, b ∈ O2 → w0.heap.size ≤ b) : PSt S w0 w' m d n p O W xs l :=
  ⟨h.pm.turn g (fun b hb => ho b (PB_mem.2 (by simp only [List.mem_cons] at hb; rcases hb with e | e | e; exact .inl e; exact .inr (.inl e); exact .inr (.inr (.inl e))))) h0,
    fun q hq => H.kept (h.sp q hq) g.size fun b hb => g.block b (H.lt (h.sp q hq) b hb) (ho b (PB_mem.2 (.inr (.inr (.inr ⟨q, hq, hb⟩))))), h.xge, h.apart, h.apart2⟩
theorem PSt.px (h : PSt S w0 w m d n p O W xs l) (hq : l[i]? = some q) : PX S w0 w m d n p O q.x q.OX q.a q.r ⟨W, xs, q.N⟩ :=
  ⟨h.pm, h.sp q (List.mem_of_getElem? hq), h.xge q (List.mem_of_getElem? hq), h.apart q (List.mem_of_getElem? hq)⟩
/-- A call on one of the program's spaces. -/
theorem PSt.step (H : PmOk S Z) (h : PSt S w0 w m d n p O W xs l) (hq : l[i]? = some q) (k : PXL S w0 w w' m d n p O q.x q.OX q.a q.r s') :
    ∃ O' OX', PSt S w0 w' m d n p O' s'.W s'.xs (l.set i ⟨q.x, OX', q.y, q.a, q.r, s'.N⟩) ∧ Turn (PB m d O l) w w' ∧ ∀ b, b ∈ PB m d O' (l.set i ⟨q.x, OX', q.y, q.a, q.r, s'.N⟩) → b ∈ PB m d O l ∨ w.heap.size ≤ b := by
  obtain ⟨O', OX', k1, k2, k3, k4⟩ := k
  have hqm := List.mem_of_getElem? hq
  have hlt : ∀ q2, q2 ∈ l → ∀ b, b ∈ q2.OX → b < w.heap.size := fun q2 h2 b hb => H.lt (h.sp q2 h2) b hb
  refine ⟨O', OX', ⟨k1.pm, fun q2 hm => ?_, fun q2 hm => ?_, fun q2 hm => ?_, fun j1 j2 q2 q3 h2 h3 hne b hb hb3 => ?_⟩, k2.mono fun b hb => ?_, fun b hb => ?_⟩
  · rcases mem_set_cases hq hm with rfl | ⟨j, hj, hm⟩
    · exact k1.sp
    · have hm2 := List.mem_of_getElem? hm
      refine H.kept (h.sp q2 hm2) k2.size fun b hb => k2.block b (hlt q2 hm2 b hb) fun hx => ?_
      simp only [List.mem_cons, List.mem_append] at hx
      rcases hx with e | hx | hx
      · exact h.apart q2 hm2 b hb (by simp [e])
      · exact h.apart q2 hm2 b hb (by simp [hx])
      · exact h.apart2 j i q2 q hm hq hj b hb hx
  · rcases mem_set_cases hq hm with rfl | ⟨j, hj, hm⟩
    · exact k1.xge
    · exact h.xge q2 (List.mem_of_getElem? hm)
  · rcases mem_set_cases hq hm with rfl | ⟨j, hj, hm⟩
    · exact k1.apart
    · have hm2 := List.mem_of_getElem? hm
      intro b hb hx
      simp only [List.mem_cons] at hx
      rcases hx with e | e | hx
      · exact h.apart q2 hm2 b hb (by simp [e])
      · exact h.apart q2 hm2 b hb (by simp [e])
      · rcases k3 b hx with e | e
        · exact h.apart q2 hm2 b hb (by simp [e])
        · have := hlt q2 hm2 b hb; omega
  · rcases get_set_cases hq h2 with ⟨e2, rfl⟩ | ⟨e2, k2'⟩ <;> rcases get_set_cases hq h3 with ⟨e3, rfl⟩ | ⟨e3, k3'⟩
    · exact hne (e2.trans e3.symm)
    · rcases k4 b hb with e | e
      · exact h.apart2 i j2 q q3 hq k3' (fun q => e3 q.symm) b e hb3
      · have := hlt q3 (List.mem_of_getElem? k3') b hb3; omega
    · rcases k4 b hb3 with e | e
      · exact h.apart2 j1 i q2 q k2' hq e2 b hb e
      · have := hlt q2 (List.mem_of_getElem? k2') b hb; omega
    · exact h.apart2 j1 j2 q2 q3 k2' k3' hne b hb hb3
  · refine PB_mem.2 ?_
    simp only [List.mem_cons, List.mem_append] at hb
    rcases hb with e | e | e
    · exact .inr (.inl e)
    · exact .inr (.inr (.inl e))
    · exact .inr (.inr (.inr ⟨q, hqm, e⟩))
  · rcases PB_mem.1 hb with e | e | e | ⟨q2, hm, e⟩
    · exact .inl (PB_mem.2 (.inl e))
    · exact .inl (PB_mem.2 (.inr (.inl e)))
    · rcases k3 b e with e | e
      · exact .inl (PB_mem.2 (.inr (.inr (.inl e))))
      · exact .inr e
    · rcases mem_set_cases hq hm with rfl | ⟨j, hj, hm⟩
      · rcases k4 b e with e | e
        · exact .inl (PB_mem.2 (.inr (.inr (.inr ⟨q, hqm, e⟩))))
        · exact .inr e
      · exact .inl (PB_mem.2 (.inr (.inr (.inr ⟨q2, List.mem_of_getElem? hm, e⟩))))
end

section
variable {S : SpP} {Z : World → Nat → List Nat → Prop} {w0 w w' : World} {m d n p rb fb pb : Nat} {R B B' : List Nat} {W W' : WoF} {xs xs' : List FrV} {l l' : List Sp7} {i : Nat} {q q' : Sp7} {s' : MS}
end
end Go.Proofs.Ytlieommbomjdaaa

namespace Go.Proofs.Ytlieommbomjdaaa
open Go.ChangeShapes Go.WideShapes Go.ChangeAt Go.RowKit Go.Deep
set_option linter.unusedVariables false

/-! ### the model -/
section
variable {n : Nat} {W : WoF} {xs : List FrV} {l : List Sp7} {i : Nat} {q q' : Sp7} {s' : MS} {a : Int}
theorem cnt_none {F : List FrV} {W : WoF} {E : Int → Prop} (hT : Tree (getF F) W E) (hno : ∀ f l, ¬ Tab (getF F) f a l) : cntF F a = 0 := by
  unfold cntF
  rw [List.countP_eq_zero.2]
  · rfl
  · intro z hz hp
    simp only [Bool.and_eq_true, beq_iff_eq] at hp
    obtain ⟨i, hi⟩ := List.getElem?_of_mem hz
    have hg := getF_at hi
    rcases hT.all _ _ hg with e | ⟨b, l, e, _⟩
    · rw [e] at hp; exact absurd hp.1 (by decide)
    · have hb : b = a := by rw [e] at hp; exact hp.2
      subst hb
      exact hno i l (by unfold Tab; rw [hg, e])
theorem cnt_no_tab {F : List FrV} {f l : Int} (h : cntF F a = 0) : ¬ Tab (getF F) f a l := fun ht => by
  obtain ⟨_, _, hx⟩ := getF_some ht
  unfold cntF at h
  have h0 : F.countP (fun x => x.cl == 1 && x.ow == a) = 0 := by omega
  have := List.countP_eq_zero.1 h0 _ (List.mem_of_getElem? hx)
  simp [tabF] at this
theorem mst_nil (n : Nat) (hn : n ≤ 256) (W : WoF) : MSt n W (List.replicate n zeroF) [] := by
  refine ⟨ok_free n hn W 0, fun q hq => (List.not_mem_nil hq).elim, fun q hq => (List.not_mem_nil hq).elim, fun q hq => (List.not_mem_nil hq).elim, fun b _ => ?_, fun i j q q' hi => by simp at hi⟩
  refine cnt_none (ok_free n hn W 0).tree fun f l hf => ?_
  obtain ⟨_, _, h⟩ := getF_some hf
  exact tabF_ne (List.eq_of_mem_replicate (List.mem_of_getElem? h))
theorem get_app_cases {α : Type} {l : List α} {j : Nat} {q x : α} (hx : (l ++ [q])[j]? = some x) : (j = l.length ∧ x = q) ∨ (j < l.length ∧ l[j]? = some x) := by
  by_cases e : j < l.length
  · rw [List.getElem?_append_left e] at hx
    exact .inr ⟨e, hx⟩
  · rw [List.getElem?_append_right (by omega)] at hx
    have := (List.getElem?_eq_some_iff.1 hx).1
    simp at this
    obtain rfl : j = l.length := by omega
    simp at hx
    exact .inl ⟨rfl, hx.symm⟩
/-- A new space, if there is a frame. -/
theorem MSt.new (h : MSt n W xs l) (ha : okI a) (hno : ∀ q, q ∈ l → q.a ≠ a) :
    takeF 0 xs 1 a 0 = ⟨0, 5, xs⟩ ∨ ∃ (k : Nat) (zs : List FrV), k < n ∧ takeF 0 xs 1 a 0 = ⟨k, 0, zs⟩ ∧ ∀ x OX y, MSt n (zeroW W k) zs (l ++ [⟨x, OX, y, a, k, 1⟩]) := by
  rcases take_cases xs a 0 with e | ⟨k, hk, e⟩
  · exact .inl e
  · right
    have hlen : xs.length = n := h.ok.len
    have hc0 := h.own a hno
    have hnt : ∀ g l', ¬ Tab (getF xs) g a l' := fun g l' => cnt_no_tab hc0
    have hN : newM a (⟨W, xs, 0⟩ : MS) = ((0 : Int), (k : Int), (⟨zeroW W k, xs.set k (tabF a 0), 1⟩ : MS)) := by
      unfold newM
      simp only
      rw [e]
      rfl
    rcases h.ok.new hnt with ⟨e1, _⟩ | ⟨_, _, k1, k2, k3, k4, k5, k6, k7, k8⟩
    · rw [hN] at e1; exact absurd e1 (by show ¬ ((0 : Int) = 5); decide)
    · rw [hN] at k1 k2 k3 k4 k5 k6 k7 k8
      refine ⟨k, xs.set k (tabF a 0), by omega, e, fun x OX y => ⟨k1.any 0, fun q hq => ?_, fun q hq => ?_, fun q hq => ?_, fun b hb => ?_, fun i j q q' hi hj e => ?_⟩⟩
      · rcases List.mem_append.1 hq with hq | hq
        · have ht := h.root q hq
          obtain ⟨e1, _⟩ := k2 q.r (fun l' hl' => hnt _ _ hl') (fun e => ht.notFree e)
          unfold Tab at ht ⊢
          exact e1.trans ht
        · obtain rfl := List.mem_singleton.1 hq
          exact k3
      · rcases List.mem_append.1 hq with hq | hq
        · rw [h.N q hq]
          exact (k7 q.a (hno q hq)).symm
        · obtain rfl := List.mem_singleton.1 hq
          show (1 : Int) = cntF (xs.set k (tabF a 0)) a
          have := k6
          simp only at this
          omega
      · rcases List.mem_append.1 hq with hq | hq
        · exact h.a q hq
        · obtain rfl := List.mem_singleton.1 hq
          exact ha
      · have hba : b ≠ a := fun e => hb ⟨x, OX, y, a, k, 1⟩ (by simp) e.symm
        refine (k7 b hba).trans (h.own b fun q hq => hb q (by simp [hq]))
      · rcases get_app_cases hi with ⟨e1, rfl⟩ | ⟨e1, hi⟩ <;> rcases get_app_cases hj with ⟨e2, rfl⟩ | ⟨e2, hj⟩
        · omega
        · exact (hno q' (List.mem_of_getElem? hj) e.symm).elim
        · exact (hno q (List.mem_of_getElem? hi) e).elim
        · exact h.uniq i j q q' hi hj e
/-- The first of those that are left is closed. -/
theorem MSt.close (h : MSt n W xs (q :: l)) : MSt n W (closeM n q.r ⟨W, xs, q.N⟩).2 l := by
  obtain ⟨k1, k2, k3, k4, k5, k6⟩ := (h.ok.any q.N).close (h.root q (by simp)) 0
  generalize (closeM n q.r ⟨W, xs, q.N⟩).2 = C at *
  have hne : ∀ q2, q2 ∈ l → q2.a ≠ q.a := fun q2 h2 e => by
    obtain ⟨j, hj⟩ := List.getElem?_of_mem h2
    have := h.uniq (j + 1) 0 q2 q (by simpa using hj) (by simp) e
    omega
  refine ⟨k1, fun q2 h2 => ?_, fun q2 h2 => ?_, fun q2 h2 => h.a q2 (by simp [h2]), fun b hb => ?_, fun i j q2 q3 hi hj e => ?_⟩
  · have ht0 := h.root q2 (by simp [h2])
    have ht := ht0
    unfold Tab at ht ⊢
    rw [k3 q2.r fun l' hl' => hne q2 h2 (ht0.eq hl').1]
    exact ht
  · rw [h.N q2 (by simp [h2])]
    exact (k6 q2.a (hne q2 h2)).symm
  · by_cases e : b = q.a
    · subst e
      refine cnt_none k1.tree fun f l' hf => ?_
      by_cases hx : ∃ l2, Tab (getF xs) f q.a l2
      · obtain ⟨l2, hl2⟩ := hx
        have := k2 f l2 hl2
        exact hf.notFree this
      · have := k3 f fun l2 hl2 => hx ⟨l2, hl2⟩
        exact hx ⟨l', by unfold Tab at hf ⊢; rw [← this]; exact hf⟩
    · refine (k6 b e).trans (h.own b fun q2 h2 => ?_)
      rcases List.mem_cons.1 h2 with rfl | h2
      · exact fun e2 => e e2.symm
      · exact hb q2 h2
  · have := h.uniq (i + 1) (j + 1) q2 q3 (by simpa using hi) (by simpa using hj) e
    omega
theorem MSt.free (h : MSt n W xs []) : countF xs 0 = n := by
  refine (h.ok.all_free fun f a l hf => ?_).1
  exact cnt_no_tab (h.own a fun q hq => (List.not_mem_nil hq).elim) hf
end
end Go.Proofs.Ytlieommbomjdaaa

namespace Go.Proofs.Ytlieommbomjdaaa
open Go.ChangeShapes Go.WideShapes Go.ChangeAt Go.RowKit Go.Deep
set_option linter.unusedVariables false

section
variable {S : SpP} {Z : World → Nat → List Nat → Prop} {w0 w w' : World} {m d n p rb fb pb : Nat} {R B B' : List Nat} {W W' : WoF} {xs xs' zs : List FrV} {l l' : List Sp7} {i : Nat} {q q' : Sp7} {s' : MS} {a : Int} {k : Nat}

theorem PSt.again (H : PmOk S Z) {O O' : List Nat} {W2 : WoF} {zs : List FrV} (h : PSt S w0 w m d n p O W xs l) (k1 : PM w0 w' m d n p O' W2 zs) {OX : List Nat} (k2 : Turn (d :: (O ++ OX)) w w') (k3 : ∀ b, b ∈ O' → b ∈ O ∨ w.heap.size ≤ b) (hOX : ∀ q, q ∈ l → ∀ b, b ∈ q.OX → b ∉ OX) : PSt S w0 w' m d n p O' W2 zs l := by
  have hlt : ∀ q2, q2 ∈ l → ∀ b, b ∈ q2.OX → b < w.heap.size := fun q2 h2 b hb => H.lt (h.sp q2 h2) b hb
  refine ⟨k1, fun q2 hm => H.kept (h.sp q2 hm) k2.size fun b hb => k2.block b (hlt q2 hm b hb) fun hx => ?_, h.xge, fun q2 hm b hb hx => ?_, h.apart2⟩
  · simp only [List.mem_cons, List.mem_append] at hx
    rcases hx with e | hx | hx
    · exact h.apart q2 hm b hb (by simp [e])
    · exact h.apart q2 hm b hb (by simp [hx])
    · exact hOX q2 hm b hb hx
  · simp only [List.mem_cons] at hx
    rcases hx with e | e | hx
    · exact h.apart q2 hm b hb (by simp [e])
    · exact h.apart q2 hm b hb (by simp [e])
    · rcases k3 b hx with e | e
      · exact h.apart q2 hm b hb (by simp [e])
      · have := hlt q2 hm b hb; omega
theorem PB_y (m d : Nat) (O : List Nat) (l : List Sp7) (x : Nat) (OX : List Nat) (y y' : Nat) (a r N : Int) : PB m d O (l ++ [⟨x, OX, y, a, r, N⟩]) = PB m d O (l ++ [⟨x, OX, y', a, r, N⟩]) := by
  unfold PB
  simp
theorem PSt.y {O : List Nat} {x : Nat} {OX : List Nat} {y : Nat} {a r N : Int} (h : PSt S w0 w m d n p O W xs (l ++ [⟨x, OX, y, a, r, N⟩])) (y' : Nat) : PSt S w0 w m d n p O W xs (l ++ [⟨x, OX, y', a, r, N⟩]) := by
  have hl : ∀ q, q ∈ l → q ∈ l ++ [(⟨x, OX, y, a, r, N⟩ : Sp7)] := fun q hq => by simp [hq]
  have hq0 : (⟨x, OX, y, a, r, N⟩ : Sp7) ∈ l ++ [(⟨x, OX, y, a, r, N⟩ : Sp7)] := by simp
  have hgl : (l ++ [(⟨x, OX, y, a, r, N⟩ : Sp7)])[l.length]? = some ⟨x, OX, y, a, r, N⟩ := by simp
  have hg : ∀ j q, j < l.length → l[j]? = some q → (l ++ [(⟨x, OX, y, a, r, N⟩ : Sp7)])[j]? = some q := fun j q hj hq => by rw [List.getElem?_append_left hj]; exact hq
  refine ⟨h.pm, fun q hq => ?_, fun q hq => ?_, fun q hq => ?_, fun i j q q' hi hj hne b hb hb2 => ?_⟩
  · rcases List.mem_append.1 hq with hq | hq
    · exact h.sp q (hl q hq)
    · obtain rfl := List.mem_singleton.1 hq
      exact h.sp ⟨x, OX, y, a, r, N⟩ hq0
  · rcases List.mem_append.1 hq with hq | hq
    · exact h.xge q (hl q hq)
    · obtain rfl := List.mem_singleton.1 hq
      exact h.xge ⟨x, OX, y, a, r, N⟩ hq0
  · rcases List.mem_append.1 hq with hq | hq
    · exact h.apart q (hl q hq)
    · obtain rfl := List.mem_singleton.1 hq
      exact h.apart ⟨x, OX, y, a, r, N⟩ hq0
  · rcases get_app_cases hi with ⟨e1, rfl⟩ | ⟨e1, hi'⟩ <;> rcases get_app_cases hj with ⟨e2, rfl⟩ | ⟨e2, hj'⟩
    · omega
    · exact h.apart2 l.length j _ q' hgl (hg j q' e2 hj') (by omega) b hb hb2
    · exact h.apart2 i l.length q _ (hg i q e1 hi') hgl (by omega) b hb hb2
    · exact h.apart2 i j q q' (hg i q e1 hi') (hg j q' e2 hj') hne b hb hb2
/-- Close, of the first one that is left. -/
theorem PSt.tail {O : List Nat} (h : PSt S w0 w m d n p O W xs (q :: l)) : PSt S w0 w m d n p O W xs l :=
  ⟨h.pm, fun q2 h2 => h.sp q2 (by simp [h2]), fun q2 h2 => h.xge q2 (by simp [h2]), fun q2 h2 => h.apart q2 (by simp [h2]), fun i j q2 q3 hi hj hne => h.apart2 (i + 1) (j + 1) q2 q3 (by simpa using hi) (by simpa using hj) (by omega)⟩
end
end Go.Proofs.Ytlieommbomjdaaa

namespace Go.Proofs.Ytlieommbomjdaaa
open Go.ChangeShapes Go.WideShapes Go.ChangeAt Go.RowKit Go.Deep
set_option linter.unusedVariables false

/-- An act. -/
structure A7 where
  k : Int
  s : Int
  v : Int
  a : Int
  b : Int
def a7Cells (A : A7) : List Value := [.int .i64 A.k, .int .i64 A.s, .int .i64 A.v, .int .i64 A.a, .int .i64 A.b]
def A7B (w : World) (y : Nat) (A : A7) : Prop := w.heap[y]? = some (.cells #[.int .i64 A.k, .int .i64 A.s, .int .i64 A.v, .int .i64 A.a, .int .i64 A.b] 60 (0, 0))
theorem A7B.at {w : World} {y : Nat} {A : A7} (h : A7B w y A) : w.cell? ⟨y, 0, none⟩ = some (.int .i64 A.k) ∧ w.cell? ⟨y, 1, none⟩ = some (.int .i64 A.s) ∧ w.cell? ⟨y, 2, none⟩ = some (.int .i64 A.v) ∧ w.cell? ⟨y, 3, none⟩ = some (.int .i64 A.a) ∧ w.cell? ⟨y, 4, none⟩ = some (.int .i64 A.b) :=
  ⟨by rw [cell_of_row _ _ _ _ _ _ h]; rfl, by rw [cell_of_row _ _ _ _ _ _ h]; rfl, by rw [cell_of_row _ _ _ _ _ _ h]; rfl, by rw [cell_of_row _ _ _ _ _ _ h]; rfl, by rw [cell_of_row _ _ _ _ _ _ h]; rfl⟩
theorem A7B.lt {w : World} {y : Nat} {A : A7} (h : A7B w y A) : y < w.heap.size := (Array.getElem?_eq_some_iff.1 h).1
theorem A7B.grow {w w' : World} {y : Nat} {A : A7} (h : A7B w y A) (g : w.grownBy w' none) : A7B w' y A := (g.block _ h.lt (by simp)).trans h
structure A7.Ok (A : A7) : Prop where
  s : okI A.s
  v : okI A.v
  a : okI A.a
  b : okI A.b
structure A7sAre (w : World) (s : Option Addr) (l : Nat) (As : List A7) : Prop where
  len : As.length = l
  cells : l = 0 ∨ ∃ g o, s = some ⟨g, o, none⟩ ∧ ∀ (i : Nat) A, As[i]? = some A → ∀ (j : Nat) u, (a7Cells A)[j]? = some u → w.cell? ⟨g, o + i * 5 + j, none⟩ = some u
  ok : ∀ A, A ∈ As → A.Ok
theorem A7sAre.at {w wr : World} {s : Option Addr} {l : Nat} {As : List A7} (h : A7sAre w s l As) (g : w.grownBy wr none) {j : Nat} {A : A7} (hA : As[j]? = some A) :
    ∃ b o, s = some ⟨b, o, none⟩ ∧ wr.cell? ⟨b, o + j * 5, none⟩ = some (.int .i64 A.k) ∧ wr.cell? ⟨b, o + j * 5 + 1, none⟩ = some (.int .i64 A.s) ∧ wr.cell? ⟨b, o + j * 5 + 2, none⟩ = some (.int .i64 A.v) ∧ wr.cell? ⟨b, o + j * 5 + 3, none⟩ = some (.int .i64 A.a) ∧ wr.cell? ⟨b, o + j * 5 + 4, none⟩ = some (.int .i64 A.b) := by
  have hj := (List.getElem?_eq_some_iff.1 hA).1
  rcases h.cells with h0 | ⟨b, o, hs, hc⟩
  · have := h.len; omega
  · have key : ∀ q u, (a7Cells A)[q]? = some u → wr.cell? ⟨b, o + j * 5 + q, none⟩ = some u := fun q u hq => by
      have h1 := hc j A hA q u hq
      exact (World.cell?_of_block (a := ⟨b, o + j * 5 + q, none⟩) (g.block b (World.block_lt_of_cell? w _ h1) (by simp))).trans h1
    exact ⟨b, o, hs, key 0 _ rfl, key 1 _ rfl, key 2 _ rfl, key 3 _ rfl, key 4 _ rfl⟩
theorem a7s_of_trod {H : Type} {enc : TypeId × Value → H} {w : World} {base : Nat} {spare : Nat → Bool} {held : Bool} {fuel : Nat} {s : Option Addr} {l c : Nat} {x : DataW H × List MemPlace}
    (h : DataW.trod enc Try.prog w base spare held fuel 67 [.slice s l c] = some x) : ∃ As, A7sAre w s l As := by
  obtain ⟨zss, hz⟩ := introws_of_trod (d := 4) (n := 5) Try.underlying67 (by kernel_rfl) (by kernel_rfl) (by omega) h
  have key : ∀ zs, zs ∈ zss → ∃ A : A7, a7Cells A = zs.map (Value.int .i64) ∧ A.Ok := by
    intro zs hzs
    obtain ⟨hl, hok⟩ := hz.each zs hzs
    match zs, hl with
    | [k, f, a, b, c], _ => exact ⟨⟨k, f, a, b, c⟩, rfl, hok f (by simp), hok a (by simp), hok b (by simp), hok c (by simp)⟩
  obtain ⟨As, hl, hAs⟩ := list_all l (fun i (A : A7) => ∃ zs, zss[i]? = some zs ∧ a7Cells A = zs.map (Value.int .i64) ∧ A.Ok) fun i hi => by
    have hg : zss[i]? = some (zss[i]'(by rw [hz.len]; exact hi)) := List.getElem?_eq_getElem (by rw [hz.len]; exact hi)
    obtain ⟨A, h1, h2⟩ := key _ (List.mem_of_getElem? hg)
    exact ⟨A, _, hg, h1, h2⟩
  refine ⟨As, hl, ?_, fun A hA => ?_⟩
  · rcases hz.cells with h1 | ⟨g, o, hs, hc⟩
    · exact .inl h1
    · refine .inr ⟨g, o, hs, fun i A hi j u hu => ?_⟩
      obtain ⟨zs, hzi, hA, _⟩ := hAs i A hi
      rw [hA, List.getElem?_map] at hu
      obtain ⟨z, hzj, rfl⟩ := Option.map_eq_some_iff.1 hu
      exact hc i zs hzi j z hzj
  · obtain ⟨i, hi⟩ := List.getElem?_of_mem hA
    obtain ⟨_, _, _, h1⟩ := hAs i A hi
    exact h1

set_option maxRecDepth 100000 in
theorem a7_of {H : Type} {enc : TypeId × Value → H} {w w1 : World} {base b0 : Nat} {spare : Nat → Bool} {held : Bool} {r : Reach} {v : Value} {d : DataW H} {p : List MemPlace}
    (h : DataW.Trod enc Try.prog w base spare held 60 v d p) (hv : Value.okWide Try.prog w1 r b0 60 v) :
    ∃ A : A7, v = .agg #[.int .i64 A.k, .int .i64 A.s, .int .i64 A.v, .int .i64 A.a, .int .i64 A.b] ∧ A.Ok := by
  obtain ⟨cs, rfl, _⟩ := okWide_struct Try.underlying60 hv
  obtain ⟨fuel, hf⟩ := h
  obtain ⟨hl, hck⟩ := ck_of_trod 4 60 (List.replicate 5 (.int .i64)) _ fuel _ (by kernel_rfl) hf
  obtain ⟨zs, hz, hcs, hok⟩ := ck_ints (n := 5) (by rw [hl, List.length_replicate]) hck
  obtain ⟨l⟩ := cs
  simp only [Value.cells] at hcs
  match zs, hz with
  | [k, f, a, b, c], _ =>
    refine ⟨⟨k, f, a, b, c⟩, ?_, hok f (by simp), hok a (by simp), hok b (by simp), hok c (by simp)⟩
    have e : l = [k, f, a, b, c].map (Value.int .i64) := hcs
    rw [e]
    rfl

end Go.Proofs.Ytlieommbomjdaaa

namespace Go.Proofs.Ytlieommbomjdaaa
open Go.ChangeShapes Go.WideShapes Go.ChangeAt Go.RowKit Go.Deep
set_option linter.unusedVariables false

/-! ### the model -/
theorem tot_two {a b : Int} (hne : a ≠ b) {xs : List FrV} (h : ∀ c, c ≠ a → c ≠ b → cntF xs c = 0) : totF xs = cntF xs a + cntF xs b := by
  have key : ∀ x, x ∈ xs → x.cl = 1 → x.ow = a ∨ x.ow = b := by
    intro x hx hc
    by_cases ha : x.ow = a
    · exact .inl ha
    · by_cases hb : x.ow = b
      · exact .inr hb
      · have h0 := h x.ow ha hb
        unfold cntF at h0
        have h1 : xs.countP (fun z => z.cl == 1 && z.ow == x.ow) = 0 := by omega
        have := List.countP_eq_zero.1 h1 x hx
        simp [hc] at this
  clear h
  induction xs with
  | nil => rfl
  | cons x xs ih =>
    have i1 := ih fun z hz => key z (by simp [hz])
    have k := key x (by simp)
    unfold totF cntF at i1 ⊢
    simp only [List.countP_cons, Bool.and_eq_true, beq_iff_eq]
    by_cases hc : x.cl = 1
    · rcases k hc with e | e
      · rw [if_pos hc, if_pos ⟨hc, e⟩, if_neg (fun q => hne (e.symm.trans q.2))]; omega
      · rw [if_pos hc, if_neg (fun q => hne (q.2.symm.trans e)), if_pos ⟨hc, e⟩]; omega
    · rw [if_neg hc, if_neg (fun q => hc q.1), if_neg (fun q => hc q.1)]; omega
theorem other_has {n : Nat} {s t : MS} {a1 a2 r u z : Int} (h : MOk n s noE) (hr : Tab (getF s.xs) r a1 0) (hne : a1 ≠ a2) (k : Only a2 s t) : Has t.W r u z ↔ Has s.W r u z := by
  have fix : ∀ f l, Tab (getF s.xs) f a1 l → ∀ j, t.W f j = s.W f j := fun f l hf => (k f (fun l' hl' => hne (hf.eq hl').1) fun e => hf.notFree e).2
  have d : ∀ f l i g, Tab (getF s.xs) f a1 l → l < 2 → okX i → s.W f i = entT g → Tab (getF s.xs) g a1 (l + 1) := fun f l i g hf hl hi e => by
    rcases h.tree.down f a1 l i hf hl hi with e0 | ⟨g', e1, h1⟩
    · rw [e0] at e; exact (ent_ne g e.symm).elim
    · rw [e1] at e; rw [← ent_inj e]; exact h1
  constructor
  · rintro ⟨f, m, e2, e1, e0, ek⟩
    rw [fix _ _ hr] at e2
    have hm := d _ _ _ _ hr (by decide) (index_okX u 2) e2
    rw [fix _ _ hm] at e1
    have hf := d _ _ _ _ hm (by decide) (index_okX u 1) e1
    rw [fix _ _ hf] at e0
    exact ⟨f, m, e2, e1, e0, ek⟩
  · rintro ⟨f, m, e2, e1, e0, ek⟩
    have hm := d _ _ _ _ hr (by decide) (index_okX u 2) e2
    have hf := d _ _ _ _ hm (by decide) (index_okX u 1) e1
    exact ⟨f, m, (fix _ _ hr _).trans e2, (fix _ _ hm _).trans e1, (fix _ _ hf _).trans e0, ek⟩
theorem two_get {α : Type} {a b q : α} {i : Nat} (h : [b, a][i]? = some q) : i < 2 ∧ [a, b][1 - i]? = some q := by
  match i, h with
  | 0, h => exact ⟨by omega, h⟩
  | 1, h => exact ⟨by omega, h⟩
  | i + 2, h => simp at h
theorem MSt.swap {n : Nat} {W : WoF} {xs : List FrV} {p q : Sp7} (h : MSt n W xs [p, q]) : MSt n W xs [q, p] :=
  ⟨h.ok, fun x hx => h.root x (by simp at hx ⊢; exact hx.symm), fun x hx => h.N x (by simp at hx ⊢; exact hx.symm), fun x hx => h.a x (by simp at hx ⊢; exact hx.symm), fun b hb => h.own b fun x hx => hb x (by simp at hx ⊢; exact hx.symm), fun i j x y hi hj e => by
    obtain ⟨i1, i2⟩ := two_get hi
    obtain ⟨j1, j2⟩ := two_get hj
    have := h.uniq _ _ x y i2 j2 e
    omega⟩
theorem PSt.swap {S : SpP} {w0 w : World} {m d n p : Nat} {O : List Nat} {W : WoF} {xs : List FrV} {x y : Sp7} (h : PSt S w0 w m d n p O W xs [x, y]) : PSt S w0 w m d n p O W xs [y, x] :=
  ⟨h.pm, fun q hq => h.sp q (by simp at hq ⊢; exact hq.symm), fun q hq => h.xge q (by simp at hq ⊢; exact hq.symm), fun q hq => h.apart q (by simp at hq ⊢; exact hq.symm), fun i j q r hi hj hne => by
    obtain ⟨i1, i2⟩ := two_get hi
    obtain ⟨j1, j2⟩ := two_get hj
    exact h.apart2 _ _ q r i2 j2 (by omega)⟩

/-! ### the program's -/
section
variable {S : SpP} {Z : World → Nat → List Nat → Prop} {w0 w w' : World} {m d n p : Nat} {O : List Nat} {W : WoF} {xs zs : List FrV} {l : List Sp7} {k : Nat} {a : Int}
theorem PSt.nil (h : PM w0 w m d n p O W xs) : PSt S w0 w m d n p O W xs [] := ⟨h, fun q hq => (List.not_mem_nil hq).elim, fun q hq => (List.not_mem_nil hq).elim, fun q hq => (List.not_mem_nil hq).elim, fun i j q q' hi => by simp at hi⟩
theorem PSt.new (H : PmOk S Z) (h1 : PSt S w0 w m d n p O W xs l) (hM : MOk n ⟨W, xs, 0⟩ noE) (ha : okI a) (hk : k < n) (et : takeF 0 xs 1 a 0 = ⟨k, 0, zs⟩) :
    Calls Try.prog 12 #[.pointer (some ⟨m, 0, none⟩), .pointer (some ⟨p, 0, none⟩), .int .i64 a] w fun e w' => ∃ x OX O', e = .returned (.tuple #[.pointer (some ⟨x, 0, none⟩), .int .i64 0]) ∧ ∀ y, PSt S w0 w' m d n p O' (zeroW W k) zs (l ++ [⟨x, OX, y, a, k, 1⟩]) := by
  refine (H.newOk h1.pm hM a k zs ha hk et).mono ?_
  rintro e w' ⟨x, O', OX, rfl, k1, k2, k3, k4⟩
  have hP := h1.again H k1.pm (OX := []) (by simpa using k2) k3 (fun _ _ _ _ hm => by cases hm)
  refine ⟨x, OX, O', rfl, fun y => ⟨k1.pm, fun q hq => ?_, fun q hq => ?_, fun q hq => ?_, fun i j q q' hi hj hne b hb hb2 => ?_⟩⟩
  · rcases List.mem_append.1 hq with hq | hq
    · exact hP.sp q hq
    · obtain rfl := List.mem_singleton.1 hq
      exact k1.sp
  · rcases List.mem_append.1 hq with hq | hq
    · exact h1.xge q hq
    · obtain rfl := List.mem_singleton.1 hq
      exact k1.xge
  · rcases List.mem_append.1 hq with hq | hq
    · exact hP.apart q hq
    · obtain rfl := List.mem_singleton.1 hq
      exact k1.apart
  · rcases get_app_cases hi with ⟨e1, rfl⟩ | ⟨e1, hi'⟩ <;> rcases get_app_cases hj with ⟨e2, rfl⟩ | ⟨e2, hj'⟩
    · omega
    · have := H.lt (h1.sp q' (List.mem_of_getElem? hj')) b hb2
      have := k4 b hb
      omega
    · have := H.lt (h1.sp q (List.mem_of_getElem? hi')) b hb
      have := k4 b hb2
      omega
    · exact h1.apart2 i j q q' hi' hj' hne b hb hb2
theorem PSt.grow (H : PmOk S Z) (h : PSt S w0 w m d n p O W xs l) (g : w.grownBy w' none) : PSt S w0 w' m d n p O W xs l := h.turn H (O2 := []) (Turn.grown g) (fun _ _ hm => by cases hm) (fun _ hm => by cases hm)
theorem PSt.low (h : PSt S w0 w m d n p O W xs l) : w0.grownBy w none := grown_of_below' h.pm.below
end

/-- Both spaces, behind whatever was done to y: x has its page, and no other. -/
def Apart7 (w0 w : World) (m d p : Nat) (v : Int) (x y : Nat) (rx ry : Int) : Prop :=
  ∃ O W xs OX OY N, PSt SpS w0 w m d 60 p O W xs [⟨y, OY, 0, 2, ry, N⟩, ⟨x, OX, 0, 1, rx, 3⟩] ∧ MSt 60 W xs [⟨y, OY, 0, 2, ry, N⟩, ⟨x, OX, 0, 1, rx, 3⟩] ∧ ∀ u z, okV u → (Has W rx u z ↔ u = v ∧ z = encOf (flagsOf 1 true) 1)
section
variable {w0 w w' : World} {m d p : Nat} {v : Int} {x y : Nat} {rx ry : Int}
theorem Apart7.grow (h : Apart7 w0 w m d p v x y rx ry) (g : w.grownBy w' none) : Apart7 w0 w' m d p v x y rx ry := by
  obtain ⟨O, W, xs, OX, OY, N, h1, h2, h3⟩ := h
  exact ⟨O, W, xs, OX, OY, N, h1.grow pmOk g, h2, h3⟩
theorem Apart7.low (h : Apart7 w0 w m d p v x y rx ry) : w0.grownBy w none := by
  obtain ⟨O, W, xs, OX, OY, N, h1, h2, h3⟩ := h
  exact h1.low
theorem Apart7.step {O : List Nat} {W : WoF} {xs : List FrV} {OX OY : List Nat} {N : Int} {s' : MS} (h1 : PSt SpS w0 w m d 60 p O W xs [⟨y, OY, 0, 2, ry, N⟩, ⟨x, OX, 0, 1, rx, 3⟩]) (h2 : MSt 60 W xs [⟨y, OY, 0, 2, ry, N⟩, ⟨x, OX, 0, 1, rx, 3⟩]) (h3 : ∀ u z, okV u → (Has W rx u z ↔ u = v ∧ z = encOf (flagsOf 1 true) 1))
    (k : PXL SpS w0 w w' m d 60 p O y OY 2 ry s') (k1 : MOk 60 s' noE) (k2 : Only 2 ⟨W, xs, N⟩ s') (k3 : Tab (getF s'.xs) ry 2 0) (k4 : Cnt 2 ⟨W, xs, N⟩ s') : Apart7 w0 w' m d p v x y rx ry := by
  obtain ⟨O', OX', g1, _, _⟩ := h1.step pmOk (i := 0) rfl k
  have g2 := h2.step (i := 0) (q' := ⟨y, OX', 0, 2, ry, s'.N⟩) rfl k1 k2 k3 k4 rfl rfl rfl
  exact ⟨O', s'.W, s'.xs, OX, OX', s'.N, g1, g2, fun u z hu => (other_has (h2.ok.any N) (h2.root ⟨x, OX, 0, 1, rx, 3⟩ (by simp)) (show (1 : Int) ≠ 2 by decide) k2).trans (h3 u z hu)⟩
theorem Apart7.enter (h : Apart7 w0 w m d p v x y rx ry) (u f q : Int) (hu : okI u) (hf : okI f) (hq : okI q) : Calls Try.prog 13 #[.pointer (some ⟨y, 0, none⟩), .int .i64 u, .int .i64 f, .int .i64 q] w fun e w' => (∃ z, e = .returned (.int .i64 z)) ∧ Apart7 w0 w' m d p v x y rx ry := by
  obtain ⟨O, W, xs, OX, OY, N, h1, h2, h3⟩ := h
  have hi := h2.inv (i := 0) (q := ⟨y, OY, 0, 2, ry, N⟩) rfl
  refine (pmOk.enter (h1.px (i := 0) (q := ⟨y, OY, 0, 2, ry, N⟩) rfl) hi u f q hu hf hq).mono fun e w' ⟨e1, k⟩ => ⟨⟨_, e1⟩, ?_⟩
  obtain ⟨k1, k2, k3⟩ := hi.ok.enterM_ok (v := u) hi.root f q
  exact Apart7.step h1 h2 h3 k k1 k2 k3 (hi.ok.enterM_cnt hi.root f q)
theorem Apart7.remove (h : Apart7 w0 w m d p v x y rx ry) (u : Int) (hu : okI u) : Calls Try.prog 15 #[.pointer (some ⟨y, 0, none⟩), .int .i64 u] w fun e w' => (∃ z, e = .returned (.bool z)) ∧ Apart7 w0 w' m d p v x y rx ry := by
  obtain ⟨O, W, xs, OX, OY, N, h1, h2, h3⟩ := h
  have hi := h2.inv (i := 0) (q := ⟨y, OY, 0, 2, ry, N⟩) rfl
  refine (pmOk.remove (h1.px (i := 0) (q := ⟨y, OY, 0, 2, ry, N⟩) rfl) hi u hu).mono fun e w' ⟨e1, k⟩ => ⟨⟨_, e1⟩, ?_⟩
  obtain ⟨k1, k2, k3⟩ := hi.ok.removeM_ok (v := u) hi.root
  exact Apart7.step h1 h2 h3 k k1 k2 k3 (hi.ok.remove_cnt hi.root)
theorem Apart7.protect (h : Apart7 w0 w m d p v x y rx ry) (u q : Int) (hu : okI u) (hq : okI q) : Calls Try.prog 27 #[.pointer (some ⟨y, 0, none⟩), .int .i64 u, .int .i64 q] w fun e w' => (∃ z, e = .returned (.bool z)) ∧ Apart7 w0 w' m d p v x y rx ry := by
  obtain ⟨O, W, xs, OX, OY, N, h1, h2, h3⟩ := h
  have hi := h2.inv (i := 0) (q := ⟨y, OY, 0, 2, ry, N⟩) rfl
  refine (pmOk.protect (h1.px (i := 0) (q := ⟨y, OY, 0, 2, ry, N⟩) rfl) hi u q hu hq).mono fun e w' ⟨e1, k⟩ => ⟨⟨_, e1⟩, ?_⟩
  obtain ⟨k1, k2, k3, k4⟩ := hi.ok.protect_ok (v := u) hi.root q
  exact Apart7.step h1 h2 h3 k k1 k2 k3 k4
theorem Apart7.clear (h : Apart7 w0 w m d p v x y rx ry) (u q : Int) (hu : okI u) (hq : okI q) : Calls Try.prog 28 #[.pointer (some ⟨y, 0, none⟩), .int .i64 u, .int .i64 q] w fun e w' => (∃ z, e = .returned (.int .i64 z)) ∧ Apart7 w0 w' m d p v x y rx ry := by
  obtain ⟨O, W, xs, OX, OY, N, h1, h2, h3⟩ := h
  have hi := h2.inv (i := 0) (q := ⟨y, OY, 0, 2, ry, N⟩) rfl
  refine (pmOk.clear (h1.px (i := 0) (q := ⟨y, OY, 0, 2, ry, N⟩) rfl) hi u q hu hq).mono fun e w' ⟨e1, k⟩ => ⟨⟨_, e1⟩, ?_⟩
  obtain ⟨k1, k2, k3, k4⟩ := hi.ok.clear_ok (v := u) hi.root q
  exact Apart7.step h1 h2 h3 k k1 k2 k3 k4
theorem find_has {n : Nat} {s : MS} {a r u z : Int} (h : Inv7 n s a r) (hu : okV u) (hz : Has s.W r u z) : leafE n s.W r u = some (flagOf z, ppnOf z) := by
  obtain ⟨f, hl⟩ := hz
  exact leafE_some ((h.ok.leaf_iff h.root).2 ⟨hu, hl⟩)
theorem find_no {n : Nat} {s : MS} {a r u : Int} (h : Inv7 n s a r) (hu : okV u) (hz : ∀ z, ¬ Has s.W r u z) : leafE n s.W r u = none := (leafE_lv h hu).2 fun ⟨z, hh⟩ => hz z hh
theorem ppn_one : ppnOf (encOf (flagsOf 1 true) 1) = 1 := by decide
theorem Apart7.find (h : Apart7 w0 w m d p v x y rx ry) (hv : okV v) : ∃ F, Calls Try.prog 22 #[.pointer (some ⟨x, 0, none⟩), .int .i64 v] w fun e w' => e = .returned (.tuple #[.agg #[.int .i64 F, .int .i64 1], .bool true]) ∧ w.grownBy w' none := by
  obtain ⟨O, W, xs, OX, OY, N, h1, h2, h3⟩ := h
  have hi := h2.inv (i := 1) (q := ⟨x, OX, 0, 1, rx, 3⟩) rfl
  have hF := pmOk.find (h1.px (i := 1) (q := ⟨x, OX, 0, 1, rx, 3⟩) rfl) hi v ⟨by have := hv.1; omega, by have := hv.2; omega⟩
  rw [show leafE 60 W rx v = _ from find_has hi hv ((h3 v _ hv).2 ⟨rfl, rfl⟩), ppn_one] at hF
  exact ⟨_, hF⟩
theorem Apart7.findNo (h : Apart7 w0 w m d p v x y rx ry) {u : Int} (hu : okV u) (hne : u ≠ v) : Calls Try.prog 22 #[.pointer (some ⟨x, 0, none⟩), .int .i64 u] w fun e w' => e = .returned (.tuple #[.agg #[.int .i64 0, .int .i64 0], .bool false]) ∧ w.grownBy w' none := by
  obtain ⟨O, W, xs, OX, OY, N, h1, h2, h3⟩ := h
  have hi := h2.inv (i := 1) (q := ⟨x, OX, 0, 1, rx, 3⟩) rfl
  have hF := pmOk.find (h1.px (i := 1) (q := ⟨x, OX, 0, 1, rx, 3⟩) rfl) hi u ⟨by have := hu.1; omega, by have := hu.2; omega⟩
  rw [show leafE 60 W rx u = _ from find_no hi hu fun z hz => hne ((h3 u z hu).1 hz).1] at hF
  exact hF
theorem Apart7.tables (h : Apart7 w0 w m d p v x y rx ry) : Calls Try.prog 18 #[.pointer (some ⟨x, 0, none⟩)] w fun e w' => e = .returned (.int .i64 3) ∧ w.grownBy w' none := by
  obtain ⟨O, W, xs, OX, OY, N, h1, h2, h3⟩ := h
  exact pmOk.tables (h1.px (i := 1) (q := ⟨x, OX, 0, 1, rx, 3⟩) rfl) (h2.inv (i := 1) (q := ⟨x, OX, 0, 1, rx, 3⟩) rfl)
/-- .. when y is closed: x alone. -/
def Lone7 (w0 w : World) (m d p : Nat) (v : Int) (x : Nat) (rx : Int) : Prop :=
  ∃ O W xs OX, PSt SpS w0 w m d 60 p O W xs [⟨x, OX, 0, 1, rx, 3⟩] ∧ MSt 60 W xs [⟨x, OX, 0, 1, rx, 3⟩] ∧ ∀ u z, okV u → (Has W rx u z ↔ u = v ∧ z = encOf (flagsOf 1 true) 1)
theorem Apart7.close (h : Apart7 w0 w m d p v x y rx ry) : Calls Try.prog 20 #[.pointer (some ⟨y, 0, none⟩)] w fun e w' => (∃ z, e = .returned (.int .i64 z)) ∧ Lone7 w0 w' m d p v x rx := by
  obtain ⟨O, W, xs, OX, OY, N, h1, h2, h3⟩ := h
  have hi := h2.inv (i := 0) (q := ⟨y, OY, 0, 2, ry, N⟩) rfl
  refine (pmOk.close (h1.px (i := 0) (q := ⟨y, OY, 0, 2, ry, N⟩) rfl) hi).mono ?_
  rintro e w' ⟨rfl, O', OX', k1, k2, k3, k4, k5, k6⟩
  exact ⟨⟨_, rfl⟩, O', W, _, OX, h1.tail.again pmOk k1 k4 k5 (fun q hq b hb hb2 => by
    obtain rfl := List.mem_singleton.1 hq
    exact h1.apart2 0 1 _ _ rfl rfl (by decide) b hb2 hb), h2.close, h3⟩
theorem Lone7.grow (h : Lone7 w0 w m d p v x rx) (g : w.grownBy w' none) : Lone7 w0 w' m d p v x rx := by
  obtain ⟨O, W, xs, OX, h1, h2, h3⟩ := h
  exact ⟨O, W, xs, OX, h1.grow pmOk g, h2, h3⟩
theorem Lone7.low (h : Lone7 w0 w m d p v x rx) : w0.grownBy w none := by
  obtain ⟨O, W, xs, OX, h1, h2, h3⟩ := h
  exact h1.low
theorem Lone7.find (h : Lone7 w0 w m d p v x rx) (hv : okV v) : ∃ F, Calls Try.prog 22 #[.pointer (some ⟨x, 0, none⟩), .int .i64 v] w fun e w' => e = .returned (.tuple #[.agg #[.int .i64 F, .int .i64 1], .bool true]) ∧ w.grownBy w' none := by
  obtain ⟨O, W, xs, OX, h1, h2, h3⟩ := h
  have hi := h2.inv (i := 0) (q := ⟨x, OX, 0, 1, rx, 3⟩) rfl
  have hF := pmOk.find (h1.px (i := 0) (q := ⟨x, OX, 0, 1, rx, 3⟩) rfl) hi v ⟨by have := hv.1; omega, by have := hv.2; omega⟩
  rw [show leafE 60 W rx v = _ from find_has hi hv ((h3 v _ hv).2 ⟨rfl, rfl⟩), ppn_one] at hF
  exact ⟨_, hF⟩
theorem Lone7.count (h : Lone7 w0 w m d p v x rx) : Calls Try.prog 29 #[.pointer (some ⟨p, 0, none⟩), .int .i64 1] w fun e w' => e = .returned (.int .i64 3) ∧ w.grownBy w' none := by
  obtain ⟨O, W, xs, OX, h1, h2, h3⟩ := h
  obtain ⟨g, c, _, hp⟩ := h1.pm.pool
  have hc := fr_count hp 1
  have e1 : countF xs 1 = 3 := by
    rw [count_one, tot_two (a := 1) (b := 2) (by decide) fun c h1 _ => h2.own c fun q hq => by obtain rfl := List.mem_singleton.1 hq; exact fun e => h1 e.symm]
    have a1 := h2.N ⟨x, OX, 0, 1, rx, 3⟩ (by simp)
    have a2 := h2.own 2 fun q hq => by obtain rfl := List.mem_singleton.1 hq; exact (show (1 : Int) ≠ 2 by decide)
    simp only at a1
    omega
  rw [e1] at hc
  exact hc
theorem mst_tot {n : Nat} {W : WoF} {xs : List FrV} {l : List Sp7} (h : MSt n W xs l) {a b : Int} (hne : a ≠ b) (hl : ∀ q, q ∈ l → q.a = a ∨ q.a = b) : totF xs = cntF xs a + cntF xs b :=
  tot_two hne fun c h1 h2 => h.own c fun q hq e => by rcases hl q hq with e1 | e1; exact h1 (e.symm.trans e1); exact h2 (e.symm.trans e1)
/-- Two new spaces. -/
def Two7 (w0 w : World) (m d p : Nat) (x y : Nat) (rx ry : Int) : Prop :=
  ∃ O W xs OX OY, PSt SpS w0 w m d 60 p O W xs [⟨x, OX, 0, 1, rx, 1⟩, ⟨y, OY, 0, 2, ry, 1⟩] ∧ MSt 60 W xs [⟨x, OX, 0, 1, rx, 1⟩, ⟨y, OY, 0, 2, ry, 1⟩] ∧ (∀ u z, ¬ Has W rx u z)
def One7 (w0 w : World) (m d p : Nat) (x : Nat) (rx : Int) : Prop :=
  ∃ O W xs OX, PSt SpS w0 w m d 60 p O W xs [⟨x, OX, 0, 1, rx, 1⟩] ∧ MSt 60 W xs [⟨x, OX, 0, 1, rx, 1⟩] ∧ (∀ u z, ¬ Has W rx u z)
theorem zero_has {W : WoF} {r : Nat} (u z : Int) : ¬ Has (zeroW W r) r u z := fun ⟨f, m, e, _⟩ => by
  unfold zeroW at e
  rw [if_pos rfl] at e
  exact ent_ne m e.symm
theorem first7 {O : List Nat} {W : WoF} (h : PM w0 w m d 60 p O W (List.replicate 60 zeroF)) : Calls Try.prog 12 #[.pointer (some ⟨m, 0, none⟩), .pointer (some ⟨p, 0, none⟩), .int .i64 1] w fun e w' => ∃ x rx, e = .returned (.tuple #[.pointer (some ⟨x, 0, none⟩), .int .i64 0]) ∧ One7 w0 w' m d p x rx := by
  have hm := mst_nil 60 (by decide) W
  have ha : okI (1 : Int) := ok_s7 (by decide) (by decide)
  rcases hm.new (a := 1) ha (fun q hq => (List.not_mem_nil hq).elim) with e | ⟨k, zs, hk, et, hn⟩
  · have := hm.ok.take_fits (by rw [mst_tot hm (a := 1) (b := 2) (by decide) fun q hq => (List.not_mem_nil hq).elim, hm.own 1 fun q hq => (List.not_mem_nil hq).elim, hm.own 2 fun q hq => (List.not_mem_nil hq).elim]; decide) 1 0
    rw [show takeF 0 (List.replicate 60 zeroF) 1 1 0 = _ from e] at this
    exact absurd this (by decide)
  · refine ((PSt.nil h).new pmOk hm.ok ha hk et).mono ?_
    rintro e w' ⟨x, OX, O', rfl, h1⟩
    exact ⟨x, k, rfl, O', _, zs, OX, h1 0, hn x OX 0, zero_has⟩
theorem second7 {x : Nat} {rx : Int} (h : One7 w0 w m d p x rx) : Calls Try.prog 12 #[.pointer (some ⟨m, 0, none⟩), .pointer (some ⟨p, 0, none⟩), .int .i64 2] w fun e w' => ∃ y ry, e = .returned (.tuple #[.pointer (some ⟨y, 0, none⟩), .int .i64 0]) ∧ Two7 w0 w' m d p x y rx ry := by
  obtain ⟨O, W, xs, OX, h1, h2, h3⟩ := h
  have ha : okI (2 : Int) := ok_s7 (by decide) (by decide)
  have hno : ∀ q, q ∈ [(⟨x, OX, 0, 1, rx, 1⟩ : Sp7)] → q.a ≠ 2 := fun q hq => by obtain rfl := List.mem_singleton.1 hq; exact (show (1 : Int) ≠ 2 by decide)
  rcases h2.new (a := 2) ha hno with e | ⟨k, zs, hk, et, hn⟩
  · have n1 := h2.N ⟨x, OX, 0, 1, rx, 1⟩ (by simp)
    have n2 := h2.own 2 hno
    have n3 := mst_tot h2 (a := 1) (b := 2) (by decide) fun q hq => by obtain rfl := List.mem_singleton.1 hq; exact .inl rfl
    simp only at n1
    have := h2.ok.take_fits (show totF xs < (60 : Nat) by omega) 2 0
    rw [show takeF 0 xs 1 2 0 = _ from e] at this
    exact absurd (show (5 : Int) = 0 from this) (by decide)
  · refine (h1.new pmOk h2.ok ha hk et).mono ?_
    rintro e w' ⟨y, OY, O', rfl, h4⟩
    refine ⟨y, k, rfl, O', _, zs, OX, OY, h4 0, hn y OY 0, fun u z => ?_⟩
    have hr := h2.root ⟨x, OX, 0, 1, rx, 1⟩ (by simp)
    have hk0 : getF xs k = some zeroF := by
      rcases h2.ok.take 2 0 with ⟨e1, _⟩ | ⟨k', hk', e1, hz⟩
      · have e1 : (takeF 0 xs 1 2 0).e = 5 := e1
        rw [et] at e1; exact absurd (show (0 : Int) = 5 from e1) (by decide)
      · have e1 : takeF 0 xs 1 2 0 = _ := e1
        rw [et] at e1
        injection e1 with e1
        have : k = k' := by omega
        subst this; exact hz
    have ho : Only 2 ⟨W, xs, 0⟩ ⟨zeroW W k, zs, 0⟩ := by
      rcases h2.ok.new (a := 2) (fun g l => cnt_no_tab (h2.own 2 hno)) with ⟨e1, _⟩ | ⟨_, _, _, k2, _⟩
      · unfold newM at e1
        rw [show takeF 0 (⟨W, xs, 0⟩ : MS).xs 1 2 0 = _ from et] at e1
        exact absurd (show (0 : Int) = 5 from e1) (by decide)
      · unfold newM at k2
        rw [show takeF 0 (⟨W, xs, 0⟩ : MS).xs 1 2 0 = _ from et] at k2
        exact k2
    exact fun hz => h3 u z ((other_has h2.ok hr (show (1 : Int) ≠ 2 by decide) ho).1 hz)
/-- x's page is entered. -/
def Apart1 (w0 w : World) (m d p : Nat) (v : Int) (x y : Nat) (rx ry : Int) : Prop :=
  ∃ O W xs OX OY, PSt SpS w0 w m d 60 p O W xs [⟨y, OY, 0, 2, ry, 1⟩, ⟨x, OX, 0, 1, rx, 3⟩] ∧ MSt 60 W xs [⟨y, OY, 0, 2, ry, 1⟩, ⟨x, OX, 0, 1, rx, 3⟩] ∧ ∀ u z, okV u → (Has W rx u z ↔ u = v ∧ z = encOf (flagsOf 1 true) 1)
theorem enter_x {x y : Nat} {rx ry : Int} (h : Two7 w0 w m d p x y rx ry) (hv : 0 ≤ v ∧ v < 67108864) : Calls Try.prog 13 #[.pointer (some ⟨x, 0, none⟩), .int .i64 v, .int .i64 1, .int .i64 1] w fun e w' => e = .returned (.int .i64 0) ∧ Apart1 w0 w' m d p v x y rx ry := by
  obtain ⟨O, W, xs, OX, OY, h1, h2, h3⟩ := h
  have hi := h2.inv (i := 0) (q := ⟨x, OX, 0, 1, rx, 1⟩) rfl
  have n1 := h2.N ⟨x, OX, 0, 1, rx, 1⟩ (by simp)
  have n2 := h2.N ⟨y, OY, 0, 2, ry, 1⟩ (by simp)
  have n3 := mst_tot h2 (a := 1) (b := 2) (by decide) fun q hq => by simp at hq; rcases hq with rfl | rfl; exact .inl rfl; exact .inr rfl
  simp only at n1 n2
  have hp : (1 : Int) ≤ 1 ∧ (1 : Int) ≤ 7 := ⟨by decide, by decide⟩
  have hf : (0 : Int) ≤ 1 ∧ (1 : Int) < (60 : Nat) := ⟨by decide, by decide⟩
  have vv : okV v := ⟨hv.1, by have := hv.2; omega⟩
  have he : (enterM 60 1 rx v 1 1 ⟨W, xs, 1⟩).1 = 0 := by
    rw [enterM_in hv hp hf]
    exact (hi.ok.enter1_fits hi.root (show totF xs + 1 < (60 : Nat) by omega)).1
  have hN := hi.enterN hv hp hf he
  have no : ∀ u, ¬ Lv ⟨W, xs, 1⟩ rx u := fun u ⟨z, hz⟩ => h3 u z hz
  rw [if_neg (fun ⟨u, _, q, _⟩ => no u q), if_neg (fun ⟨u, _, q, _⟩ => no u q)] at hN
  have hh : ∀ u z, okV u → (Has (enterM 60 1 rx v 1 1 ⟨W, xs, 1⟩).2.W rx u z ↔ u = v ∧ z = encOf (flagsOf 1 true) 1) := fun u z hu => by
    rw [enterM_in hv hp hf] at he ⊢
    refine ((hi.ok.enter1_has hi.root (kind_flags 1 1 hp) vv hi.root hu).2).trans ?_
    by_cases e : u = v
    · rw [if_pos ⟨he, rfl, e⟩]; exact ⟨fun q => ⟨e, q⟩, fun q => q.2⟩
    · rw [if_neg (fun q => e q.2.2)]; exact ⟨fun q => (h3 u z q).elim, fun q => (e q.1).elim⟩
  have hE := pmOk.enter (h1.px (i := 0) (q := ⟨x, OX, 0, 1, rx, 1⟩) rfl) hi v 1 1 ⟨by have := hv.1; omega, by have := hv.2; omega⟩ (ok_s7 (by decide) (by decide)) (ok_s7 (by decide) (by decide))
  obtain ⟨k1, k2, k3⟩ := hi.ok.enterM_ok (v := v) hi.root 1 1
  have k4 := hi.ok.enterM_cnt (v := v) hi.root 1 1
  rw [show (enterM 60 1 rx v 1 1 ⟨W, xs, 1⟩).1 = 0 from he] at hE
  refine hE.mono ?_
  rintro e w' ⟨rfl, k⟩
  obtain ⟨O', OX', g1, _, _⟩ := h1.step pmOk (i := 0) rfl k
  have g2 := h2.step (i := 0) (q' := ⟨x, OX', 0, 1, rx, (enterM 60 1 rx v 1 1 ⟨W, xs, 1⟩).2.N⟩) rfl k1 k2 k3 k4 rfl rfl rfl
  have hN3 : (enterM 60 1 rx v 1 1 ⟨W, xs, 1⟩).2.N = 3 := hN
  have g1 : PSt SpS w0 w' m d 60 p O' (enterM 60 1 rx v 1 1 ⟨W, xs, 1⟩).2.W (enterM 60 1 rx v 1 1 ⟨W, xs, 1⟩).2.xs [⟨x, OX', 0, 1, rx, (enterM 60 1 rx v 1 1 ⟨W, xs, 1⟩).2.N⟩, ⟨y, OY, 0, 2, ry, 1⟩] := g1
  have g2 : MSt 60 (enterM 60 1 rx v 1 1 ⟨W, xs, 1⟩).2.W (enterM 60 1 rx v 1 1 ⟨W, xs, 1⟩).2.xs [⟨x, OX', 0, 1, rx, (enterM 60 1 rx v 1 1 ⟨W, xs, 1⟩).2.N⟩, ⟨y, OY, 0, 2, ry, 1⟩] := g2
  rw [hN3] at g1 g2
  exact ⟨rfl, O', _, _, OX', OY, g1.swap, g2.swap, hh⟩
theorem enter_y {x y : Nat} {rx ry u : Int} (h : Apart1 w0 w m d p v x y rx ry) (hu : 0 ≤ u ∧ u < 67108864) : Calls Try.prog 13 #[.pointer (some ⟨y, 0, none⟩), .int .i64 u, .int .i64 2, .int .i64 3] w fun e w' => e = .returned (.int .i64 0) ∧ Apart7 w0 w' m d p v x y rx ry := by
  obtain ⟨O, W, xs, OX, OY, h1, h2, h3⟩ := h
  have hi := h2.inv (i := 0) (q := ⟨y, OY, 0, 2, ry, 1⟩) rfl
  have n1 := h2.N ⟨x, OX, 0, 1, rx, 3⟩ (by simp)
  have n2 := h2.N ⟨y, OY, 0, 2, ry, 1⟩ (by simp)
  have n3 := mst_tot h2 (a := 1) (b := 2) (by decide) fun q hq => by simp at hq; rcases hq with rfl | rfl; exact .inr rfl; exact .inl rfl
  simp only at n1 n2
  have hp : (1 : Int) ≤ 3 ∧ (3 : Int) ≤ 7 := ⟨by decide, by decide⟩
  have hf : (0 : Int) ≤ 2 ∧ (2 : Int) < (60 : Nat) := ⟨by decide, by decide⟩
  have he : (enterM 60 2 ry u 2 3 ⟨W, xs, 1⟩).1 = 0 := by
    rw [enterM_in hu hp hf]
    exact (hi.ok.enter1_fits hi.root (show totF xs + 1 < (60 : Nat) by omega)).1
  have hE := pmOk.enter (h1.px (i := 0) (q := ⟨y, OY, 0, 2, ry, 1⟩) rfl) hi u 2 3 ⟨by have := hu.1; omega, by have := hu.2; omega⟩ (ok_s7 (by decide) (by decide)) (ok_s7 (by decide) (by decide))
  obtain ⟨k1, k2, k3⟩ := hi.ok.enterM_ok (v := u) hi.root 2 3
  have k4 := hi.ok.enterM_cnt (v := u) hi.root 2 3
  rw [show (enterM 60 2 ry u 2 3 ⟨W, xs, 1⟩).1 = 0 from he] at hE
  refine hE.mono ?_
  rintro e w' ⟨rfl, k⟩
  exact ⟨rfl, Apart7.step h1 h2 h3 k k1 k2 k3 k4⟩
end
end Go.Proofs.Ytlieommbomjdaaa

namespace Go.Proofs.Ytlieommbomjdaaa
open Go.ChangeShapes Go.WideShapes Go.ChangeAt Go.RowKit Go.Deep
set_option linter.unusedVariables false

set_option maxRecDepth 100000 in
set_option maxHeartbeats 8000000 in
theorem apart_walk (w : World) (v0 u0 : Int) (s : Option Addr) (l cc : Nat) (As : List A7) (hA : A7sAre w s l As) (hv : okU v0) (hu : okU u0) :
    Calls Try.prog 8 #[.int .u64 v0, .int .u64 u0, .slice s l cc] w fun e w' => e = .returned (.bool true) ∧ w.grownBy w' none := by
  have HL := Lib.hid (lives7 pmOk)
  have HA := Lib.hid hA
  obtain ⟨v1, v2⟩ := hv
  obtain ⟨u1, u2⟩ := hu
  have hvr : 0 ≤ v0 % 67108864 ∧ v0 % 67108864 < 67108864 := ⟨by omega, by omega⟩
  have hur : 0 ≤ u0 % 67108864 ∧ u0 % 67108864 < 67108864 := ⟨by omega, by omega⟩
  obtain ⟨V, hV⟩ : ∃ V, v0 % 67108864 = V := ⟨_, rfl⟩
  obtain ⟨U, hU⟩ : ∃ U, u0 % 67108864 = U := ⟨_, rfl⟩
  rw [hV] at hvr
  rw [hU] at hur
  have HVr := Lib.hid hvr
  have HUr := Lib.hid hur
  have HN := Lib.hid (newE w (Below.refl _ w) 60 60 rfl (by decide) (by decide))
  obtain ⟨M, hM⟩ : ∃ M : List UInt8, List.replicate (60 * 4096) 0 = M := ⟨_, rfl⟩
  rw [hM] at HN
  clear hA hM
  by_cases h12 : (l : Int) > 12
  · have d0 : decide ((l : Int) > 12) = true := by simpa using h12
    clear h12 HA
    go_enter Try.func8, Try.ntmps8
    go_wp2_with fail
    refine HN.out.mono ?_
    rintro e wb ⟨rfl, h1, g1⟩
    have HSt := Lib.hid (pm_start h1 (by decide) (by decide) 60 rfl)
    generalize w.heap.size + 1 = m at *
    generalize w.heap.size = d at *
    clear h1 g1 HN
    go_wp2_with fail
    refine HSt.out.mono ?_
    rintro e wc ⟨p, O, rfl, h2, -, -⟩
    have HF := Lib.hid (first7 h2)
    clear h2 HSt
    go_wp2_with fail
    refine HF.out.mono ?_
    rintro e wd ⟨x, rx, rfl, h3⟩
    have HS := Lib.hid (second7 h3)
    clear h3 HF
    go_wp2_with fail
    refine HS.out.mono ?_
    rintro e we ⟨y, ry, rfl, h4⟩
    have h4g : w.grownBy we none := by obtain ⟨O, W, xs, OX, OY, k1, _, _⟩ := h4; exact k1.low
    have HG := Lib.hid h4g
    clear h4 h4g HS
    go_wp2_with fail
    refine (HL.out _).mono ?_
    rintro e wf ⟨rfl, gf⟩
    have HGf := Lib.hid (grown_trans HG.out gf)
    clear gf
    go_wp2_with fail
    go_ret
    exact ⟨rfl, HGf.out⟩
  · have d0 : decide ((l : Int) > 12) = false := by simpa using h12
    have hl : l ≤ 12 := by omega
    clear h12
    go_enter Try.func8, Try.ntmps8
    go_wp2_with fail
    refine HN.out.mono ?_
    rintro e wb ⟨rfl, h1, g1⟩
    have HSt := Lib.hid (pm_start h1 (by decide) (by decide) 60 rfl)
    generalize w.heap.size + 1 = m at *
    generalize w.heap.size = d at *
    clear h1 g1 HN
    go_wp2_with fail
    refine HSt.out.mono ?_
    rintro e wc ⟨p, O, rfl, h2, -, -⟩
    have HF := Lib.hid (first7 h2)
    clear h2 HSt
    go_wp2_with fail
    refine HF.out.mono ?_
    rintro e wd ⟨x, rx, rfl, h3⟩
    have HS := Lib.hid (second7 h3)
    clear h3 HF
    go_wp2_with fail
    refine HS.out.mono ?_
    rintro e we ⟨y, ry, rfl, h4⟩
    have HEx := Lib.hid (enter_x h4 HVr.out)
    clear h4 HS
    go_wp2_with fail
    refine HEx.out.mono ?_
    rintro e wf ⟨rfl, h5⟩
    have HEy := Lib.hid (enter_y h5 HUr.out)
    clear h5 HEx
    go_wp2_with fail
    refine HEy.out.mono ?_
    rintro e wg ⟨rfl, h6⟩
    have H6 := Lib.hid h6
    clear h6 HEy
    go_wp2_with fail
    clear hvr hur v1 v2 u1 u2 d0
    go_loopg [82] l (fun g iv wr => ∃ j : Nat, g = l - j ∧ j ≤ l ∧ iv = .int .i64 j ∧ Hid (Apart7 w wr m d p V x y rx ry))
    case atStart => exact ⟨0, by omega, by omega, rfl, H6⟩
    case round =>
      obtain ⟨j, rfl, hj, rfl, HJ⟩ := hrel
      by_cases hlt : j < l
      · obtain ⟨A, hAj⟩ : ∃ A, As[j]? = some A := ⟨_, List.getElem?_eq_getElem (by rw [HA.out.len]; exact hlt)⟩
        obtain ⟨gb, o, rfl, c0, c1, c2, c3, c4⟩ := HA.out.at HJ.out.low hAj
        have HOk := Lib.hid (HA.out.ok A (List.mem_of_getElem? hAj))
        have ga := World.grownBy_alloc wr (.cells #[.int .i64 A.k, .int .i64 A.s, .int .i64 A.v, .int .i64 A.a, .int .i64 A.b] 60 (0, 0)) none
        have HIA := Lib.hid (HJ.out.grow ga)
        have HB := Lib.hid (show A7B (wr.alloc (.cells #[.int .i64 A.k, .int .i64 A.s, .int .i64 A.v, .int .i64 A.a, .int .i64 A.b] 60 (0, 0))) wr.heap.size A from heap_alloc_new wr _)
        obtain ⟨b0, b1, b2, b3, b4⟩ := HB.out.at
        clear hAj ga
        go_upto_block 2 with fail
        clear c0 c1 c2 c3 c4 b0 b1 b2 b3 b4 HJ
        generalize (wr.alloc (.cells #[.int .i64 A.k, .int .i64 A.s, .int .i64 A.v, .int .i64 A.a, .int .i64 A.b] 60 (0, 0))) = wA at *
        generalize wr.heap.size = Y at *
        go_cut [6] from 83 to 138 (fun ok wx => Hid (Apart7 w wx m d p V x y rx ry))
        case first =>
          obtain ⟨b0, b1, b2, b3, b4⟩ := HB.out.at
          by_cases hk0 : A.k = 0
          · have e0 : (A.k == 0) = true := by simp [hk0]
            clear hk0
            go_wp2_with fail
            refine (HIA.out.enter A.v A.a A.b HOk.out.v HOk.out.a HOk.out.b).mono ?_
            rintro e w5 ⟨⟨z, rfl⟩, h5⟩
            have HI5 := Lib.hid h5
            clear h5
            go_wp2
            go_meet
            case rel => exact HI5
          · have e0 : (A.k == 0) = false := by simp [hk0]
            by_cases hk1 : A.k = 1
            · have e1 : (A.k == 1) = true := by simp [hk1]
              clear hk0 hk1
              go_wp2_with fail
              refine (HIA.out.remove A.v HOk.out.v).mono ?_
              rintro e w5 ⟨⟨z, rfl⟩, h5⟩
              have HI5 := Lib.hid h5
              clear h5
              go_wp2
              go_meet
              case rel => exact HI5
            · have e1 : (A.k == 1) = false := by simp [hk1]
              by_cases hk2 : A.k = 2
              · have e2 : (A.k == 2) = true := by simp [hk2]
                clear hk0 hk1 hk2
                go_wp2_with fail
                refine (HIA.out.protect A.v A.b HOk.out.v HOk.out.b).mono ?_
                rintro e w5 ⟨⟨z, rfl⟩, h5⟩
                have HI5 := Lib.hid h5
                clear h5
                go_wp2
                go_meet
                case rel => exact HI5
              · have e2 : (A.k == 2) = false := by simp [hk2]
                by_cases hk3 : A.k = 3
                · have e3 : (A.k == 3) = true := by simp [hk3]
                  clear hk0 hk1 hk2 hk3
                  go_wp2_with fail
                  refine (HIA.out.clear A.v A.b HOk.out.v HOk.out.b).mono ?_
                  rintro e w5 ⟨⟨z, rfl⟩, h5⟩
                  have HI5 := Lib.hid h5
                  clear h5
                  go_wp2
                  go_meet
                  case rel => exact HI5
                · have e3 : (A.k == 3) = false := by simp [hk3]
                  clear hk0 hk1 hk2 hk3
                  go_wp2_with fail
                  go_meet
                  case rel => exact HIA
        case rest =>
          have HI5 := hcut
          obtain ⟨F, hF⟩ := HI5.out.find ⟨HVr.out.1, by have := HVr.out.2; omega⟩
          have HF := Lib.hid hF
          clear hF
          go_wp2_with fail
          refine HF.out.mono ?_
          rintro e w6 ⟨rfl, g6⟩
          have g7 := grown_trans g6 (World.grownBy_alloc w6 (.cells #[.int .i64 F, .int .i64 1] 44 (0, 0)) none)
          have h7 := HI5.out.grow g7
          have HT7 := Lib.hid h7.tables
          have HI7 := Lib.hid h7
          clear g6 g7 h7
          go_wp2_with fail
          refine HT7.out.mono ?_
          rintro e w8 ⟨rfl, g8⟩
          have HI8 := Lib.hid (HI7.out.grow g8)
          clear g8
          go_wp2_with fail
          go_roundg (l - (j + 1))
          case rel => exact ⟨j + 1, rfl, by omega, by go_num, HI8⟩
          case measure => omega
      · obtain rfl : j = l := by omega
        have HClose := Lib.hid HJ.out.close
        by_cases hVU : V = U
        · subst hVU
          go_wp2_with fail
          refine HClose.out.mono ?_
          rintro e w9 ⟨⟨z, rfl⟩, h9⟩
          obtain ⟨F, hF⟩ := h9.find ⟨HVr.out.1, by have := HVr.out.2; omega⟩
          have HF := Lib.hid hF
          have H9 := Lib.hid h9
          clear h9 hF HClose
          go_wp2_with fail
          refine HF.out.mono ?_
          rintro e wx ⟨rfl, gx⟩
          have gx2 := grown_trans gx (World.grownBy_alloc wx (.cells #[.int .i64 F, .int .i64 1] 44 (0, 0)) none)
          have hx := H9.out.grow gx2
          have HCn := Lib.hid hx.count
          have HX := Lib.hid hx
          clear gx gx2 hx
          go_wp2_with fail
          refine HCn.out.mono ?_
          rintro e wy ⟨rfl, gy⟩
          have HY := Lib.hid (HX.out.grow gy)
          clear gy
          go_wp2_with fail
          refine (HL.out _).mono ?_
          rintro e wz ⟨rfl, gz⟩
          have HZ := Lib.hid (HY.out.grow gz)
          clear gz
          go_wp2_with fail
          go_ret
          exact ⟨rfl, HZ.out.low⟩
        · have b1 : (V == U) = false := by simp [hVU]
          have b2 : (V != U) = true := by simp [hVU]
          have HNo := Lib.hid (HJ.out.findNo ⟨HUr.out.1, by have := HUr.out.2; omega⟩ (fun e => hVU e.symm))
          go_wp2_with fail
          refine HNo.out.mono ?_
          rintro e w6 ⟨rfl, g6⟩
          have g7 := grown_trans g6 (World.grownBy_alloc w6 (.cells #[.int .i64 0, .int .i64 0] 44 (0, 0)) none)
          replace HClose := Lib.hid (HJ.out.grow g7).close
          clear g6 g7 HNo
          go_wp2_with fail
          refine HClose.out.mono ?_
          rintro e w9 ⟨⟨z, rfl⟩, h9⟩
          obtain ⟨F, hF⟩ := h9.find ⟨HVr.out.1, by have := HVr.out.2; omega⟩
          have HF := Lib.hid hF
          have H9 := Lib.hid h9
          clear h9 hF HClose
          go_wp2_with fail
          refine HF.out.mono ?_
          rintro e wx ⟨rfl, gx⟩
          have gx2 := grown_trans gx (World.grownBy_alloc wx (.cells #[.int .i64 F, .int .i64 1] 44 (0, 0)) none)
          have hx := H9.out.grow gx2
          have HCn := Lib.hid hx.count
          have HX := Lib.hid hx
          clear gx gx2 hx
          go_wp2_with fail
          refine HCn.out.mono ?_
          rintro e wy ⟨rfl, gy⟩
          have HY := Lib.hid (HX.out.grow gy)
          clear gy
          go_wp2_with fail
          refine (HL.out _).mono ?_
          rintro e wz ⟨rfl, gz⟩
          have HZ := Lib.hid (HY.out.grow gz)
          clear gz
          go_wp2_with fail
          go_ret
          exact ⟨rfl, HZ.out.low⟩
end Go.Proofs.Ytlieommbomjdaaa
