/- ObjectFiles: what it asks of the plain list; a pool and two rows of the law's own, apart. -/
import Derived.Test.YtefcefclncbimaaObStay
import Derived.Deep.CutBlock
import Derived.Deep.DeepCutAuto
namespace Go.Proofs.Ytefcefclncbimaa
open Go.ChangeShapes Go.WideShapes Go.ChangeAt Go.RowKit Go.Deep
set_option linter.unusedVariables false

/-- Objects of these files, each with one page that bears its place. -/
def filesL (k : Int) (F : List Int) : ObL := (List.range F.length).map fun i : Nat => some ⟨F.getD i 0, 1, [(k, ⟨(i : Int), 0, false⟩)]⟩
section
variable {k f : Int} {F : List Int} {i : Nat}
theorem files_len : (filesL k F).length = F.length := by unfold filesL; rw [List.length_map, List.length_range]
theorem files_at (h : i < F.length) : (filesL k F)[i]? = some (some ⟨F.getD i 0, 1, [(k, ⟨(i : Int), 0, false⟩)]⟩) := by
  unfold filesL
  rw [List.getElem?_map, List.getElem?_range h]
  rfl
theorem files_live (h : i < F.length) : liveO (filesL k F) i = true := liveO_some (files_at h)
theorem files_first : firstO (filesL k F) = F.length := first_eq (fun j hj => files_live hj) (liveO_out (by rw [files_len]; exact Nat.le_refl _)) (by rw [files_len]; exact Nat.le_refl _)
theorem files_ids : (idsO (filesL k F)).length = F.length := by
  unfold idsO
  rw [files_len]
  exact idsOTo_all fun j hj => files_live hj
theorem files_more : filesL k (F ++ [f]) = filesL k F ++ [some ⟨f, 1, [(k, ⟨(F.length : Int), 0, false⟩)]⟩] := by
  unfold filesL
  rw [List.length_append, List.length_singleton, List.range_succ, List.map_append]
  congr 1
  · refine List.map_congr_left fun j hj => ?_
    have hj := List.mem_range.1 hj
    rw [List.getD_eq_getElem?_getD, List.getD_eq_getElem?_getD, List.getElem?_append_left hj]
  · simp
theorem files_hasF (h : i < F.length) : hasF (filesL k F) f i = decide (F.getD i 0 = f ∧ 0 < f) := hasF_at (files_at h)
theorem files_busy {most : Nat} (hg : GoodOs most (filesL k F)) (h0 : 0 < f) (hm : f ∈ F) : findO (filesL k F) f ≠ 0 := by
  obtain ⟨i, hi, e⟩ := List.mem_iff_getElem.1 hm
  have h1 : hasF (filesL k F) f i = true := by
    rw [files_hasF hi, List.getD_eq_getElem?_getD, List.getElem?_eq_getElem hi]
    simp [e, h0]
  rw [find_is (fun j hj => hg.uniq f j i hj h1) h1]
  omega
theorem files_free (h : ¬ (0 < f ∧ f ∈ F)) : findO (filesL k F) f = 0 := find_none fun i => by
  cases e : hasF (filesL k F) f i with
  | false => rfl
  | true =>
    have hi := hasF_lt e
    rw [files_len] at hi
    rw [files_hasF hi, List.getD_eq_getElem?_getD, List.getElem?_eq_getElem hi] at e
    have e : F[i] = f ∧ 0 < f := by simpa using e
    exact absurd ⟨e.2, e.1 ▸ List.getElem_mem hi⟩ h
theorem files_find {most : Nat} (hg : GoodOs most (filesL k F)) (hi : F[i]? = some f) (h0 : 0 < f) : findO (filesL k F) f = (i : Int) + 1 := by
  have hl := (List.getElem?_eq_some_iff.1 hi).1
  have h1 : hasF (filesL k F) f i = true := by
    rw [files_hasF hl, List.getD_eq_getElem?_getD, hi]
    simp [h0]
  exact find_is (fun j hj => hg.uniq f j i hj h1) h1
theorem files_get (hi : F[i]? = some f) : getO (filesL k F) ((i : Int) + 1) k = some ⟨(i : Int), 0, false⟩ := by
  have hl := (List.getElem?_eq_some_iff.1 hi).1
  unfold getO
  rw [ofO_at (files_at hl)]
  unfold lookO
  simp
theorem files_file (hi : F[i]? = some f) : fileO (filesL k F) ((i : Int) + 1) = f := by
  have hl := (List.getElem?_eq_some_iff.1 hi).1
  unfold fileO
  rw [ofO_at (files_at hl), List.getD_eq_getElem?_getD, hi]
  rfl
theorem files_make (h : ¬ (0 < f ∧ f ∈ F)) (h0 : 0 ≤ f) (hl : F.length < 40) : makeO 40 (filesL k F) f = ⟨(F.length : Int) + 1, 0, filesL k F ++ [some ⟨f, 1, []⟩]⟩ := by
  rw [make_eq (by omega) (files_free h) (by rw [files_ids]; omega), files_first]
  unfold putO
  rw [if_neg (by rw [files_len]; omega)]
theorem files_put {l : ObL} (hl : l.length = F.length) (hk : 0 ≤ k ∧ k < 4096) : putPO (l ++ [some ⟨f, 1, []⟩]) ((F.length : Int) + 1) k ⟨(F.length : Int), 0, false⟩ = ⟨0, 0, l ++ [some ⟨f, 1, [(k, ⟨(F.length : Int), 0, false⟩)]⟩]⟩ := by
  rw [putP_eq (i := F.length) (o := ⟨f, 1, []⟩) (by rw [List.getElem?_append_right (by omega), hl, Nat.sub_self]; rfl) hk, List.set_append_right _ _ (by omega), hl, Nat.sub_self]
  rfl
/-- Has one come before? -/
def twiceO (f : Int) (F : List Int) : Bool := decide (0 < f) && F.any fun g => g == f
theorem twice_snoc (h : F[i]? = some k) : twiceO f (F.take (i + 1)) = (twiceO f (F.take i) || (decide (0 < f) && k == f)) := by
  unfold twiceO
  rw [takel_at h, List.any_append]
  simp [Bool.and_or_distrib_left]
theorem twice_iff : twiceO f F = true ↔ 0 < f ∧ f ∈ F := by
  unfold twiceO
  simp
end

/-! ### a pool and two rows -/
/-- 'append(l, n)', and where the row then lies. -/
theorem wpList_zpush2 {ops : Array Oper} {rest : List Oper} {o : Oper} {a : Act} {Q : Exit → Act → World → Prop} (w : World) (hgd : o.guard = none) (s x : Operand)
    (ho : o.op = .call { callee := .builtin .append, args := #[s, x], argTypes := #[50, 50] }) (base : Nat) (v : Value) (xs : List Int) (y : Int) (hs : a.eval s = v) (h : ZOwn w base v xs) (H c : Nat)
    (hx : a.eval x = .slice (some ⟨H, 0, none⟩) 1 c) (hH : w.heap.size = H) (hl : xs.length ≤ 1000000) (hbase : base ≤ H)
    (hK : ∀ g cap w', ZOwn w' base (.slice (some ⟨g, 0, none⟩) (xs.length + 1) cap) (xs ++ [y]) → (w.alloc (.cells #[.int .i64 y] 3)).grownBy w' v.ownBlock → (v.ownBlock = some g ∨ g = w.heap.size + 1) → wpList Try.prog ops Q rest (a.put o.dst (.slice (some ⟨g, 0, none⟩) (xs.length + 1) cap)) w') :
    wpList Try.prog ops Q (o :: rest) a (w.alloc (.cells #[.int .i64 y] 3)) := by
  obtain ⟨i0, hi, hz0, hz1, hz2⟩ := info_parts info_intZ
  subst hH
  refine wpList_append_lies _ hgd s x 50 ho base 3 i0 (.int .i64 0) 1 8 Try.underlying50 hi hz0 hz1 hz2 rfl (by decide) v xs.length (xs.flatMap zCells) hs (World.ownsRow.alloc h _) ⟨w.heap.size, 0, none⟩ 1 c (zCells y) hx rfl ?_ ?_ (by omega) (by unfold maxLen; omega) (by omega) (by simp; omega) (w.heap.size + 1) (by simp) ?_
  · exact World.news_of_block (heap_alloc_new w _)
  · intro u hu; simp [zCells] at hu; rw [hu]; rfl
  · intro g cap w' hown hgrow hat hlt
    refine hK g cap w' ?_ hgrow hat
    unfold ZOwn OwnOf
    simp only [List.length_append, List.length_cons, List.length_nil, List.flatMap_append, List.flatMap_cons, List.flatMap_nil, List.append_nil]
    exact hown
structure FJ (D : World → Nat → Nat → ObL → List Nat → Prop) (w wx : World) (p m : Nat) (L : ObL) (O : List Nat) (u v : Value) (Y Z : List Int) : Prop where
  o : LO D w wx p m L O
  r : ZOwn wx w.heap.size u Y
  s : ZOwn wx w.heap.size v Z
  ne : ∀ b, u.ownBlock = some b → v.ownBlock ≠ some b
  ar : ∀ b, u.ownBlock = some b → b ∉ O
  aq : ∀ b, v.ownBlock = some b → b ∉ O
section
variable {D : World → Nat → Nat → ObL → List Nat → Prop} {w wx w2 w9 : World} {p m g c : Nat} {L L' : ObL} {O : List Nat} {u v u' : Value} {Y Z : List Int} {y : Int}
theorem FJ.grow (H : StOkO D) (h : FJ D w wx p m L O u v Y Z) (k : wx.grownBy w2 none) : FJ D w w2 p m L O u v Y Z := ⟨h.o.grow H k, OwnOf.grow h.r k, OwnOf.grow h.s k, h.ne, h.ar, h.aq⟩
theorem FJ.left (h : FJ D w wx p m L O u v Y Z) (t : ALo D wx w2 p m O L') : ∃ O', FJ D w w2 p m L' O' u v Y Z := by
  obtain ⟨O', h2, t2, o2⟩ := h.o.left t
  refine ⟨O', h2, own_turn h.r t2 h.ar, own_turn h.s t2 h.aq, h.ne, fun b hb hm => ?_, fun b hb hm => ?_⟩
  · rcases o2 b hm with h3 | h3
    · exact h.ar b hb h3
    · have := (OwnOf.lt h.r hb).2; omega
  · rcases o2 b hm with h3 | h3
    · exact h.aq b hb h3
    · have := (OwnOf.lt h.s hb).2; omega
theorem FJ.swap (h : FJ D w wx p m L O u v Y Z) : FJ D w wx p m L O v u Z Y := ⟨h.o, h.s, h.r, fun b h1 h2 => h.ne b h2 h1, h.aq, h.ar⟩
/-- The first row gets one more. -/
theorem FJ.push (H : StOkO D) (h : FJ D w wx p m L O u v Y Z) {o : Obj} (k : (wx.alloc o).grownBy w9 u.ownBlock) (hr : ZOwn w9 w.heap.size (.slice (some ⟨g, 0, none⟩) (Y.length + 1) c) (Y ++ [y])) (hat : u.ownBlock = some g ∨ g = wx.heap.size + 1) :
    FJ D w w9 p m L O (.slice (some ⟨g, 0, none⟩) (Y.length + 1) c) v (Y ++ [y]) Z := by
  have ga := World.grownBy_alloc wx o none
  have hs := Nat.le_trans ga.size k.size
  have hb0 : ∀ b, u.ownBlock = some b → w.heap.size ≤ b := fun b hb => (OwnOf.lt h.r hb).1
  have hold : ∀ b, b < wx.heap.size → u.ownBlock ≠ some b → w9.heap[b]? = wx.heap[b]? := fun b hb hn => (k.block b (Nat.lt_of_lt_of_le hb ga.size) fun e => hn e.symm).trans (ga.block b hb (by simp))
  have hg : ∀ b, (Value.slice (some ⟨g, 0, none⟩) (Y.length + 1) c).ownBlock = some b → u.ownBlock = some b ∨ wx.heap.size ≤ b := fun b hb => by
    have e : g = b := by simpa [Value.ownBlock] using hb
    subst e
    rcases hat with h1 | h1
    · exact .inl h1
    · exact .inr (by omega)
  refine ⟨⟨H.kept h.o.d hs fun b hb => hold b (H.lt h.o.d b hb) fun e => h.ar b e hb, h.o.own, grown_own (grown_trans h.o.grown ga) k hb0⟩, hr, OwnOf.kept h.s fun b hb => hold b (OwnOf.lt h.s hb).2 fun e => h.ne b e hb, fun b hb hv => ?_, fun b hb hm => ?_, h.aq⟩
  · rcases hg b hb with h1 | h1
    · exact h.ne b h1 hv
    · have := (OwnOf.lt h.s hv).2; omega
  · rcases hg b hb with h1 | h1
    · exact h.ar b h1 hm
    · have := H.lt h.o.d b hm; omega
end
end Go.Proofs.Ytefcefclncbimaa
