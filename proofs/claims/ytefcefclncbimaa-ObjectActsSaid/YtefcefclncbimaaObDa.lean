/- Package object (landed): what a pool is, and what becomes of it; made, find, Of, File, New. -/
import Derived.Test.YtefcefclncbimaaObMap
import Derived.Test.YtefcefclncbimaaObRef6
namespace Go.Proofs.Ytefcefclncbimaa
open Go.ChangeShapes Go.WideShapes Go.ChangeAt Go.RowKit Go.Deep
set_option linter.unusedVariables false

/-- The landed pages: a map. -/
def LPD : PD := fun w v l O => ∃ M, v = .map (some M) ∧ MapV pgAgg w M l ∧ O = [M]
theorem lpdOk : PdOk LPD where
  lt := fun h b hb => by
    obtain ⟨M, -, h1, rfl⟩ := h
    rw [List.mem_singleton.1 hb]
    exact h1.lt
  kept := fun h hs hb => by
    obtain ⟨M, rfl, h1, rfl⟩ := h
    exact ⟨M, rfl, h1.kept (hb M (by simp)), rfl⟩
def ptrV (a : Nat) : Value := .pointer (some ⟨a, 0, none⟩)
def numV (k : Int) : Value := .int .i64 k
theorem lawsO : VLaws 65 76 (.pointer none) := ⟨Try.underlying65, fun w => by kernel_rfl⟩
theorem lawsF : VLaws 66 3 (.int .i64 0) := ⟨Try.underlying66, fun w => by kernel_rfl⟩
theorem lawsP : VLaws 77 30 (pgAgg zeroP) := ⟨Try.underlying77, fun w => by kernel_rfl⟩

/-! ### the two maps, by the list -/
/-- What holds between two steps of a call, too. -/
structure UniqO (most : Nat) (L : ObL) : Prop where
  len : L.length ≤ most
  most : most ≤ 4096
  uniq : ∀ f i j, hasF L f i = true → hasF L f j = true → i = j
theorem GoodOs.u {most : Nat} {L : ObL} (h : GoodOs most L) : UniqO most L := ⟨h.len, h.most, h.uniq⟩
theorem find_casesU {most : Nat} {L : ObL} (h : UniqO most L) (f : Int) : (findO L f = 0 ∧ ∀ i, hasF L f i = false) ∨ ∃ i : Nat, findO L f = (i : Int) + 1 ∧ hasF L f i = true := by
  by_cases hx : ∃ i, hasF L f i = true
  · obtain ⟨i, hi⟩ := hx
    exact .inr ⟨i, find_is (fun j hj => h.uniq f j i hj hi) hi, hi⟩
  · have h0 : ∀ i, hasF L f i = false := fun i => by
      cases e : hasF L f i with
      | false => rfl
      | true => exact absurd ⟨i, e⟩ hx
    exact .inl ⟨find_none h0, h0⟩
def fileAt (L : ObL) (i : Nat) : Int := match L[i]? with | some (some x) => x.file | _ => 0
def nsO (L : ObL) (S : Nat → ObP) : List (Int × Nat) := ((List.range 4096).filter (liveO L)).map fun i : Nat => ((i : Int) + 1, (S i).a)
def fsO (L : ObL) : List (Int × Int) := ((List.range 4096).filter fun i => decide (0 < fileAt L i)).map fun i : Nat => (fileAt L i, (i : Int) + 1)
section
variable {L : ObL} {S : Nat → ObP} {most i j : Nat} {x y : ObV} {P : ObP} {f : Int}
theorem fileAt_some (h : L[i]? = some (some x)) : fileAt L i = x.file := by unfold fileAt; rw [h]
theorem fileAt_dead (h : liveO L i = false) : fileAt L i = 0 := by
  unfold fileAt
  split
  · rename_i x hx
    rw [liveO_some hx] at h
    cases h
  · rfl
theorem fileAt_pos (h : 0 < fileAt L i) : ∃ x, L[i]? = some (some x) ∧ x.file = fileAt L i := by
  unfold fileAt at h ⊢
  split at h
  · rename_i x hx
    exact ⟨x, hx, rfl⟩
  · omega
theorem hasF_fileAt : hasF L f i = decide (fileAt L i = f ∧ 0 < f) := by
  cases hl : liveO L i with
  | true =>
    obtain ⟨x, hx⟩ := live_get hl
    rw [hasF_at hx, fileAt_some hx]
  | false =>
    rw [hasF_dead hl, fileAt_dead hl]
    exact (decide_eq_false (by omega)).symm
theorem nsO_len : (nsO L S).length ≤ 4096 := by
  unfold nsO
  rw [List.length_map]
  exact Nat.le_trans (List.length_filter_le _ _) (by rw [List.length_range]; exact Nat.le_refl _)
theorem fsO_len : (fsO L).length ≤ 4096 := by
  unfold fsO
  rw [List.length_map]
  exact Nat.le_trans (List.length_filter_le _ _) (by rw [List.length_range]; exact Nat.le_refl _)
theorem ids_ge {n : Nat} (h : L.length ≤ n) : idsOTo L n = idsO L := by
  induction n with
  | zero => have : L.length = 0 := by omega
            unfold idsO; rw [this]
  | succ n ih =>
    by_cases e : L.length = n + 1
    · unfold idsO; rw [e]
    · rw [idsOTo_succ, ih (by omega), liveO_out (by omega)]
      simp
theorem nsO_keys (h : L.length ≤ 4096) : (nsO L S).map (·.1) = idsO L := by
  rw [← ids_ge h]
  unfold nsO idsOTo
  rw [List.map_map]
  rfl
theorem nsO_nodup : ((nsO L S).map (·.1)).Nodup := by
  unfold nsO
  rw [List.map_map]
  refine List.pairwise_map.2 ((List.nodup_range.filter _).imp fun {a b} h e => h ?_)
  have e : (a : Int) + 1 = (b : Int) + 1 := e
  omega
theorem nsO_at (h4 : L.length ≤ 4096) (hx : L[i]? = some (some x)) : ((i : Int) + 1, (S i).a) ∈ nsO L S := by
  have := (List.getElem?_eq_some_iff.1 hx).1
  exact List.mem_map.2 ⟨i, List.mem_filter.2 ⟨List.mem_range.2 (by omega), liveO_some hx⟩, rfl⟩
theorem nsO_no {id : Int} (h : ofO L id = none) : ∀ n, n ∈ nsO L S → n.1 ≠ id := by
  intro n hn e
  obtain ⟨i, hi, rfl⟩ := List.mem_map.1 hn
  obtain ⟨x, hx⟩ := live_get (List.mem_filter.1 hi).2
  have e : (i : Int) + 1 = id := e
  rw [← e, ofO_at hx] at h
  cases h
theorem fsO_nodup (h : UniqO most L) : ((fsO L).map (·.1)).Nodup := by
  unfold fsO
  rw [List.map_map]
  have key : ∀ l : List Nat, l.Nodup → (∀ i, i ∈ l → 0 < fileAt L i) → (l.map ((fun n : Int × Int => n.1) ∘ fun i : Nat => (fileAt L i, (i : Int) + 1))).Nodup := by
    intro l
    induction l with
    | nil => intro _ _; exact List.nodup_nil
    | cons a l ih =>
      intro hd hp
      rw [List.nodup_cons] at hd
      rw [List.map_cons, List.nodup_cons]
      refine ⟨fun hm => ?_, ih hd.2 fun i hi => hp i (List.mem_cons_of_mem _ hi)⟩
      obtain ⟨b, hb, e⟩ := List.mem_map.1 hm
      have e : fileAt L b = fileAt L a := e
      have ha := hp a (by simp)
      have := h.uniq (fileAt L a) a b (by rw [hasF_fileAt]; simp [ha]) (by rw [hasF_fileAt]; simp [e, ha])
      exact hd.1 (this ▸ hb)
  exact key _ (List.nodup_range.filter _) fun i hi => by simpa using (List.mem_filter.1 hi).2
theorem fsO_at (h4 : L.length ≤ 4096) (h : hasF L f i = true) : (f, (i : Int) + 1) ∈ fsO L := by
  rw [hasF_fileAt] at h
  have h : fileAt L i = f ∧ 0 < f := by simpa using h
  obtain ⟨x, hx, _⟩ := fileAt_pos (L := L) (i := i) (by omega)
  have := (List.getElem?_eq_some_iff.1 hx).1
  exact List.mem_map.2 ⟨i, List.mem_filter.2 ⟨List.mem_range.2 (by omega), by simp; omega⟩, by rw [h.1]⟩
theorem fsO_no (h : ∀ i, hasF L f i = false) : ∀ n, n ∈ fsO L → n.1 ≠ f := by
  intro n hn e
  obtain ⟨i, hi, rfl⟩ := List.mem_map.1 hn
  have h0 : 0 < fileAt L i := by simpa using (List.mem_filter.1 hi).2
  have e : fileAt L i = f := e
  have := h i
  rw [hasF_fileAt] at this
  simp at this
  omega
/-- One turns, of the same file. -/
theorem fileAt_set (hx : L[i]? = some (some x)) (hy : y.file = x.file) : fileAt (L.set i (some y)) j = fileAt L j := by
  unfold fileAt
  rw [set_at]
  by_cases e : j = i
  · subst e
    rw [if_pos ⟨rfl, (List.getElem?_eq_some_iff.1 hx).1⟩, hx]
    exact hy
  · rw [if_neg (fun k => e k.1)]
theorem nsO_turned (hx : L[i]? = some (some x)) (ha : P.a = (S i).a) : nsO (L.set i (some y)) (updO S i P) = nsO L S := by
  unfold nsO
  rw [List.filter_congr fun j _ => live_set_some (liveO_some hx) y]
  refine List.map_congr_left fun j _ => ?_
  by_cases e : j = i
  · rw [e, updO_same, ha]
  · rw [updO_other e]
theorem fsO_turned (hx : L[i]? = some (some x)) (hy : y.file = x.file) : fsO (L.set i (some y)) = fsO L := by
  unfold fsO
  rw [List.filter_congr fun j _ => by rw [fileAt_set hx hy]]
  exact List.map_congr_left fun j _ => by rw [fileAt_set hx hy]
/-- One goes. -/
theorem fileAt_none : fileAt (L.set i none) j = if j = i then 0 else fileAt L j := by
  unfold fileAt
  rw [List.getElem?_set]
  by_cases e : i = j
  · subst e
    rw [if_pos rfl, if_pos rfl]
    by_cases h : i < L.length
    · rw [if_pos h]
    · rw [if_neg h]
  · rw [if_neg e, if_neg (fun k => e k.symm)]
theorem nsO_gone : delK (nsO L S) ((i : Int) + 1) = nsO (L.set i none) S := by
  unfold delK nsO
  rw [List.filter_map, List.filter_filter]
  have e1 : (List.range 4096).filter (fun j => ((fun n : Int × Nat => decide (n.1 ≠ (i : Int) + 1)) ∘ fun i : Nat => ((i : Int) + 1, (S i).a)) j && liveO L j) = (List.range 4096).filter (liveO (L.set i none)) := by
    refine List.filter_congr fun j _ => ?_
    rw [live_set_none]
    show (decide ((j : Int) + 1 ≠ (i : Int) + 1) && liveO L j) = _
    by_cases e : j = i
    · rw [if_pos e, e]; simp
    · rw [if_neg e, decide_eq_true (by omega)]; simp
  rw [e1]
theorem fsO_gone (h : UniqO most L) (hx : L[i]? = some (some x)) : delK (fsO L) x.file = fsO (L.set i none) := by
  unfold delK fsO
  rw [List.filter_map, List.filter_filter]
  have e1 : (List.range 4096).filter (fun j => ((fun n : Int × Int => decide (n.1 ≠ x.file)) ∘ fun i : Nat => (fileAt L i, (i : Int) + 1)) j && decide (0 < fileAt L j)) = (List.range 4096).filter fun j => decide (0 < fileAt (L.set i none) j) := by
    refine List.filter_congr fun j _ => ?_
    show (decide (fileAt L j ≠ x.file) && decide (0 < fileAt L j)) = _
    rw [fileAt_none]
    by_cases e : j = i
    · rw [if_pos e, e, fileAt_some hx]; simp
    · rw [if_neg e]
      by_cases h0 : 0 < fileAt L j
      · have : fileAt L j ≠ x.file := fun e2 => e (h.uniq x.file j i (by rw [hasF_fileAt]; simp [e2]; omega) (by rw [hasF_at hx]; simp; omega))
        simp [this, h0]
      · simp [h0]
  rw [e1]
  refine List.map_congr_left fun j hj => ?_
  have h0 : 0 < fileAt (L.set i none) j := by simpa using (List.mem_filter.1 hj).2
  rw [fileAt_none] at h0
  rw [fileAt_none]
  split
  · rename_i e; rw [if_pos e] at h0; omega
  · rfl
/-- One comes. -/
theorem filter_flip {p q : Nat → Bool} {n i : Nat} (hi : i < n) (hp : p i = true) (hq : q i = false) (h : ∀ j, j ≠ i → p j = q j) : ((List.range n).filter p).Perm (i :: (List.range n).filter q) := by
  induction n with
  | zero => omega
  | succ n ih =>
    rw [List.range_succ, List.filter_append, List.filter_append]
    by_cases e : i = n
    · subst e
      have h1 : (List.range i).filter p = (List.range i).filter q := List.filter_congr fun j hj => h j (by have := List.mem_range.1 hj; omega)
      rw [h1]
      simp [hp, hq]
    · have h1 : [n].filter p = [n].filter q := List.filter_congr fun j hj => h j (by simp at hj; omega)
      rw [h1]
      exact (ih (by omega)).append_right _
theorem fileAt_put (hi : i ≤ L.length) : fileAt (putO L i (some y)) j = if j = i then y.file else fileAt L j := by
  unfold fileAt
  rw [put_at hi]
  by_cases e : j = i
  · rw [if_pos e, if_pos e]
  · rw [if_neg e, if_neg e]
theorem nsO_put (hi : i ≤ L.length) (h4 : i < 4096) (hd : liveO L i = false) : (((i : Int) + 1, P.a) :: delK (nsO L S) ((i : Int) + 1)).Perm (nsO (putO L i (some y)) (updO S i P)) := by
  have e0 : delK (nsO L S) ((i : Int) + 1) = nsO L S := delK_none fun n hn e => by
    obtain ⟨j, hj, rfl⟩ := List.mem_map.1 hn
    have e : (j : Int) + 1 = (i : Int) + 1 := e
    have h1 := (List.mem_filter.1 hj).2
    rw [show j = i by omega, hd] at h1
    cases h1
  rw [e0]
  have h1 : ((List.range 4096).filter (liveO (putO L i (some y)))).Perm (i :: (List.range 4096).filter (liveO L)) := filter_flip h4 (by rw [live_put hi, if_pos rfl]) hd fun j hj => by rw [live_put hi, if_neg hj]
  unfold nsO
  refine List.Perm.symm ((h1.map _).trans ?_)
  rw [List.map_cons, updO_same]
  refine List.Perm.cons _ ?_
  rw [List.map_congr_left (g := fun i : Nat => ((i : Int) + 1, (S i).a)) fun j hj => by
    have h2 := (List.mem_filter.1 hj).2
    rw [updO_other (fun e => by rw [e, hd] at h2; cases h2)]]
theorem fsO_put0 (hi : i ≤ L.length) (hd : liveO L i = false) (hf : y.file ≤ 0) : fsO (putO L i (some y)) = fsO L := by
  have key : ∀ j, 0 < fileAt (putO L i (some y)) j ↔ 0 < fileAt L j := fun j => by
    rw [fileAt_put hi]
    split
    · rename_i e; rw [e, fileAt_dead hd]; omega
    · exact Iff.rfl
  unfold fsO
  rw [List.filter_congr (q := fun j => decide (0 < fileAt L j)) fun j _ => by simp [key]]
  refine List.map_congr_left fun j hj => ?_
  have h0 : 0 < fileAt L j := by simpa using (List.mem_filter.1 hj).2
  rw [fileAt_put hi]
  split
  · rename_i e; rw [e, fileAt_dead hd] at h0; omega
  · rfl
theorem fsO_put (hi : i ≤ L.length) (h4 : i < 4096) (hd : liveO L i = false) (hf : 0 < y.file) (hn : ∀ j, hasF L y.file j = false) : ((y.file, (i : Int) + 1) :: delK (fsO L) y.file).Perm (fsO (putO L i (some y))) := by
  rw [delK_none (fsO_no hn)]
  have h1 : ((List.range 4096).filter fun j => decide (0 < fileAt (putO L i (some y)) j)).Perm (i :: (List.range 4096).filter fun j => decide (0 < fileAt L j)) := filter_flip h4 (by rw [fileAt_put hi, if_pos rfl]; simpa using hf) (by rw [fileAt_dead hd]; rfl) fun j hj => by rw [fileAt_put hi, if_neg hj]
  unfold fsO
  refine List.Perm.symm ((h1.map _).trans ?_)
  rw [List.map_cons, fileAt_put hi, if_pos rfl]
  refine List.Perm.cons _ ?_
  rw [List.map_congr_left (g := fun i : Nat => (fileAt L i, (i : Int) + 1)) fun j hj => by
    have h2 : 0 < fileAt L j := by simpa using (List.mem_filter.1 hj).2
    rw [fileAt_put hi, if_neg (fun e => by rw [e, fileAt_dead hd] at h2; omega)]]
end

theorem UniqO.turn {most i : Nat} {L : ObL} {x y : ObV} (h : UniqO most L) (hx : L[i]? = some (some x)) (hy : y.file = x.file) : UniqO most (L.set i (some y)) := by
  have e : ∀ f j, hasF (L.set i (some y)) f j = hasF L f j := fun f j => by rw [hasF_fileAt, hasF_fileAt, fileAt_set hx hy]
  exact ⟨by rw [List.length_set]; exact h.len, h.most, fun f j k h1 h2 => h.uniq f j k (by rw [← e]; exact h1) (by rw [← e]; exact h2)⟩
theorem UniqO.gone {most i : Nat} {L : ObL} (h : UniqO most L) : UniqO most (L.set i none) := by
  have e : ∀ f j, hasF (L.set i none) f j = true → hasF L f j = true := fun f j hj => by
    rw [hasF_fileAt, fileAt_none] at hj
    rw [hasF_fileAt]
    split at hj
    · have : (0 : Int) = f ∧ 0 < f := by simpa using hj
      omega
    · exact hj
  exact ⟨by rw [List.length_set]; exact h.len, h.most, fun f j k h1 h2 => h.uniq f j k (e f j h1) (e f k h2)⟩

/-! ### a pool -/
structure PO (w : World) (p most M1 M2 : Nat) (L : ObL) (S : Nat → ObP) : Prop where
  head : w.heap[p]? = some (.cells #[.int .i64 most, .map (some M1), .map (some M2)] 68 (0, 0))
  m1 : MapV ptrV w M1 (nsO L S)
  m2 : MapV numV w M2 (fsO L)
  am : ObS LPD 79 w L S
  pb : p ∉ blks L S
  b1 : M1 ∉ blks L S
  b2 : M2 ∉ blks L S
  ne : M1 ≠ M2
  good : UniqO most L
def blkM (p M1 M2 : Nat) (L : ObL) (S : Nat → ObP) : List Nat := p :: M1 :: M2 :: blks L S
section
variable {w w' w2 : World} {p most M1 M2 i b : Nat} {L : ObL} {S : Nat → ObP} {x y : ObV} {P : ObP}
theorem mem_blkM : b ∈ blkM p M1 M2 L S ↔ b = p ∨ b = M1 ∨ b = M2 ∨ b ∈ blks L S := by unfold blkM; simp
theorem PO.plt (h : PO w p most M1 M2 L S) : p < w.heap.size := (Array.getElem?_eq_some_iff.1 h.head).1
theorem PO.lt (h : PO w p most M1 M2 L S) : ∀ b, b ∈ blkM p M1 M2 L S → b < w.heap.size := fun b hb => by
  rcases mem_blkM.1 hb with rfl | rfl | rfl | hb
  · exact h.plt
  · exact h.m1.lt
  · exact h.m2.lt
  · exact h.am.lt lpdOk b hb
theorem PO.kept (h : PO w p most M1 M2 L S) (hs : w.heap.size ≤ w'.heap.size) (hb : ∀ b, b ∈ blkM p M1 M2 L S → w'.heap[b]? = w.heap[b]?) : PO w' p most M1 M2 L S :=
  ⟨(hb _ (mem_blkM.2 (.inl rfl))).trans h.head, h.m1.kept (hb _ (mem_blkM.2 (.inr (.inl rfl)))), h.m2.kept (hb _ (mem_blkM.2 (.inr (.inr (.inl rfl))))), h.am.kept lpdOk hs fun b k => hb b (mem_blkM.2 (.inr (.inr (.inr k)))), h.pb, h.b1, h.b2, h.ne, h.good⟩
theorem PO.grow (h : PO w p most M1 M2 L S) (g : w.grownBy w' none) : PO w' p most M1 M2 L S := h.kept g.size fun b hb => g.block b (h.lt b hb) (by simp)
theorem PO.at (h : PO w p most M1 M2 L S) : w.cell? ⟨p, 0, none⟩ = some (.int .i64 most) ∧ w.cell? ⟨p, 1, none⟩ = some (.map (some M1)) ∧ w.cell? ⟨p, 2, none⟩ = some (.map (some M2)) := ⟨by rw [cell_of_row _ _ _ _ _ _ h.head]; rfl, by rw [cell_of_row _ _ _ _ _ _ h.head]; rfl, by rw [cell_of_row _ _ _ _ _ _ h.head]; rfl⟩
theorem PO.len (h : PO w p most M1 M2 L S) : L.length ≤ 4096 := Nat.le_trans h.good.len h.good.most
def DLO (w : World) (p most : Nat) (L : ObL) (O : List Nat) : Prop := ∃ M1 M2 S, PO w p most M1 M2 L S ∧ GoodOs most L ∧ O = blkM p M1 M2 L S
theorem PO.same (h : PO w p most M1 M2 L S) (hg : GoodOs most L) (g : w.grownBy w' none) : ALo DLO w w' p most (blkM p M1 M2 L S) L := ⟨_, ⟨M1, M2, S, h.grow g, hg, rfl⟩, Turn.grown g, fun b hb => .inl hb⟩
/-- One object turns. -/
theorem PO.turned (h : PO w p most M1 M2 L S) (hx : L[i]? = some (some x)) (hb : ObB LPD 79 w' y P) (ha : P.a = (S i).a) (hy : y.file = x.file) (k : Turn (S i).blk w w') (o : ∀ b, b ∈ P.blk → b ∈ (S i).blk ∨ w.heap.size ≤ b) :
    PO w' p most M1 M2 (L.set i (some y)) (updO S i P) ∧ Turn (blkM p M1 M2 L S) w w' ∧ ∀ b, b ∈ blkM p M1 M2 (L.set i (some y)) (updO S i P) → b ∈ blkM p M1 M2 L S ∨ w.heap.size ≤ b := by
  have hl := liveO_some hx
  have hin : ∀ b, b ∈ (S i).blk → b ∈ blks L S := fun b hb => mem_blks.2 ⟨i, hl, hb⟩
  have ho : ∀ b, b ∈ blks (L.set i (some y)) (updO S i P) → b ∈ blks L S ∨ w.heap.size ≤ b := fun b hb => by
    rcases blks_turned hl hb with h1 | h1
    · exact .inl h1
    · rcases o b h1 with h2 | h2
      · exact .inl (hin b h2)
      · exact .inr h2
  refine ⟨⟨(k.block _ h.plt fun hm => h.pb (hin _ hm)).trans h.head, by rw [nsO_turned hx ha]; exact h.m1.kept (k.block _ h.m1.lt fun hm => h.b1 (hin _ hm)), by rw [fsO_turned hx hy]; exact h.m2.kept (k.block _ h.m2.lt fun hm => h.b2 (hin _ hm)), h.am.turned lpdOk hx hb k o, fun hm => ?_, fun hm => ?_, fun hm => ?_, h.ne, h.good.turn hx hy⟩, k.mono fun b hb => mem_blkM.2 (.inr (.inr (.inr (hin b hb)))), fun b hb => ?_⟩
  · rcases ho _ hm with h1 | h1
    · exact h.pb h1
    · have := h.plt; omega
  · rcases ho _ hm with h1 | h1
    · exact h.b1 h1
    · have := h.m1.lt; omega
  · rcases ho _ hm with h1 | h1
    · exact h.b2 h1
    · have := h.m2.lt; omega
  · rcases mem_blkM.1 hb with e | e | e | e
    · exact .inl (mem_blkM.2 (.inl e))
    · exact .inl (mem_blkM.2 (.inr (.inl e)))
    · exact .inl (mem_blkM.2 (.inr (.inr (.inl e))))
    · rcases ho b e with h1 | h1
      · exact .inl (mem_blkM.2 (.inr (.inr (.inr h1))))
      · exact .inr h1
end

theorem neq_pool_nil (w : World) (a : Addr) : (binOp .neq 24 (.pointer (some a)) (.pointer none)).run Try.prog w = .ok (.bool true) w := by go_simp
theorem neq_obj_nil (w : World) (a : Addr) : (binOp .neq 76 (.pointer (some a)) (.pointer none)).run Try.prog w = .ok (.bool true) w := by go_simp
theorem neq_map_nil (w : World) (b : Nat) : (binOp .neq 65 (.map (some b)) (.map none)).run Try.prog w = .ok (.bool true) w := by
  have h1 : ∀ d : Nat, (Op.equalIn (d + 1) 65 (.map (some b)) (.map none)).run Try.prog w = .ok false w := fun d => by
    simp [Op.equalIn, run_underlying Try.underlying65]
  simp only [binOp]
  simp [Op.equal, Op.maxDepth, h1 9999]
section
variable {w w' w2 : World} {p most M1 M2 i : Nat} {L : ObL} {S : Nat → ObP} {x : ObV}
theorem po_made (h : PO w p most M1 M2 L S) : Calls Try.prog 31 #[.pointer (some ⟨p, 0, none⟩)] w fun e w' => e = .returned (.bool true) ∧ w' = w := by
  have c0 := h.at.2.1
  have hq := neq_pool_nil
  have hq2 := neq_map_nil
  clear h
  go_enter Try.func31, Try.ntmps31
  go_wp2_with fail
  go_ret
  exact ⟨rfl, rfl⟩
theorem po_find_some (h : PO w p most M1 M2 L S) (hx : L[i]? = some (some x)) : Calls Try.prog 33 #[.pointer (some ⟨p, 0, none⟩), .int .i64 ((i : Int) + 1)] w fun e w' => e = .returned (.tuple #[.pointer (some ⟨(S i).a, 0, none⟩), .int .i64 0]) ∧ w' = w := by
  have HM := Lib.hid (po_made h)
  have c0 := h.at.2.1
  have hi := (List.getElem?_eq_some_iff.1 hx).1
  have h4 := h.len
  have hk : (Instr.lookup 65 (.map (some M1)) (.int .i64 ((i : Int) + 1)) true).run Try.prog w = .ok (.tuple #[.pointer (some ⟨(S i).a, 0, none⟩), .bool true]) w := h.m1.ok_yes lawsO nsO_nodup (nsO_at h.len hx) ⟨by omega, by omega⟩
  clear h hx
  go_enter Try.func33, Try.ntmps33
  go_wp2_with fail
  refine HM.out.mono ?_
  rintro e w2 ⟨rfl, e2⟩
  subst w2
  go_wp2_with fail
  go_ret2
  exact ⟨rfl, rfl⟩
theorem po_find_none (h : PO w p most M1 M2 L S) {id : Int} (hid : okI id) (hx : ofO L id = none) : Calls Try.prog 33 #[.pointer (some ⟨p, 0, none⟩), .int .i64 id] w fun e w' => e = .returned (.tuple #[.pointer none, .int .i64 7]) ∧ w' = w := by
  have HM := Lib.hid (po_made h)
  have c0 := h.at.2.1
  have hk : (Instr.lookup 65 (.map (some M1)) (.int .i64 id) true).run Try.prog w = .ok (.tuple #[.pointer none, .bool false]) w := h.m1.ok_no lawsO (nsO_no hx) hid
  clear h hx hid
  go_enter Try.func33, Try.ntmps33
  go_wp2_with fail
  refine HM.out.mono ?_
  rintro e w2 ⟨rfl, e2⟩
  subst w2
  go_wp2_with fail
  go_ret2
  exact ⟨rfl, rfl⟩
theorem po_of (h : PO w p most M1 M2 L S) (f : Int) (hf : okI f) : Calls Try.prog 21 #[.pointer (some ⟨p, 0, none⟩), .int .i64 f] w fun e w' => e = .returned (.int .i64 (findO L f)) ∧ w' = w := by
  have HM := Lib.hid (po_made h)
  have c0 := h.at.2.2
  have hk : (Instr.lookup 66 (.map (some M2)) (.int .i64 f) false).run Try.prog w = .ok (.int .i64 (findO L f)) w := by
    rcases find_casesU h.good f with ⟨h0, h1⟩ | ⟨i, h0, h1⟩
    · rw [h0]
      exact h.m2.look_no lawsF (fsO_no h1) hf
    · rw [h0]
      exact h.m2.look_yes lawsF (fsO_nodup h.good) (fsO_at h.len h1) hf
  generalize findO L f = z at *
  clear h hf
  go_enter Try.func21, Try.ntmps21
  go_wp2_with fail
  refine HM.out.mono ?_
  rintro e w2 ⟨rfl, e2⟩
  subst w2
  go_wp2_with fail
  go_ret
  exact ⟨rfl, rfl⟩
theorem po_file (h : PO w p most M1 M2 L S) (id : Int) (hid : okI id) : Calls Try.prog 23 #[.pointer (some ⟨p, 0, none⟩), .int .i64 id] w fun e w' => e = .returned (.int .i64 (fileO L id)) ∧ w' = w := by
  rcases of_cases L id with ⟨e, -⟩ | ⟨i, x, rfl, hi, hx, e⟩
  · rw [show fileO L id = 0 by unfold fileO; rw [e]]
    have HO := Lib.hid (po_find_none h hid e)
    clear h e
    go_enter Try.func23, Try.ntmps23
    go_wp2_with fail
    refine HO.out.mono ?_
    rintro e w2 ⟨rfl, e2⟩
    subst w2
    go_wp2_with fail
    go_ret
    exact ⟨rfl, rfl⟩
  · rw [show fileO L ((i : Int) + 1) = x.file by unfold fileO; rw [e]]
    have HO := Lib.hid (po_find_some h hx)
    have c1 := (h.am.each i x hx).at.1
    clear h e hx hid
    go_enter Try.func23, Try.ntmps23
    go_wp2_with fail
    refine HO.out.mono ?_
    rintro e w2 ⟨rfl, e2⟩
    subst w2
    go_wp2_with fail
    go_ret
    exact ⟨rfl, rfl⟩
end
end Go.Proofs.Ytefcefclncbimaa
