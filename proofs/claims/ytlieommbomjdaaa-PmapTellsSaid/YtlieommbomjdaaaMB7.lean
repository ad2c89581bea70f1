/- Layer 7: what package walk's Leaves tells, as numbers: rising, and those that have a leaf. No program in it. A range over an iterator that ITSELF ranges over a function: what the caller's invariant must abide is whatever turns no cells from a block on (the iterator's own records), not walks of maps alone. Package pmap: All, and what it hands back: an iterator that ranges over package walk's. Package pmap: All, of a space; what it hands back. PmapTells: what is told is what was entered; what the law has between its rounds. PmapTells: behind what is told: Tables, Free, Close, Free, Root. Layer 7: PmapTells, walked. -/
import Derived.Test.YtlieommbomjdaaaQB7
import Derived.Test.YtlieommbomjdaaaWIter
import Derived.Test.YtlieommbomjdaaaMB4
import Derived.RangeFuncNested
import Derived.Test.YtlieommbomjdaaaMUints
import Derived.Test.YtlieommbomjdaaaMLeast
import Derived.Deep.CutBlock
import Derived.Deep.DeepCutAuto
namespace Go.Proofs.Ytlieommbomjdaaa
set_option linter.unusedVariables false

theorem sorted_ext : ∀ {xs ys : List Int}, xs.Pairwise (· < ·) → ys.Pairwise (· < ·) → (∀ x, x ∈ xs ↔ x ∈ ys) → xs = ys
  | [], [], _, _, _ => rfl
  | [], y :: ys, _, _, h => by have := (h y).2 (by simp); simp at this
  | x :: xs, [], _, _, h => by have := (h x).1 (by simp); simp at this
  | x :: xs, y :: ys, hx, hy, h => by
    obtain ⟨hx1, hx2⟩ := List.pairwise_cons.1 hx
    obtain ⟨hy1, hy2⟩ := List.pairwise_cons.1 hy
    have e : x = y := by
      rcases List.mem_cons.1 ((h x).1 (by simp)) with e | e
      · exact e
      · rcases List.mem_cons.1 ((h y).2 (by simp)) with e2 | e2
        · exact e2.symm
        · have := hy1 x e; have := hx1 y e2; omega
    subst e
    rw [sorted_ext hx2 hy2 fun z => ⟨fun hz => ?_, fun hz => ?_⟩]
    · rcases List.mem_cons.1 ((h z).1 (by simp [hz])) with e | e
      · subst e; have := hx1 z hz; omega
      · exact e
    · rcases List.mem_cons.1 ((h z).2 (by simp [hz])) with e | e
      · subst e; have := hy1 z hz; omega
      · exact e

/-- A row of rows: each one's numbers lie in a stretch of its own. -/
theorem stretch {K : Int} (hK : 0 < K) (f : Nat → List LeafV) (vp : Int) (m : Nat) (hf : ∀ i, i < m → (f i).Pairwise (fun x y => x.v < y.v) ∧ ∀ x, x ∈ f i → (vp + i) * K ≤ x.v ∧ x.v < (vp + i + 1) * K) :
    ((List.range m).flatMap f).Pairwise (fun x y => x.v < y.v) ∧ ∀ x, x ∈ (List.range m).flatMap f → vp * K ≤ x.v ∧ x.v < (vp + m) * K := by
  refine ⟨List.pairwise_flatMap.2 ⟨fun i hi => (hf i (List.mem_range.1 hi)).1, ?_⟩, fun x hx => ?_⟩
  · have hlt : (List.range m).Pairwise (· < ·) := List.pairwise_lt_range
    refine hlt.imp_of_mem fun {i j} hi hj hij x hx y hy => ?_
    have h1 := ((hf i (List.mem_range.1 hi)).2 x hx).2
    have h2 := ((hf j (List.mem_range.1 hj)).2 y hy).1
    have h3 : (vp + i + 1) * K ≤ (vp + j) * K := Int.mul_le_mul_of_nonneg_right (by omega) (by omega)
    omega
  · obtain ⟨i, hi, hx⟩ := List.mem_flatMap.1 hx
    have hi := List.mem_range.1 hi
    obtain ⟨h1, h2⟩ := (hf i hi).2 x hx
    have h3 : vp * K ≤ (vp + i) * K := Int.mul_le_mul_of_nonneg_right (by omega) (by omega)
    have h4 : (vp + i + 1) * K ≤ (vp + m) * K := Int.mul_le_mul_of_nonneg_right (by omega) (by omega)
    omega

section
variable (n : Nat) (L : List UInt8)
theorem rise0 (f vp : Int) : (allL n L 0 f vp).Pairwise (fun x y => x.v < y.v) ∧ ∀ x, x ∈ allL n L 0 f vp → vp * 512 ≤ x.v ∧ x.v < (vp + 1) * 512 := by
  unfold allL
  split
  · obtain ⟨h1, h2⟩ := stretch (K := 1) (by decide) (dLN n L 0 f vp) (vp * 512) 512 fun i hi => by
      show (dl0 n L f vp i).Pairwise _ ∧ ∀ x, x ∈ dl0 n L f vp i → _
      unfold dl0
      split
      · exact ⟨List.pairwise_singleton _ _, fun x hx => by rw [List.mem_singleton.1 hx]; show _ ≤ vp * 512 + (i : Int) ∧ vp * 512 + (i : Int) < _; omega⟩
      · exact ⟨List.Pairwise.nil, fun x hx => (List.not_mem_nil hx).elim⟩
    exact ⟨h1, fun x hx => by have := h2 x hx; omega⟩
  · exact ⟨List.Pairwise.nil, fun x hx => (List.not_mem_nil hx).elim⟩
theorem rise1 (f vp : Int) : (allL n L 1 f vp).Pairwise (fun x y => x.v < y.v) ∧ ∀ x, x ∈ allL n L 1 f vp → vp * 262144 ≤ x.v ∧ x.v < (vp + 1) * 262144 := by
  unfold allL
  split
  · obtain ⟨h1, h2⟩ := stretch (K := 512) (by decide) (dLN n L 1 f vp) (vp * 512) 512 fun i hi => by
      show (match nx n L f i with | none => [] | some g => (List.range 512).flatMap (dLN n L 0 g (vp * 512 + i))).Pairwise _ ∧ ∀ x, x ∈ (match nx n L f i with | none => [] | some g => (List.range 512).flatMap (dLN n L 0 g (vp * 512 + i))) → _
      cases hn : nx n L f i with
      | none => exact ⟨List.Pairwise.nil, fun x hx => (List.not_mem_nil hx).elim⟩
      | some g =>
        have h := rise0 n L g (vp * 512 + i)
        unfold allL at h
        rw [if_pos ⟨(nxt_lt hn).1, (nxt_lt hn).2.1⟩] at h
        exact h
    exact ⟨h1, fun x hx => by have := h2 x hx; omega⟩
  · exact ⟨List.Pairwise.nil, fun x hx => (List.not_mem_nil hx).elim⟩
theorem rise2 (f vp : Int) : (allL n L 2 f vp).Pairwise (fun x y => x.v < y.v) := by
  unfold allL
  split
  · exact (stretch (K := 262144) (by decide) (dLN n L 2 f vp) (vp * 512) 512 fun i hi => by
      show (match nx n L f i with | none => [] | some g => (List.range 512).flatMap (dLN n L 1 g (vp * 512 + i))).Pairwise _ ∧ ∀ x, x ∈ (match nx n L f i with | none => [] | some g => (List.range 512).flatMap (dLN n L 1 g (vp * 512 + i))) → _
      cases hn : nx n L f i with
      | none => exact ⟨List.Pairwise.nil, fun x hx => (List.not_mem_nil hx).elim⟩
      | some g =>
        have h := rise1 n L g (vp * 512 + i)
        unfold allL at h
        rw [if_pos ⟨(nxt_lt hn).1, (nxt_lt hn).2.1⟩] at h
        exact h).1
  · exact List.Pairwise.nil
theorem mem0 (f vp u : Int) (hf : 0 ≤ f ∧ f < n) : (∃ x, x ∈ allL n L 0 f vp ∧ x.v = u) ↔ ∃ k : Nat, k < 512 ∧ kindOf (flagOf (wordI n L f k)) = 2 ∧ u = vp * 512 + k := by
  unfold allL
  rw [if_pos hf]
  constructor
  · rintro ⟨x, hx, rfl⟩
    obtain ⟨k, hk, hx⟩ := List.mem_flatMap.1 hx
    have hx : x ∈ dl0 n L f vp k := hx
    unfold dl0 at hx
    split at hx
    · rename_i h2
      rw [List.mem_singleton.1 hx]
      exact ⟨k, List.mem_range.1 hk, h2, rfl⟩
    · exact (List.not_mem_nil hx).elim
  · rintro ⟨k, hk, h2, rfl⟩
    refine ⟨⟨vp * 512 + k, flagOf (wordI n L f k), ppnOf (wordI n L f k)⟩, List.mem_flatMap.2 ⟨k, List.mem_range.2 hk, ?_⟩, rfl⟩
    show _ ∈ dl0 n L f vp k
    unfold dl0
    rw [if_pos h2]
    exact List.mem_singleton.2 rfl
theorem memS (l : Nat) (f vp u : Int) (hf : 0 ≤ f ∧ f < n) : (∃ x, x ∈ allL n L (l + 1) f vp ∧ x.v = u) ↔ ∃ (k : Nat) (g : Int), k < 512 ∧ nx n L f k = some g ∧ ∃ x, x ∈ allL n L l g (vp * 512 + k) ∧ x.v = u := by
  have key : ∀ k : Nat, dLN n L (l + 1) f vp k = match nx n L f k with | none => [] | some g => (List.range 512).flatMap (dLN n L l g (vp * 512 + k)) := fun k => rfl
  rw [show allL n L (l + 1) f vp = (List.range 512).flatMap (dLN n L (l + 1) f vp) from by unfold allL; rw [if_pos hf]]
  constructor
  · rintro ⟨x, hx, rfl⟩
    obtain ⟨k, hk, hx⟩ := List.mem_flatMap.1 hx
    rw [key] at hx
    cases hn : nx n L f k with
    | none => rw [hn] at hx; exact (List.not_mem_nil hx).elim
    | some g =>
      rw [hn] at hx
      exact ⟨k, g, List.mem_range.1 hk, hn, x, by unfold allL; rw [if_pos ⟨(nxt_lt hn).1, (nxt_lt hn).2.1⟩]; exact hx, rfl⟩
  · rintro ⟨k, g, hk, hn, x, hx, rfl⟩
    refine ⟨x, List.mem_flatMap.2 ⟨k, List.mem_range.2 hk, ?_⟩, rfl⟩
    rw [key, hn]
    unfold allL at hx
    rw [if_pos ⟨(nxt_lt hn).1, (nxt_lt hn).2.1⟩] at hx
    exact hx
/-- What is told has a leaf, and the other way round. -/
theorem mem_all (r u : Int) (hr : 0 ≤ r ∧ r < n) : (∃ x, x ∈ allL n L 2 r 0 ∧ x.v = u) ↔ (0 ≤ u ∧ u < 134217728) ∧ leafE n (wordI n L) r u ≠ none := by
  rw [memS n L 1 r 0 u hr]
  constructor
  · rintro ⟨i, g, hi, hg, h⟩
    obtain ⟨j, f, hj, hf, h⟩ := (memS n L 0 g _ u ⟨(nxt_lt hg).1, (nxt_lt hg).2.1⟩).1 h
    obtain ⟨k, hk, h2, hu⟩ := (mem0 n L f _ u ⟨(nxt_lt hf).1, (nxt_lt hf).2.1⟩).1 h
    have hv : 0 ≤ u ∧ u < 134217728 := by omega
    have e2 : indexOf u 2 = i := by show u / 262144 % 512 = i; omega
    have e1 : indexOf u 1 = j := by show u / 512 % 512 = j; omega
    have e0 : indexOf u 0 = k := by show u % 512 = k; omega
    refine ⟨hv, ?_⟩
    have hp : placeW n (wordI n L) r u = some f := by
      unfold placeW
      rw [if_pos ⟨hr, hv⟩, e2, e1]
      show (nx n L r i).bind _ = _
      rw [hg]
      exact hf
    unfold leafE leafW
    rw [hp, e0]
    show Option.map _ (if kindOf (flagOf (wordI n L f k)) = 2 then _ else _) ≠ none
    rw [if_pos h2]
    simp
  · rintro ⟨hv, h⟩
    cases hp : placeW n (wordI n L) r u with
    | none => exact (h (by unfold leafE leafW; rw [hp]; rfl)).elim
    | some f =>
      have hp2 := hp
      unfold placeW at hp2
      rw [if_pos ⟨hr, hv⟩] at hp2
      cases hg : nxW n (wordI n L) r (indexOf u 2) with
      | none => rw [hg] at hp2; cases hp2
      | some g =>
        rw [hg] at hp2
        have hf : nxW n (wordI n L) g (indexOf u 1) = some f := hp2
        have h2 : kindOf (flagOf (wordI n L f (indexOf u 0))) = 2 := by
          by_cases h2 : kindOf (flagOf (wordI n L f (indexOf u 0))) = 2
          · exact h2
          · exact (h (by unfold leafE leafW; rw [hp]; show Option.map _ (if _ then _ else _) = none; rw [if_neg h2]; rfl)).elim
        obtain ⟨i, hi⟩ : ∃ i : Nat, indexOf u 2 = i := ⟨(indexOf u 2).toNat, by have : indexOf u 2 = u / 262144 % 512 := rfl; omega⟩
        obtain ⟨j, hj⟩ : ∃ j : Nat, indexOf u 1 = j := ⟨(indexOf u 1).toNat, by have : indexOf u 1 = u / 512 % 512 := rfl; omega⟩
        obtain ⟨k, hk⟩ : ∃ k : Nat, indexOf u 0 = k := ⟨(indexOf u 0).toNat, by have : indexOf u 0 = u % 512 := rfl; omega⟩
        have i2 : indexOf u 2 = u / 262144 % 512 := rfl
        have i1 : indexOf u 1 = u / 512 % 512 := rfl
        have i0 : indexOf u 0 = u % 512 := rfl
        rw [hi] at hg
        rw [hj] at hf
        rw [hk] at h2
        have hg : nx n L r i = some g := hg
        have hf : nx n L g j = some f := hf
        refine ⟨i, g, by omega, hg, (memS n L 0 g _ u ⟨(nxt_lt hg).1, (nxt_lt hg).2.1⟩).2 ⟨j, f, by omega, hf, (mem0 n L f _ u ⟨(nxt_lt hf).1, (nxt_lt hf).2.1⟩).2 ⟨k, by omega, h2, by omega⟩⟩⟩
end
end Go.Proofs.Ytlieommbomjdaaa

namespace Go.Proofs.Ytlieommbomjdaaa
open Go Go.RowKit
set_option linter.unusedVariables false

variable {F : Fence} {n : Nat} {P : Program}
/-- An iterator's contract, to a caller whose word abides records that are laid from the call on. -/
def SeqO {α : Type} (F : Fence) (n : Nat) (P : Program) (g : Nat) (lb : Array Value) (encs : α → Array Value) (Kp : World → World → Prop) (S Sp : List α → Prop) (N : Nat) (w : World) : Prop :=
  ∀ (l : Nat) (J Jx : List α → World → Prop) (W : World), Below w.heap.size w W → OwnFrom W.heap.size J → OwnFrom W.heap.size Jx →
    (∀ pre x W1, J pre W1 → pre.length < N → YieldAt F (n - 1) P l (encs x) W1 fun e W' => KeepsFrom W.heap.size W1 W' ∧ ((e = .returned (.bool true) ∧ J (pre ++ [x]) W' ∧ Kp W1 W') ∨ (e = .returned (.bool false) ∧ Jx (pre ++ [x]) W'))) →
    J [] W → CallsIn F n P g (#[.func (.yield l) #[] #[]] ++ lb) W fun e W' => (∃ v, e = .returned v) ∧ ((∃ xs, S xs ∧ J xs W') ∨ (∃ pre, Sp pre ∧ Jx pre W'))

/-- The two blocks that the range lays: its record in a state, what is deferred. -/
structure Rec7 (D : Nat) (o : Loop) (W : World) : Prop where
  rc : W.heap[D + 1]? = some (.loop o)
  df : W.heap[D]? = some (.deferred (some []))
theorem Rec7.own {D : Nat} {o : Loop} {W W' : World} {B : Nat} {row : Option Nat} (h : Rec7 D o W) (hB : D + 1 < B) (g : W.grownBy W' row) (hr : ∀ r, row = some r → B ≤ r) : Rec7 D o W' :=
  ⟨(g.block _ (Array.getElem?_eq_some_iff.1 h.rc).1 fun e => by have := hr _ e.symm; omega).trans h.rc, (g.block _ (Array.getElem?_eq_some_iff.1 h.df).1 fun e => by have := hr _ e.symm; omega).trans h.df⟩
theorem Rec7.keeps {D : Nat} {o : Loop} {W W' : World} (h : Rec7 D o W) (k : KeepsFrom D W W') : Rec7 D o W' := ⟨k.same _ _ (by omega) h.rc rfl, k.same _ _ (Nat.le_refl _) h.df rfl⟩
theorem Rec7.put {D : Nat} {o : Loop} {W : World} (h : Rec7 D o W) (o' : Loop) : Rec7 D o' (W.putObj (D + 1) (.loop o')) :=
  ⟨World.putObj_heap_same (Array.getElem?_eq_some_iff.1 h.rc).1, (World.putObj_heap_other (by omega)).trans h.df⟩

theorem kf_more {B B' : Nat} {X Y : World} (h : KeepsFrom B X Y) (hB : B ≤ B') : KeepsFrom B' X Y := ⟨h.size, fun i o hi => h.same i o (Nat.le_trans hB hi)⟩
theorem wpIn_range7 {α : Type} {g : Operand} {ps : Array Tmp} {assign body : Code} {Q : Exit → Act → World → Prop} {a : Act} {w : World}
    (hro : F.round = none) (h1 : 1 ≤ n) {gf : Nat} {lb : Array Value} (hg : a.eval g = .func (.func gf) #[] lb) (hFg : F.fn gf) (eg : ∀ args w, (callFunc gf args).run P w = .ok (.enter gf args) w)
    {encs : α → Array Value} {Kp : World → World → Prop} {S Sp : List α → Prop} {N : Nat} {w0 : World} (hseq : SeqO F (n - 1) P gf lb encs Kp S Sp N w0)
    (hKt : ∀ {A B C : World}, Kp A B → Kp B C → Kp A C) (hKb : ∀ (W : World) (l : Nat) (o o' : Obj), w.heap.size ≤ l → W.heap[l]? = some o → o.isCells = false → o.isWalk = false → Kp W (W.putObj l o')) (hb0 : Below w0.heap.size w0 w) (hps : ∀ x, (encs x).size = ps.size)
    (I : List α → World → Prop) (Ix : Code → List α → World → Prop) (hI : OwnFrom w.heap.size I) (hIx : ∀ c, OwnFrom w.heap.size (Ix c)) (h0 : I [] w) (Ax : α → Act → World → Prop) (hAx : ∀ x a', OwnFrom w.heap.size (fun (_ : Unit) W => Ax x a' W))
    (hassign : ∀ (l : Nat) (pre : List α) (x : α) (W : World) (K : Act → World → Prop), I pre W → (∀ a' W', KeepsFrom w.heap.size W W' → Kp W W' → I pre W' → Ax x a' W' → K a' W') →
      assign.wpIn (F.inRound l) (n - 1 - 1) P (Exit.then K (fun _ _ _ => False)) { tmps := (ps.zip (encs x)).foldl (fun t (p, v) => t.setIfInBounds p v) a.tmps, defers := [] } W)
    (hbody : ∀ (l : Nat) (pre : List α) (x : α) (a' : Act) (W : World), I pre W → Ax x a' W → pre.length < N → body.wpIn (F.inRound l) (n - 1 - 1) P (ownPostG w.heap.size Kp I Ix (pre ++ [x]) W) a' W)
    (hdone : ∀ (D : Nat) (xs : List α) (W : World), w.heap.size ≤ D → S xs → I xs W → W.heap[D]? = some (.deferred (some [])) → Q .normal { a with defers := { target := .collected D, args := #[] } :: a.defers } W)
    (hstop : ∀ (D : Nat) (c : Code) (pre : List α) (W : World), w.heap.size ≤ D → Sp pre → Ix c pre W → W.heap[D]? = some (.deferred (some [])) → c.wpIn F n P Q { a with defers := { target := .collected D, args := #[] } :: a.defers } W) :
    (Code.rangeFunc g ps assign body).wpIn F n P Q a w := by
  obtain ⟨D, hD⟩ : ∃ D, w.heap.size = D := ⟨_, rfl⟩
  rw [hD] at hKb hI hIx hAx hassign hbody hdone hstop
  refine wpIn_rangeFunc fun fn hfn => ?_
  rw [hro]
  obtain ⟨mk, hmk⟩ : ∃ mk : LoopState → Option Code → Loop, mk = fun s p => { state := s, pending := p, fn := fn, tmps := a.tmps, params := ps, assign := assign, body := body, defers := D } := ⟨_, rfl⟩
  have hr1 : Rec7 D (mk .ready none) ((w.alloc (.deferred (some []))).alloc (.loop (mk .ready none))) := by
    refine ⟨?_, ?_⟩
    · have := World.alloc_heap_new (w.alloc (.deferred (some []))) (.loop (mk .ready none)); rw [World.size_alloc, hD] at this; exact this
    · rw [← hD]; exact (Below.heap_alloc _ _ _ (by simp)).trans (World.alloc_heap_new w _)
  have hi1 : I [] ((w.alloc (.deferred (some []))).alloc (.loop (mk .ready none))) := hI.alloc _ (hI.alloc _ h0)
  have hb1 : Below w0.heap.size w0 ((w.alloc (.deferred (some []))).alloc (.loop (mk .ready none))) := hb0.trans ((((Below.refl _ w).alloc (Nat.le_refl _) _).alloc (by simp) _).mono hb0.size)
  have hsz : ((w.alloc (.deferred (some []))).alloc (.loop (mk .ready none))).heap.size = D + 2 := by simp [hD]
  have hen : (Instr.enterLoop fn a.tmps ps assign body none).run P w = .ok (D + 1, [{ target := .collected D, args := #[] }]) ((w.alloc (.deferred (some []))).alloc (.loop (mk .ready none))) := by
    rw [hmk, ← hD]; exact run_enterLoop_outer _ _ _ _ _
  generalize (w.alloc (.deferred (some []))).alloc (.loop (mk .ready none)) = W1 at *
  refine ⟨D + 1, _, W1, { target := .fn (.func gf) lb, args := #[.func (.yield (D + 1)) #[] #[]] }, W1, gf, #[.func (.yield (D + 1)) #[] #[]] ++ lb, W1, hen, ?_, ?_, ?_, fun _ => h1, ?_⟩
  · simp only [resolve, hg]
    simp [go_sem]
  · intro f' hf'; simp [Target.leads] at hf'; subst hf'; exact hFg
  · simp [invoke, go_sem, eg]
  · refine (hseq (D + 1) (fun pre W => I pre W ∧ Rec7 D (mk .ready none) W) (fun pre W => ∃ c, Ix c pre W ∧ Rec7 D (mk .done (some c)) W) W1 hb1
      (fun s A B row hs hg' hr => ⟨hI s A B row hs.1 hg' fun r e => ⟨by have := (hr r e).1; omega, (hr r e).2⟩, hs.2.own (B := W1.heap.size) (by omega) hg' fun r e => (hr r e).1⟩)
      (fun s A B row hs hg' hr => by
        obtain ⟨c, hc, hl⟩ := hs
        exact ⟨c, hIx c s A B row hc hg' fun r e => ⟨by have := (hr r e).1; omega, (hr r e).2⟩, hl.own (B := W1.heap.size) (by omega) hg' fun r e => (hr r e).1⟩) ?_ ⟨hi1, hr1⟩).mono ?_
    · rintro pre x W ⟨hi, hl⟩ hlen
      have hy := run_yield (P := P) (args := encs x) hl.rc (by rw [hmk]; exact hps x)
      rw [hmk] at hy
      refine ⟨fn, _, assign, body, hy, roundIn_of_wpIn hfn (hassign _ pre x W _ hi ?_)⟩
      intro a' V hkV hpV hiV haV
      have hlV := hl.keeps hkV
      refine ⟨_, run_beginRound hlV.rc (by rw [hmk]), ?_⟩
      have hlB := hlV.put { mk .ready none with state := .busy }
      have hpB := hKb V (D + 1) _ (.loop { mk .ready none with state := .busy }) (by omega) hlV.rc rfl rfl
      refine wpIn_mono (hbody _ pre x a' _ (hI.putObj _ hiV (by omega) hlV.rc rfl) ((hAx x a').putObj (s := ()) _ haV (by omega) hlV.rc rfl) hlen) ?_
      have last : ∀ (j : Option Code) (W3 : World), KeepsFrom D (V.putObj (D + 1) (.loop { mk .ready none with state := .busy })) W3 → Rec7 D { mk .ready none with state := .busy } W3 ∧
          (Instr.endRound (D + 1) j).run P W3 = .ok (.bool j.isNone) (W3.putObj (D + 1) (.loop (mk (if j.isNone then .ready else .done) j))) := fun j W3 k => by
        have h3 := hlB.keeps k
        have he := run_endRound (P := P) j h3.rc
        refine ⟨h3, ?_⟩
        rw [hmk] at he ⊢
        exact he
      have hkP : ∀ (X : World) (o : Obj), KeepsFrom (D + 2) X (X.putObj (D + 1) o) := fun X o => KeepsFrom.of_grownBy (grownBy_putObj' X (D + 1) o) fun j e => by cases e; omega
      have hk0 : ∀ (W3 : World) (o : Obj), KeepsFrom D (V.putObj (D + 1) (.loop { mk .ready none with state := .busy })) W3 → KeepsFrom W1.heap.size W (W3.putObj (D + 1) o) := fun W3 o k => by
        rw [hsz]
        exact ((kf_more hkV (Nat.le_add_right D 2)).trans (hkP _ _)).trans ((kf_more k (Nat.le_add_right D 2)).trans (hkP _ _))
      have out : ∀ (c : Code) (W3 : World), KeepsFrom D (V.putObj (D + 1) (.loop { mk .ready none with state := .busy })) W3 → Ix c (pre ++ [x]) W3 → ∃ c', Ix c' (pre ++ [x]) (W3.putObj (D + 1) (.loop (mk .done (some c)))) ∧ Rec7 D (mk .done (some c')) (W3.putObj (D + 1) (.loop (mk .done (some c)))) := fun c W3 k hx =>
        ⟨c, (hIx c).putObj _ hx (by omega) (last (some c) W3 k).1.rc rfl, (last (some c) W3 k).1.put _⟩
      rintro e a3 W3 hp
      cases e with
      | normal =>
        obtain ⟨k, kp, hi3⟩ := hp
        obtain ⟨h3, he⟩ := last none W3 k
        exact ⟨_, _, he, hk0 _ _ k, .inl ⟨rfl, ⟨hI.putObj _ hi3 (by omega) h3.rc rfl, h3.put _⟩, hKt hpV (hKt (hKt hpB kp) (hKb _ _ _ _ (by omega) h3.rc rfl rfl))⟩⟩
      | ret => exact ⟨_, _, (last (some .ret) W3 hp.1).2, hk0 _ _ hp.1, .inr ⟨rfl, out .ret W3 hp.1 hp.2⟩⟩
      | exit id => exact ⟨_, _, (last (some (.exit id)) W3 hp.1).2, hk0 _ _ hp.1, .inr ⟨rfl, out (.exit id) W3 hp.1 hp.2⟩⟩
      | goto t => exact ⟨_, _, (last (some (.goto t)) W3 hp.1).2, hk0 _ _ hp.1, .inr ⟨rfl, out (.goto t) W3 hp.1 hp.2⟩⟩
      | panic ch => exact hp.elim
      | outgrown => exact hp.elim
    · rintro e W2 ⟨⟨v, rfl⟩, (⟨xs, hS, hi, hl⟩ | ⟨pre, hSp, c, hi, hl⟩)⟩
      · have hE := run_endLoop (P := P) hl.rc (by rw [hmk]; simp)
        rw [hmk] at hE
        exact ⟨none, _, hE, hdone D xs _ (Nat.le_refl _) hS (hI.putObj _ hi (by omega) hl.rc rfl) (hl.put _).df⟩
      · have hE := run_endLoop (P := P) hl.rc (by rw [hmk]; simp)
        rw [hmk] at hE
        exact ⟨some c, _, hE, hstop D c pre _ (Nat.le_refl _) hSp ((hIx c).putObj _ hi (by omega) hl.rc rfl) (hl.put _).df⟩
end Go.Proofs.Ytlieommbomjdaaa

namespace Go.Proofs.Ytlieommbomjdaaa
open Go.ChangeShapes Go.WideShapes Go.ChangeAt Go.RowKit Go.Deep
set_option linter.unusedVariables false
attribute [local go_sem] Oper.semAt_some

set_option maxHeartbeats 1000000 in
theorem all2_stops (nd n : Nat) (L : List UInt8) (F : Gh) (root : Int) (v : Value) (Ba Lb : Nat) (X : List Nat) (w : World) (zs : List LeafV) (hzs : allL n L 2 root 0 = zs) (hb : w.heap[Ba]? = some (.cells #[v] 117 (0, 0))) (hf : Stands w F) (hs : Sub n L F 2 root v)
    (hFX : ∀ b o, F b = some o → b ∉ X) (hXw : ∀ k, k ∈ X → k < w.heap.size) (hl : w.cell? ⟨Lb, 0, none⟩ = some (.func (.func 69) #[] #[.pointer (some ⟨Ba, 0, none⟩)])) :
    SeqO Fence.wide nd Try.prog 42 #[.pointer (some ⟨Lb, 0, none⟩)] (fun x : LeafV => #[Value.int .i64 x.v, .agg #[.int .i64 x.fl, .int .i64 x.pp]]) (KpX X) (fun ys => ys = zs) (fun p => p <+: zs) zs.length w := by
  intro l J Jx W hW hJ hJx hY h0
  have hga := World.grownBy_alloc W (.cells #[.func (.yield l) #[] #[]] 82) none
  have hl1 : W.cell? ⟨Lb, 0, none⟩ = some (.func (.func 69) #[] #[.pointer (some ⟨Ba, 0, none⟩)]) := (hW.cell (p := ⟨Lb, 0, none⟩) (World.block_lt_of_cell? w _ hl)).trans hl
  have HW := Lib.hid hW
  have HJ := Lib.hid hJ
  have HJx := Lib.hid hJx
  have HY := Lib.hid hY
  have H0 := Lib.hid h0
  have hk1 := hga.cell hl1 (by simp)
  clear hW hJ hJx hY h0
  refine callsIn_of_wp_marks Try.func42 rfl trivial ?_ rfl
  simp only [Try.ntmps42, List.size_toArray, List.length_cons, List.length_nil, Nat.reduceAdd, Nat.reduceSub, Array.replicate_succ, Array.replicate_zero, List.push_toArray, List.append_toArray, List.nil_append, List.cons_append]
  refine wpIn_wide.2 ?_
  go_wp2_with fail
  obtain ⟨Wa, hWa⟩ : ∃ Wa, W.alloc (.cells #[.func (.yield l) #[] #[]] 82) = Wa := ⟨_, rfl⟩
  have hyb : Wa.heap[W.heap.size]? = some (.cells #[.func (.yield l) #[] #[]] 82 (0, 0)) := by rw [← hWa]; exact heap_alloc_new W _
  have hsz : Wa.heap.size = W.heap.size + 1 := by rw [← hWa]; simp
  rw [hWa] at hga hk1
  rw [hWa]
  have hwA : Below w.heap.size w Wa := HW.out.grown hga HW.out.size (by simp)
  have hbA := (hwA.block Ba (Array.getElem?_eq_some_iff.1 hb).1).trans hb
  have hfA : Stands Wa F := fun b o ho => ⟨(hwA.block b (hf.lt ho)).trans (hf b o ho).1, (hf b o ho).2⟩
  have hjA : J [] Wa := HJ.out [] W Wa none H0.out hga (fun r e => by cases e)
  have hXA : ∀ k, k ∈ X → k < Wa.heap.size := fun k hk => Nat.lt_of_lt_of_le (hXw k hk) hwA.size
  have HHY := HY.out
  clear hWa H0 hga hl1 hk1
  obtain ⟨Y, hYe⟩ : ∃ Y, W.heap.size = Y := ⟨_, rfl⟩
  rw [hYe] at hyb hsz HJ HJx HHY
  rw [hYe]
  have hYX : Y ∉ X := fun hm => by have := hXw Y hm; have := HW.out.size; omega
  clear HY
  refine (wpIn_wide (n := nd + 9)).1 ?_
  refine wpIn_rangeFunc_ownH rfl (by omega) (gf := 69) (lb := #[.pointer (some ⟨Ba, 0, none⟩)]) rfl trivial (enters_of Try.func69 (by kernel_rfl) rfl)
    (leaves_stops (nd + 8) n L F root v Ba X Wa zs hzs hbA hfA hs hFX hXA) (fun h k => kpX_t h k) (fun _ lo o o' _ hl ho _ => kpX_b _ lo o o' hl ho) (Below.refl _ _) (fun _ => rfl)
    (fun (pre : List LeafV) Wd => J pre Wd ∧ Wd.heap[Y]? = some (.cells #[.func (.yield l) #[] #[]] 82 (0, 0)))
    (fun cx (pre : List LeafV) Wd => cx = .ret ∧ Jx pre Wd)
    (fun s A B row hs2 hg hr => ⟨HJ.out s A B row hs2.1 hg fun r e => ⟨by have := (hr r e).1; omega, (hr r e).2⟩, (hg.block Y (Array.getElem?_eq_some_iff.1 hs2.2).1 fun e => by have := (hr Y e.symm).1; omega).trans hs2.2⟩)
    (fun cx s A B row hs2 hg hr => ⟨hs2.1, HJx.out s A B row hs2.2 hg fun r e => ⟨by have := (hr r e).1; omega, (hr r e).2⟩⟩)
    ⟨hjA, hyb⟩
    (fun (x : LeafV) a' Wd => ∃ Be, Wa.heap.size ≤ Be ∧ EntB Wd Be x.fl x.pp ∧ a' = { tmps := #[.func (.yield l) #[] #[], .pointer (some ⟨Lb, 0, none⟩), .pointer (some ⟨Y, 0, none⟩), .int .i64 x.v, .pointer (some ⟨Be, 0, none⟩), .func (.func 69) #[] #[.pointer (some ⟨Ba, 0, none⟩)], .int .i64 x.v, .agg #[.int .i64 x.fl, .int .i64 x.pp], undef, undef, undef, undef, undef], defers := [] })
    (fun x a' _ A B row hs2 hg hr => by
      obtain ⟨Be, h1, h2, h3⟩ := hs2
      refine ⟨Be, h1, (hg.block Be h2.lt (fun e => ?_)).trans h2, h3⟩
      obtain ⟨o, ho, hc⟩ := (hr Be e.symm).2
      rw [show A.heap[Be]? = _ from h2] at ho
      cases ho
      cases hc)
    ?assign ?body ?done ?stop
  case assign =>
    rintro lp pre x Wd K ⟨hj, hy⟩ hK
    gi_wp2
    have ga := World.grownBy_alloc Wd (.cells #[.int .i64 x.fl, .int .i64 x.pp] 44) none
    have hYd := (Array.getElem?_eq_some_iff.1 hy).1
    exact hK _ _ ((KeepsOthers.alloc _ _).from _) (fun k cs t fr _ hk => (ga.block k (Array.getElem?_eq_some_iff.1 hk).1 (by simp)).trans hk) ⟨HJ.out _ _ _ none hj ga (fun r e => by cases e), (ga.block Y hYd (by simp)).trans hy⟩ ⟨Wd.heap.size, by omega, heap_alloc_new Wd _, rfl⟩
  case body =>
    rintro lp pre x a' Wd hlw hlp ⟨hj, hy⟩ ⟨Be, hBe, hE, rfl⟩ hlt
    obtain ⟨e0, e1⟩ := hE.at
    have cy : Wd.cell? ⟨Y, 0, none⟩ = some (.func (.yield l) #[] #[]) := by rw [cell_of_row _ _ _ _ _ _ hy]; rfl
    obtain ⟨fn, tmps, assign, body, hyy, hR⟩ := yield_wide (m := nd + 9 - 1 - 1 - 1) (HHY pre x Wd hj hlt)
    have HR := Lib.hid hR
    have HYb := Lib.hid hy
    clear hj hy hE hlw hlp hR HHY
    gi_wp2
    refine RoundIn.mono (R := fun e W' => KeepsFrom Y Wd W' ∧ ((e = .returned (.bool true) ∧ J (pre ++ [x]) W' ∧ KpX X Wd W') ∨ (e = .returned (.bool false) ∧ Jx (pre ++ [x]) W'))) (show RoundIn (Fence.wide.inRound lp) (nd + 6) _ _ _ _ _ _ _ _ from HR.out) ?_
    rintro e W3 ⟨hk3, (⟨rfl, hJ3, hp3⟩ | ⟨rfl, hJx3⟩)⟩
    · have HA := Lib.hid (show KeepsFrom Wa.heap.size Wd W3 ∧ KpX X Wd W3 ∧ J (pre ++ [x]) W3 ∧ W3.heap[Y]? = some (.cells #[.func (.yield l) #[] #[]] 82 (0, 0)) from ⟨kf_more hk3 (by omega), hp3, hJ3, hp3 Y _ _ _ hYX HYb.out⟩)
      clear hk3 hJ3 hp3
      gi_wp2
      exact HA.out
    · have HA := Lib.hid (show KeepsFrom Wa.heap.size Wd W3 ∧ Jx (pre ++ [x]) W3 from ⟨kf_more hk3 (by omega), hJx3⟩)
      clear hk3 hJx3
      gi_wp2
      exact ⟨HA.out.1, rfl, HA.out.2⟩
  case done =>
    rintro D ys Wd hD hS ⟨hj, hy⟩ hK
    have HK := Lib.hid hK
    have HJd := Lib.hid hj
    clear hK hj hy
    go_wp2
    refine ⟨by simp, .inl ⟨_, _, rfl, run_takeDeferred HK.out, ?_⟩⟩
    exact ⟨_, results_none rfl _ _ _, ⟨_, rfl⟩, .inl ⟨ys, hS, HJ.out _ _ _ (some D) HJd.out (grownBy_putObj' Wd D (.deferred none)) fun r e => by cases e; exact ⟨by omega, _, HK.out, rfl⟩⟩⟩
  case stop =>
    rintro D cx pre Wd hD hpre ⟨rfl, hjx⟩ hK
    have HK := Lib.hid hK
    have HJd := Lib.hid hjx
    clear hK hjx
    gi_wp2
    refine ⟨by simp, .inl ⟨_, _, rfl, run_takeDeferred HK.out, ?_⟩⟩
    exact ⟨_, results_none rfl _ _ _, ⟨_, rfl⟩, .inr ⟨pre, hpre, HJx.out _ _ _ (some D) HJd.out (grownBy_putObj' Wd D (.deferred none)) fun r e => by cases e; exact ⟨by omega, _, HK.out, rfl⟩⟩⟩
end Go.Proofs.Ytlieommbomjdaaa

namespace Go.Proofs.Ytlieommbomjdaaa
open Go.ChangeShapes Go.WideShapes Go.ChangeAt Go.RowKit Go.Deep
set_option linter.unusedVariables false
attribute [local go_sem] Oper.semAt_some

/-- What All hands back. -/
def AllAt (w : World) (n : Nat) (M : List UInt8) (r : Int) (e : Ending) (w' : World) : Prop :=
  ∃ Lb Ba v F, e = .returned (.func (.func 42) #[] #[.pointer (some ⟨Lb, 0, none⟩)]) ∧ w'.heap[Lb]? = some (.cells #[.func (.func 69) #[] #[.pointer (some ⟨Ba, 0, none⟩)]] 38 (0, 0)) ∧ w'.heap[Ba]? = some (.cells #[v] 117 (0, 0)) ∧ Stands w' F ∧ Sub n M F 2 r v ∧ (∀ b o, F b = some o → w.heap.size ≤ b) ∧ w.grownBy w' none
theorem stands_grow {w w' : World} {F : Gh} (h : Stands w F) (g : w.grownBy w' none) : Stands w' F := fun b o hb => ⟨(g.block b (h.lt hb) (by simp)).trans (h b o hb).1, (h b o hb).2⟩

theorem store_fn {W : World} {b : Nat} {t : TypeId} (h : W.heap[b]? = some (.cells #[.nilFunc] t (0, 0))) (Ba : Nat) : (store ⟨b, 0, none⟩ (.func (.func 69) #[] #[.pointer (some ⟨Ba, 0, none⟩)])).run Try.prog W = .ok () (W.setCell ⟨b, 0, none⟩ (.func (.func 69) #[] #[.pointer (some ⟨Ba, 0, none⟩)])) := by
  have c1 : W.cell? ⟨b, 0, none⟩ = some .nilFunc := by rw [cell_of_row _ _ _ _ _ _ h]; rfl
  have f1 := frozen_of_row W b 0 _ _ h
  have hfv : (Value.func (.func 69) #[] #[.pointer (some ⟨Ba, 0, none⟩)]).oneCell' = true := rfl
  rw [run_store _ _ _ _ _ hfv, c1, f1]
  rfl
set_option maxHeartbeats 2000000 in
theorem sp_all {w0 w : World} {m d n p x : Nat} {O : List Nat} {a r : Int} {M : List UInt8} {xs : List FrV} (h : QX w0 w m d n p O x a r M xs) (hr : okI r) :
    Calls Try.prog 17 #[.pointer (some ⟨x, 0, none⟩)] w (AllAt w n M r) := by
  have hmf : ∀ (fn : Fn) (first cap : Array Value) (w : World), (Instr.makeFunc fn first cap).run Try.prog w = .ok (.func fn first cap) w := fun _ _ _ _ => rfl
  have HMd := Lib.hid (sp_made h.sp)
  have HS := Lib.hid (show ∀ W, w.grownBy W none → W.cell? ⟨x, 0, none⟩ = some (.pointer (some ⟨m, 0, none⟩)) ∧ W.cell? ⟨x, 3, none⟩ = some (.int .i64 r) from fun W g => ⟨(h.grow g).sp.at.1, (h.grow g).sp.at.2.2.2⟩)
  have HC := Lib.hid (show ∀ W, w.grownBy W none → Calls Try.prog 41 #[.pointer (some ⟨m, 0, none⟩), .int .i64 r] W (Iter w0 W m d n M r) from fun W g => leaves_of (h.grow g).st r hr)
  have hc0 := HS.out _ (grown_drew1 w)
  have gC := Lib.hid (grown_drew1 w)
  have gA := Lib.hid (show w.grownBy (w.alloc (.cells #[.nilFunc] 38)).drew none from grown_trans (World.grownBy_alloc w (.cells #[.nilFunc] 38) none) (grown_drew1 _))
  have HN := Lib.hid (show (w.alloc (.cells #[.nilFunc] 38)).drew.heap[w.heap.size]? = some (.cells #[.nilFunc] 38 (0, 0)) from heap_alloc_new w _)
  have hst : ∀ (W : World) (Ba : Nat), (store ⟨W.heap.size, 0, none⟩ (.func (.func 69) #[] #[.pointer (some ⟨Ba, 0, none⟩)])).run Try.prog (W.alloc (.cells #[.nilFunc] 38)) = .ok () ((W.alloc (.cells #[.nilFunc] 38)).setCell ⟨W.heap.size, 0, none⟩ (.func (.func 69) #[] #[.pointer (some ⟨Ba, 0, none⟩)])) := fun W Ba => store_fn (heap_alloc_new W _) Ba
  clear h
  go_enter Try.func17, Try.ntmps17
  go_wp2_with fail
  refine HMd.out.mono ?_
  rintro e w1 ⟨rfl, e1⟩
  subst w1
  go_wp2_with fail
  go_region_held3 (fun W => W.cell? ⟨x, 0, none⟩ = some (.pointer (some ⟨m, 0, none⟩)) ∧ W.cell? ⟨x, 3, none⟩ = some (.int .i64 r))
    (first | with_reducible exact hc0 | with_reducible exact (HS.out _ gA.out) | with_reducible exact (HS.out _ gB.out) | with_reducible exact (HS.out _ (grown_trans gB.out (World.grownBy_alloc _ _ none))) | with_reducible exact (HS.out _ (grown_at gB.out (grown_set _ _ _ _) (Nat.le_refl _))) | with_reducible exact (HS.out _ (grown_at (grown_trans gB.out (World.grownBy_alloc _ _ none)) (grown_set _ _ _ _) gB.out.size)))
    (first
      | (go_at_call 41; (with_reducible refine ((HC.out _ gC.out).mono ?_)); rintro e w3 ⟨Ba, v, F, rfl, hb3, hf3, hs3, hF3, -, g3⟩; have gB := Lib.hid (grown_trans gC.out g3); have HI3 := Lib.hid (And.intro hb3 (And.intro hf3 (And.intro hs3 hF3))); clear g3 hb3 hf3 hs3 hF3)
      | (go_at_call 41; (with_reducible refine ((HC.out _ gA.out).mono ?_)); rintro e w3 ⟨Ba, v, F, rfl, hb3, hf3, hs3, hF3, -, g3⟩; have gB := Lib.hid (grown_trans gA.out g3); have HI3 := Lib.hid (And.intro hb3 (And.intro hf3 (And.intro hs3 hF3))); have hN := (g3.block _ (Array.getElem?_eq_some_iff.1 HN.out).1 (by simp)).trans HN.out; have n0 := store_fn hN Ba; have HN3 := Lib.hid hN; clear g3 hb3 hf3 hs3 hF3 hN))
  all_goals
    first
      | (have hE : (w3.setCell ⟨w.heap.size, 0, none⟩ (.func (.func 69) #[] #[.pointer (some ⟨Ba, 0, none⟩)])).heap[w.heap.size]? = some (.cells #[.func (.func 69) #[] #[.pointer (some ⟨Ba, 0, none⟩)]] 38 (0, 0)) := heap_setCell_same w3 w.heap.size 0 _ _ _ HN3.out
         have hGz := grown_at gB.out (grown_set w3 w.heap.size 0 (.func (.func 69) #[] #[.pointer (some ⟨Ba, 0, none⟩)])) (Nat.le_refl _)
         have hne : Ba ≠ w.heap.size := fun e => by
           have h1 := HI3.out.1
           rw [e, HN3.out] at h1
           injection h1 with h1
           injection h1 with _ h1
           exact absurd h1 (by decide)
         have hAt : AllAt w n M r (.returned (.func (.func 42) #[] #[.pointer (some ⟨w.heap.size, 0, none⟩)])) (w3.setCell ⟨w.heap.size, 0, none⟩ (.func (.func 69) #[] #[.pointer (some ⟨Ba, 0, none⟩)])) := ⟨w.heap.size, Ba, v, F, rfl, hE, (heap_setCell_other w3 _ _ _ hne).trans HI3.out.1, fun b o hb => ⟨(heap_setCell_other w3 _ _ _ (fun e => by have e : b = w.heap.size := e; have h5 := HI3.out.2.2.2 b o hb; have h6 : (w.alloc (.cells #[.nilFunc] 38)).drew.heap.size = w.heap.size + 1 := (by simp [World.drew]); omega)).trans (HI3.out.2.1 b o hb).1, (HI3.out.2.1 b o hb).2⟩, HI3.out.2.2.1, fun b o hb => Nat.le_trans gA.out.size (HI3.out.2.2.2 b o hb), hGz⟩)
      | (have hGa := World.grownBy_alloc w3 (.cells #[.func (.func 69) #[] #[.pointer (some ⟨Ba, 0, none⟩)]] 38 (0, 0)) none
         have hAt : AllAt w n M r (.returned (.func (.func 42) #[] #[.pointer (some ⟨w3.heap.size, 0, none⟩)])) (w3.alloc (.cells #[.func (.func 69) #[] #[.pointer (some ⟨Ba, 0, none⟩)]] 38 (0, 0))) := ⟨w3.heap.size, Ba, v, F, rfl, heap_alloc_new w3 _, (hGa.block Ba (Array.getElem?_eq_some_iff.1 HI3.out.1).1 (by simp)).trans HI3.out.1, stands_grow HI3.out.2.1 hGa, HI3.out.2.2.1, HI3.out.2.2.2, grown_trans gB.out hGa⟩)
    have HAt := Lib.hid hAt
    clear hAt
    go_wp2
    go_ret
    exact HAt.out
end Go.Proofs.Ytlieommbomjdaaa

namespace Go.Proofs.Ytlieommbomjdaaa
open Go.ChangeShapes Go.WideShapes Go.ChangeAt Go.RowKit Go.Deep
set_option linter.unusedVariables false

/-- What Leaves tells of the program's own words, by a list that says which pages have a leaf. -/
theorem tells_eq {n : Nat} {M : List UInt8} {s : MS} {a r : Int} {vs : List Int} (hI : Inv7 n s a r) (hg : Ag s.xs (wordI n M) s.W) (h1 : vs.Pairwise (· < ·)) (h2 : ∀ u, u ∈ vs ↔ okV u ∧ Lv s r u) : (allL n M 2 r 0).map LeafV.v = vs := by
  refine sorted_ext (List.pairwise_map.2 (rise2 n M r 0)) h1 fun u => ?_
  rw [List.mem_map, mem_all n M r u (hI.ok.lt hI.root), leafE_ag hI hg, h2 u]
  constructor
  · rintro ⟨hu, hl⟩
    refine ⟨hu, ?_⟩
    by_cases hv : Lv s r u
    · exact hv
    · exact (hl ((leafE_lv hI hu).2 hv)).elim
  · rintro ⟨hu, hl⟩
    exact ⟨hu, fun e => (leafE_lv hI hu).1 e hl⟩

/-- The law's own blocks: the bound, the answer, the row in its box. -/
structure TW (w wr : World) (m d p x : Nat) (r : Int) (s : MS) (bm br bi : Nat) (most : Int) (tv : Value) (vs : List Int) (j : Nat) : Prop where
  sp : PXr SpS w wr m d 128 p x 3 r s (bm :: br :: bi :: tv.ownBlock.toList)
  inv : Inv1 128 s 3 r
  t : IOwn wr w.heap.size tv vs
  rise : vs.Pairwise (· < ·)
  len : vs.length ≤ j
  mem : ∀ u, u ∈ vs ↔ okV u ∧ Lv s r u
  bm_ : wr.heap[bm]? = some (.cells #[.int .i64 most] 3 (0, 0))
  br_ : wr.heap[br]? = some (.cells #[.bool false] 4 (0, 0))
  bi_ : wr.heap[bi]? = some (.cells #[tv] 32 (0, 0))
  ge : w.heap.size ≤ bm ∧ w.heap.size ≤ br ∧ w.heap.size ≤ bi
theorem TW.enter {w wr : World} {m d p x : Nat} {r : Int} {s : MS} {bm br bi : Nat} {most : Int} {tv : Value} {vs : List Int} {j : Nat} (h : TW w wr m d p x r s bm br bi most tv vs j) (hj : j < 30) (hN : s.N ≤ 1 + 2 * j) (v f q : Int) (hv : 0 ≤ v ∧ v < 67108864) (hf : 0 ≤ f ∧ f < 128) (hq : 1 ≤ q ∧ q ≤ 7) :
    Calls Try.prog 13 #[.pointer (some ⟨x, 0, none⟩), .int .i64 v, .int .i64 f, .int .i64 q] wr fun e w' => e = .returned (.int .i64 0) ∧ ∃ s', (PXr SpS w w' m d 128 p x 3 r s' (bm :: br :: bi :: tv.ownBlock.toList) ∧ Inv1 128 s' 3 r ∧ s'.N ≤ 1 + 2 * (j + 1) ∧ (∀ u, u ∈ putL vs v ↔ okV u ∧ Lv s' r u)) ∧
      IOwn w' w.heap.size tv vs ∧ w'.heap[bm]? = some (.cells #[.int .i64 most] 3 (0, 0)) ∧ w'.heap[br]? = some (.cells #[.bool false] 4 (0, 0)) ∧ w'.heap[bi]? = some (.cells #[tv] 32 (0, 0)) := by
  have he := h.inv.fits (v := v) (p := q) (fr := f) hv hq hf (by omega)
  have hE := h.sp.enter pmOk h.inv.inv v f q ⟨by omega, by omega⟩ ⟨by omega, by omega⟩ ⟨by omega, by omega⟩
  rw [he] at hE
  refine hE.mono ?_
  rintro e w' ⟨rfl, k1, k2⟩
  refine ⟨rfl, _, ⟨k1, h.inv.enter, ?_, fun u => ?_⟩, h.t.kept fun b hb => k2 b (by simp [hb]), (k2 bm (by simp)).trans h.bm_, (k2 br (by simp)).trans h.br_, (k2 bi (by simp)).trans h.bi_⟩
  · rw [enterM_in hv hq hf]
    have h5 : (enter1 128 3 r v (encOf (flagsOf q true) f) s).2.N ≤ s.N + 2 := (h.inv.inv.ok.enter1_fits h.inv.inv.root (v := v) (x := encOf (flagsOf q true) f) (by rw [h.inv.tot]; omega)).2
    show (enter1 128 3 r v (encOf (flagsOf q true) f) s).2.N ≤ 1 + 2 * ((j : Int) + 1)
    omega
  · rw [putL_mem]
    constructor
    · rintro (rfl | hu)
      · have hu : okV u := ⟨hv.1, by omega⟩
        exact ⟨hu, (h.inv.inv.enterL hv hq hf he hu).2 (.inl rfl)⟩
      · obtain ⟨h1, h2⟩ := (h.mem u).1 hu
        exact ⟨h1, (h.inv.inv.enterL hv hq hf he h1).2 (.inr h2)⟩
    · rintro ⟨hu, hl⟩
      rcases (h.inv.inv.enterL hv hq hf he hu).1 hl with e | e
      · exact .inl e
      · exact .inr ((h.mem u).2 ⟨hu, e⟩)
theorem PXr.set {S : SpP} {Z : World → Nat → List Nat → Prop} (H : PmOk S Z) {w0 w : World} {m d n p x : Nat} {a r : Int} {s : MS} {B : List Nat} (h : PXr S w0 w m d n p x a r s B) {b : Nat} (hb : b ∈ B) (v : Value) : PXr S w0 (w.setCell ⟨b, 0, none⟩ v) m d n p x a r s B := by
  obtain ⟨O, OX, h1, h2⟩ := h
  have g := grown_set w b 0 v
  exact ⟨O, OX, h1.turn H (O2 := [b]) (Turn.one (O := [b]) g (by simp)) (fun c hc hm => by rw [List.mem_singleton.1 hm] at hc; exact (h2 b hb).2.2 hc) (fun c hc => by rw [List.mem_singleton.1 hc]; exact (h2 b hb).1), fun c hc => ⟨(h2 c hc).1, Nat.lt_of_lt_of_le (h2 c hc).2.1 g.size, (h2 c hc).2.2⟩⟩
/-- A row made anew is put into its box. -/
theorem TW.next {w w5 w6 : World} {m d p x : Nat} {r : Int} {s : MS} {bm br bi : Nat} {most : Int} {tv tv' : Value} {vs : List Int} {j : Nat}
    (h1 : PXr SpS w w5 m d 128 p x 3 r s (bm :: br :: bi :: tv.ownBlock.toList)) (hi : Inv1 128 s 3 r) (hm : ∀ u, u ∈ vs ↔ okV u ∧ Lv s r u) (hr : vs.Pairwise (· < ·)) (hl : vs.length ≤ j)
    (b1 : w5.heap[bm]? = some (.cells #[.int .i64 most] 3 (0, 0))) (b2 : w5.heap[br]? = some (.cells #[.bool false] 4 (0, 0))) (b3 : w5.heap[bi]? = some (.cells #[tv] 32 (0, 0))) (ge : w.heap.size ≤ bm ∧ w.heap.size ≤ br ∧ w.heap.size ≤ bi)
    (ht : IOwn w6 w5.heap.size tv' vs) (g : w5.grownBy w6 none) : TW w (w6.setCell ⟨bi, 0, none⟩ tv') m d p x r s bm br bi most tv' vs j := by
  have hw := h1.low.size
  have c1 := (g.block bm (Array.getElem?_eq_some_iff.1 b1).1 (by simp)).trans b1
  have c2 := (g.block br (Array.getElem?_eq_some_iff.1 b2).1 (by simp)).trans b2
  have c3 := (g.block bi (Array.getElem?_eq_some_iff.1 b3).1 (by simp)).trans b3
  have l1 := (Array.getElem?_eq_some_iff.1 c1).1
  have l2 := (Array.getElem?_eq_some_iff.1 c2).1
  have l3 := (Array.getElem?_eq_some_iff.1 c3).1
  have l35 := (Array.getElem?_eq_some_iff.1 b3).1
  have n1 : bm ≠ bi := fun e => by
    rw [e, c3] at c1
    injection c1 with c1
    injection c1 with _ c1
    exact absurd c1 (by decide)
  have n2 : br ≠ bi := fun e => by
    rw [e, c3] at c2
    injection c2 with c2
    injection c2 with _ c2
    exact absurd c2 (by decide)
  have h6 : PXr SpS w w6 m d 128 p x 3 r s (bm :: br :: bi :: tv'.ownBlock.toList) := h1.fresh pmOk g fun b hb => by
    simp only [List.mem_cons] at hb
    rcases hb with rfl | rfl | rfl | hb
    · exact ⟨.inl (by simp), l1⟩
    · exact ⟨.inl (by simp), l2⟩
    · exact ⟨.inl (by simp), l3⟩
    · have := ht.lt (by simpa using hb)
      exact ⟨.inr this.1, this.2⟩
  refine ⟨h6.set pmOk (by simp) tv', hi, ?_, hr, hl, hm, (heap_setCell_other _ _ _ _ n1).trans c1, (heap_setCell_other _ _ _ _ n2).trans c2, heap_setCell_same w6 bi 0 _ _ _ c3, ge⟩
  exact (ht.kept fun b hb => heap_setCell_other _ _ _ _ (fun e => by have e : b = bi := e; have := (ht.lt hb).1; omega)).lower hw
theorem TW.low {w wr : World} {m d p x : Nat} {r : Int} {s : MS} {bm br bi : Nat} {most : Int} {tv : Value} {vs : List Int} {j : Nat} (h : TW w wr m d p x r s bm br bi most tv vs j) : w.grownBy wr none := h.sp.low
theorem TW.grow {w wr w2 : World} {m d p x : Nat} {r : Int} {s : MS} {bm br bi : Nat} {most : Int} {tv : Value} {vs : List Int} {j : Nat} (h : TW w wr m d p x r s bm br bi most tv vs j) (g : wr.grownBy w2 none) : TW w w2 m d p x r s bm br bi most tv vs j :=
  ⟨h.sp.grow pmOk g, h.inv, h.t.grow g, h.rise, h.len, h.mem, (g.block bm (Array.getElem?_eq_some_iff.1 h.bm_).1 (by simp)).trans h.bm_, (g.block br (Array.getElem?_eq_some_iff.1 h.br_).1 (by simp)).trans h.br_, (g.block bi (Array.getElem?_eq_some_iff.1 h.bi_).1 (by simp)).trans h.bi_, h.ge⟩
/-- A page of the row is taken out of the space; the row is still as it was. -/
structure TWm (w wr : World) (m d p x : Nat) (r : Int) (s : MS) (bm br bi : Nat) (most : Int) (tv : Value) (vs vs' : List Int) : Prop where
  sp : PXr SpS w wr m d 128 p x 3 r s (bm :: br :: bi :: tv.ownBlock.toList)
  inv : Inv1 128 s 3 r
  t : IOwn wr w.heap.size tv vs
  mem : ∀ u, u ∈ vs' ↔ okV u ∧ Lv s r u
  bm_ : wr.heap[bm]? = some (.cells #[.int .i64 most] 3 (0, 0))
  br_ : wr.heap[br]? = some (.cells #[.bool false] 4 (0, 0))
  bi_ : wr.heap[bi]? = some (.cells #[tv] 32 (0, 0))
section
variable {w wr w6 : World} {m d p x : Nat} {r : Int} {s : MS} {bm br bi : Nat} {most : Int} {tv tv' : Value} {vs vs' : List Int} {j : Nat}
theorem TWm.remove (h : TWm w wr m d p x r s bm br bi most tv vs vs') (n : Int) (hn : okV n) : Calls Try.prog 15 #[.pointer (some ⟨x, 0, none⟩), .int .i64 n] wr fun e w' => e = .returned (.bool (decide (n ∈ vs'))) ∧ ∃ s', TWm w w' m d p x r s' bm br bi most tv vs (withoutL vs' n) := by
  refine (h.sp.remove pmOk h.inv.inv n ⟨by have := hn.1; omega, by have := hn.2; omega⟩).mono ?_
  rintro e w' ⟨rfl, k1, k2⟩
  have hd : (removeM 128 r n s).1 = decide (n ∈ vs') := by
    have h1 := (h.inv.inv.removeL (v := n) (u := n) hn hn).1
    have h2 := h.mem n
    by_cases hm : n ∈ vs'
    · rw [decide_eq_true hm]; exact h1.2 (h2.1 hm).2
    · rw [decide_eq_false hm]
      cases hb : (removeM 128 r n s).1 with
      | false => rfl
      | true => exact (hm (h2.2 ⟨hn, h1.1 hb⟩)).elim
  refine ⟨by rw [hd], _, k1, h.inv.remove, h.t.kept fun b hb => k2 b (by simp [hb]), fun u => ?_, (k2 bm (by simp)).trans h.bm_, (k2 br (by simp)).trans h.br_, (k2 bi (by simp)).trans h.bi_⟩
  rw [withoutL_mem, h.mem u]
  constructor
  · rintro ⟨h1, h2, h3⟩
    exact ⟨h2, (h.inv.inv.removeL hn h2).2.2 ⟨h1, h3⟩⟩
  · rintro ⟨h2, h3⟩
    obtain ⟨h1, h4⟩ := (h.inv.inv.removeL hn h2).2.1 h3
    exact ⟨h1, h2, h4⟩
theorem TW.mid (h : TW w wr m d p x r s bm br bi most tv vs j) : TWm w wr m d p x r s bm br bi most tv vs vs := ⟨h.sp, h.inv, h.t, h.mem, h.bm_, h.br_, h.bi_⟩
theorem TWm.next (h : TWm w wr m d p x r s bm br bi most tv vs vs') (ge : w.heap.size ≤ bm ∧ w.heap.size ≤ br ∧ w.heap.size ≤ bi) (hr : vs'.Pairwise (· < ·)) (hl : vs'.length ≤ j) (ht : IOwn w6 wr.heap.size tv' vs') (g : wr.grownBy w6 none) : TW w (w6.setCell ⟨bi, 0, none⟩ tv') m d p x r s bm br bi most tv' vs' j :=
  TW.next h.sp h.inv h.mem hr hl h.bm_ h.br_ h.bi_ ge ht g
theorem TW.cells (h : TW w wr m d p x r s bm br bi most tv vs j) : wr.cell? ⟨bm, 0, none⟩ = some (.int .i64 most) ∧ wr.cell? ⟨br, 0, none⟩ = some (.bool false) ∧ wr.cell? ⟨bi, 0, none⟩ = some tv ∧ wr.frozen? ⟨bi, 0, none⟩ = false :=
  ⟨by rw [cell_of_row _ _ _ _ _ _ h.bm_]; rfl, by rw [cell_of_row _ _ _ _ _ _ h.br_]; rfl, by rw [cell_of_row _ _ _ _ _ _ h.bi_]; rfl, frozen_of_row _ _ 0 _ _ h.bi_⟩
end
theorem withoutL_same {vs : List Int} {n : Int} (h : n ∉ vs) : withoutL vs n = vs := by
  unfold withoutL
  exact List.filter_eq_self.2 fun x hx => by simp; exact fun e => h (e ▸ hx)
theorem without_again (vs : List Int) (n : Int) : withoutL (withoutL vs n) n = withoutL vs n := withoutL_same fun h => (withoutL_mem.1 h).1 rfl
/-- The law's space is made, beside its two boxes. -/
theorem tw_new {w wc : World} {m d p bm br : Nat} {O : List Nat} {W : WoF} {most : Int} (h : PM w wc m d 128 p O W (List.replicate 128 zeroF)) (b1 : wc.heap[bm]? = some (.cells #[.int .i64 most] 3 (0, 0))) (b2 : wc.heap[br]? = some (.cells #[.bool false] 4 (0, 0))) (ge : w.heap.size ≤ bm ∧ w.heap.size ≤ br) (no : ∀ b, b ∈ m :: d :: O → b ≠ bm ∧ b ≠ br) :
    Calls Try.prog 12 #[.pointer (some ⟨m, 0, none⟩), .pointer (some ⟨p, 0, none⟩), .int .i64 3] wc fun e w' => ∃ x r s, e = .returned (.tuple #[.pointer (some ⟨x, 0, none⟩), .int .i64 0]) ∧ PXr SpS w w' m d 128 p x 3 r s [bm, br] ∧ Inv1 128 s 3 r ∧ s.N = 1 ∧ (∀ u, ¬ Lv s r u) ∧ w'.heap[bm]? = some (.cells #[.int .i64 most] 3 (0, 0)) ∧ w'.heap[br]? = some (.cells #[.bool false] 4 (0, 0)) := by
  obtain ⟨k, zs, hk, ht, hi, htot, hoth, hz⟩ := start7 128 (by decide) (by decide) W 3 (ok_s7 (by decide) (by decide))
  refine (pmOk.newOk h (ok_free 128 (by decide) W 0) 3 k zs (ok_s7 (by decide) (by decide)) hk ht).mono ?_
  rintro e w' ⟨x, O', OX, rfl, q1, q2, q3, q4⟩
  have l1 := (Array.getElem?_eq_some_iff.1 b1).1
  have l2 := (Array.getElem?_eq_some_iff.1 b2).1
  have out : ∀ c, (c = bm ∨ c = br) → c < wc.heap.size → c ∉ m :: d :: (O' ++ OX) := fun c hc hlt hm => by
    have nn : ∀ b, b ∈ m :: d :: O → b ≠ c := fun b hb e => by rcases hc with rfl | rfl; exact (no b hb).1 e; exact (no b hb).2 e
    simp only [List.mem_cons, List.mem_append] at hm
    rcases hm with e | e | e | e
    · exact nn m (by simp) e.symm
    · exact nn d (by simp) e.symm
    · rcases q3 c e with e | e
      · exact nn c (by simp [e]) rfl
      · omega
    · have := q4 c e; omega
  have kb : ∀ c, (c = bm ∨ c = br) → c < wc.heap.size → w'.heap[c]? = wc.heap[c]? := fun c hc hlt => q2.block c hlt fun hm => by
    have nn : ∀ b, b ∈ m :: d :: O → b ≠ c := fun b hb e => by rcases hc with rfl | rfl; exact (no b hb).1 e; exact (no b hb).2 e
    exact nn c (List.mem_cons_of_mem _ hm) rfl
  refine ⟨x, k, _, rfl, ⟨O', OX, q1, fun b hb => ?_⟩, ⟨hi, htot⟩, rfl, start_no hz, (kb bm (.inl rfl) l1).trans b1, (kb br (.inr rfl) l2).trans b2⟩
  simp only [List.mem_cons, List.not_mem_nil, or_false] at hb
  rcases hb with rfl | rfl
  · exact ⟨ge.1, Nat.lt_of_lt_of_le l1 q2.size, out b (.inl rfl) l1⟩
  · exact ⟨ge.2, Nat.lt_of_lt_of_le l2 q2.size, out b (.inr rfl) l2⟩
theorem TW.start {w w5 : World} {m d p x : Nat} {r : Int} {s : MS} {bm br : Nat} {most : Int} (h1 : PXr SpS w w5 m d 128 p x 3 r s [bm, br]) (hi : Inv1 128 s 3 r) (hno : ∀ u, ¬ Lv s r u) (b1 : w5.heap[bm]? = some (.cells #[.int .i64 most] 3 (0, 0))) (b2 : w5.heap[br]? = some (.cells #[.bool false] 4 (0, 0))) (ge : w.heap.size ≤ bm ∧ w.heap.size ≤ br) :
    TW w (w5.alloc (.cells #[.slice none 0 0] 32)) m d p x r s bm br w5.heap.size most (.slice none 0 0) [] 0 := by
  have g := World.grownBy_alloc w5 (.cells #[.slice none 0 0] 32) none
  have hs : (w5.alloc (.cells #[.slice none 0 0] 32)).heap.size = w5.heap.size + 1 := by simp
  have l1 := (Array.getElem?_eq_some_iff.1 b1).1
  have l2 := (Array.getElem?_eq_some_iff.1 b2).1
  refine ⟨h1.fresh pmOk g fun b hb => ?_, hi, IOwn.nil _ _, .nil, Nat.le_refl _, fun u => ⟨fun q => (List.not_mem_nil q).elim, fun q => (hno u q.2).elim⟩, (g.block bm l1 (by simp)).trans b1, (g.block br l2 (by simp)).trans b2, heap_alloc_new w5 _, ge.1, ge.2, h1.low.size⟩
  simp only [List.mem_cons, Value.ownBlock, Option.map_none, Option.toList_none, List.not_mem_nil, or_false] at hb
  rcases hb with rfl | rfl | rfl
  · exact ⟨.inl (by simp), by omega⟩
  · exact ⟨.inl (by simp), by omega⟩
  · exact ⟨.inr (Nat.le_refl _), by omega⟩
end Go.Proofs.Ytlieommbomjdaaa

namespace Go.Proofs.Ytlieommbomjdaaa
open Go.ChangeShapes Go.WideShapes Go.ChangeAt Go.RowKit Go.Deep
set_option linter.unusedVariables false

/-- The space is closed; the answer's box. -/
structure TZ (w wr : World) (m d p x : Nat) (br : Nat) : Prop where
  pm : ∃ O W xs, PM w wr m d 128 p O W xs ∧ countF xs 0 = 128
  z : ∃ OX, ZpS wr x OX
  br_ : wr.heap[br]? = some (.cells #[.bool false] 4 (0, 0))
  ge : w.heap.size ≤ br
section
variable {w wr w2 : World} {m d p x : Nat} {r : Int} {s : MS} {bm br bi : Nat} {most : Int} {tv : Value} {vs : List Int} {j : Nat}
theorem TW.tables (h : TW w wr m d p x r s bm br bi most tv vs j) : Calls Try.prog 18 #[.pointer (some ⟨x, 0, none⟩)] wr fun e w' => e = .returned (.int .i64 s.N) ∧ wr.grownBy w' none := h.sp.tables pmOk h.inv.inv
theorem TW.free (h : TW w wr m d p x r s bm br bi most tv vs j) : Calls Try.prog 19 #[.pointer (some ⟨p, 0, none⟩)] wr fun e w' => e = .returned (.int .i64 (128 - s.N)) ∧ wr.grownBy w' none := by
  have h1 := h.inv.inv.ok.free_tot
  have h2 := h.inv.tot
  have h3 := h.sp.free
  have e : countF s.xs 0 = 128 - s.N := by have h1 : countF s.xs 0 + totF s.xs = (128 : Nat) := h1; omega
  rw [e] at h3
  exact h3
theorem TW.close (h : TW w wr m d p x r s bm br bi most tv vs j) : Calls Try.prog 20 #[.pointer (some ⟨x, 0, none⟩)] wr fun e w' => e = .returned (.int .i64 s.N) ∧ TZ w w' m d p x br ∧ KeepsFrom 0 wr w' := by
  obtain ⟨O, OX, h1, h2⟩ := h.sp
  obtain ⟨eX, _, M, _, hq⟩ := h1.qx
  obtain ⟨c1, _, _, c4, c5, _⟩ := h.inv.inv.ok.close h.inv.inv.root 0
  have hN := h.inv.inv.N
  have ht := h.inv.tot
  have hcl := pmOk.close h1 h.inv.inv
  generalize closeM 128 r s = C at *
  have hf := c1.free_tot
  simp only at hf
  refine hcl.mono ?_
  rintro e w' ⟨rfl, O', OX', k1, k2, k3, k4, k5, k6⟩
  have hb := h2 br (by simp)
  refine ⟨by rw [c4, hN], ⟨⟨O', _, _, k1, ?_⟩, ⟨OX', k2⟩, (k4.block br hb.2.1 fun hm => hb.2.2 (List.mem_cons_of_mem _ hm)).trans h.br_, h.ge.2.1⟩, ⟨k4.size, fun k o _ hk ho => (k4.block k (Array.getElem?_eq_some_iff.1 hk).1 fun hm => ?_).trans hk⟩⟩
  · omega
  · obtain ⟨o', g1, g2⟩ := hq.cells k (by rw [eX] at hm; simp only [List.mem_cons, List.mem_append, List.not_mem_nil, or_false] at hm ⊢; rcases hm with hm | hm | hm <;> simp [hm])
    rw [hk] at g1
    injection g1 with g1
    rw [g1, g2] at ho
    cases ho
theorem TZ.low (h : TZ w wr m d p x br) : w.grownBy wr none := by
  obtain ⟨O, W, xs, k, _⟩ := h.pm
  exact grown_of_below' k.below
theorem TZ.grow (h : TZ w wr m d p x br) (g : wr.grownBy w2 none) : TZ w w2 m d p x br := by
  obtain ⟨O, W, xs, k, e⟩ := h.pm
  obtain ⟨OX, hz⟩ := h.z
  exact ⟨⟨O, W, xs, k.grow g, e⟩, ⟨OX, pmOk.zkept hz g.size fun b hb => g.block b (pmOk.zlt hz b hb) (by simp)⟩, (g.block br (Array.getElem?_eq_some_iff.1 h.br_).1 (by simp)).trans h.br_, h.ge⟩
theorem TZ.free (h : TZ w wr m d p x br) : Calls Try.prog 19 #[.pointer (some ⟨p, 0, none⟩)] wr fun e w' => e = .returned (.int .i64 128) ∧ wr.grownBy w' none := by
  obtain ⟨O, W, xs, k, e⟩ := h.pm
  obtain ⟨g, c, _, hp⟩ := k.pool
  have hf := fr_free hp
  rw [e] at hf
  exact hf
theorem TZ.root (h : TZ w wr m d p x br) : Calls Try.prog 21 #[.pointer (some ⟨x, 0, none⟩)] wr fun e w' => e = .returned (.int .i64 (-1)) ∧ wr.grownBy w' none := by
  obtain ⟨OX, hz⟩ := h.z
  exact pmOk.zroot hz
/-- What turns a block that is none of the law's, and none of the space's. -/
theorem TW.other {bk : Nat} (h : TW w wr m d p x r s bm br bi most tv vs j) (hn : wr.heap.size ≤ bk) {w9 : World} {o : Obj} (e9 : w9 = wr.alloc o) (hbk : bk = wr.heap.size) (g : w9.grownBy w2 (some bk)) : TW w w2 m d p x r s bm br bi most tv vs j := by
  have ga : wr.grownBy w9 none := by rw [e9]; exact World.grownBy_alloc wr o none
  have gg : wr.grownBy w2 none := ⟨g.os.trans ga.os, g.tape.trans ga.tape, g.output.trans ga.output, Nat.le_trans ga.size g.size, fun k hk _ => (g.block k (Nat.lt_of_lt_of_le hk ga.size) (fun e => by have e := Option.some.inj e; omega)).trans (ga.block k hk (by simp))⟩
  exact h.grow gg
theorem next_int {ps vs : List Int} {y : Int} (hp : ps <+: vs) (hy : vs[ps.length]? = some y) (x : Int) : (y = x → (ps ++ [x]) <+: vs) ∧ (y ≠ x → ¬ (ps ++ [x]) <+: vs) := by
  obtain ⟨t, rfl⟩ := hp
  rw [List.getElem?_append_right (Nat.le_refl _), Nat.sub_self] at hy
  cases t with
  | nil => simp at hy
  | cons z t =>
    simp at hy
    subst hy
    constructor
    · rintro rfl
      exact ⟨t, by simp⟩
    · rintro hne ⟨t2, h2⟩
      rw [List.append_assoc] at h2
      have h3 := List.append_cancel_left h2
      simp at h3
      exact hne h3.1.symm
theorem TW.bounds (h : TW w wr m d p x r s bm br bi most tv vs j) : 0 ≤ s.N ∧ s.N ≤ 128 := by
  have h1 := h.inv.inv.N
  have h2 := h.inv.inv.ok.tot_le
  have h3 := h.inv.tot
  have h2 : totF s.xs ≤ (128 : Nat) := h2
  unfold cntF at h1
  exact ⟨by omega, by omega⟩
theorem row_grow {a b e : World} {k : Nat} {row : Option Nat} (h : a.grownBy b (some k)) (g : b.grownBy e row) (hr : ∀ r, row = some r → a.heap.size ≤ r) : a.grownBy e (some k) :=
  ⟨g.os.trans h.os, g.tape.trans h.tape, g.output.trans h.output, Nat.le_trans h.size g.size, fun i hi hx => (g.block i (Nat.lt_of_lt_of_le hi h.size) (fun e => by have := hr i e.symm; omega)).trans (h.block i hi hx)⟩
theorem eql_it_nil (w : World) (fn : Fn) (a b : Array Value) : (binOp .eql 38 (.func fn a b) .nilFunc).run Try.prog w = .ok (.bool false) w := by
  have h1 : ∀ d : Nat, (Op.equalIn (d + 1) 38 (.func fn a b) .nilFunc).run Try.prog w = .ok false w := fun d => by
    simp [Op.equalIn, run_underlying Try.underlying38]
  simp only [binOp]
  simp [Op.equal, Op.maxDepth, h1 9999]
theorem results_bool_at {fn : Func} {q : Tmp} (h : fn.results = #[.cell q 4]) (tmps : Array Value) (w : World) (g : Nat) (v : Value) (hp : tmps.getD q undef = .pointer (some ⟨g, 0, none⟩)) (hc : w.cell? ⟨g, 0, none⟩ = some v) :
    (results fn tmps).run Try.prog w = .ok v w := by
  have hp' : tmps[q]?.getD undef = .pointer (some ⟨g, 0, none⟩) := by simpa using hp
  have hagg : (isAgg 4).run Try.prog w = .ok false w := by
    unfold isAgg
    rw [Sem.run_bind, run_underlying Try.underlying4 w]
    rfl
  simp [results, h, hp', asAddr, loadVar, hagg, hc, go_sem]
end
end Go.Proofs.Ytlieommbomjdaaa

namespace Go.Proofs.Ytlieommbomjdaaa
open Go.ChangeShapes Go.WideShapes Go.ChangeAt Go.RowKit Go.Deep
set_option linter.unusedVariables false
attribute [local go_sem] Oper.semAt_some

theorem tells_boxes (w : World) (most : Int) : w.grownBy ((w.alloc (.cells #[.int .i64 most] 3)).alloc (.cells #[.bool false] 4)) none ∧ ((w.alloc (.cells #[.int .i64 most] 3)).alloc (.cells #[.bool false] 4)).heap[w.heap.size]? = some (.cells #[.int .i64 most] 3 (0, 0)) ∧ ((w.alloc (.cells #[.int .i64 most] 3)).alloc (.cells #[.bool false] 4)).heap[w.heap.size + 1]? = some (.cells #[.bool false] 4 (0, 0)) ∧ ((w.alloc (.cells #[.int .i64 most] 3)).alloc (.cells #[.bool false] 4)).heap.size = w.heap.size + 2 := by
  have g1 := World.grownBy_alloc w (.cells #[.int .i64 most] 3) none
  have g2 := World.grownBy_alloc (w.alloc (.cells #[.int .i64 most] 3)) (.cells #[.bool false] 4) none
  refine ⟨grown_trans g1 g2, (g2.block _ (by simp) (by simp)).trans (heap_alloc_new w _), ?_, by simp⟩
  have := heap_alloc_new (w.alloc (.cells #[.int .i64 most] 3)) (.cells #[.bool false] 4)
  rwa [World.size_alloc] at this

set_option maxRecDepth 100000 in
set_option maxHeartbeats 4000000 in
theorem tells_walk (w : World) (sv : Option Addr) (l cc : Nat) (vs0 : List Int) (hv : UintsAre w sv l vs0) (sd : Option Addr) (ld cd : Nat) (ds : List Int) (hd : UintsAre w sd ld ds) (most : Int) :
    Calls Try.prog 3 #[.slice sv l cc, .slice sd ld cd, .int .i64 most] w fun e w' => e = .returned (.bool true) ∧ w.grownBy w' none := by
  have HL := Lib.hid (lives7 pmOk)
  have HV := Lib.hid hv
  have HDs := Lib.hid hd
  obtain ⟨bg, bb1, bb2, bsz⟩ := tells_boxes w most
  generalize hwa : (w.alloc (.cells #[.int .i64 most] 3)).alloc (.cells #[.bool false] 4) = wa at *
  have HBg := Lib.hid bg
  have HB1 := Lib.hid bb1
  have HB2 := Lib.hid bb2
  have HBs := Lib.hid bsz
  have HN := Lib.hid (newE w (below_of_grown bg (Nat.le_refl _) (by simp)) 128 128 rfl (by decide) (by decide))
  obtain ⟨M, hM⟩ : ∃ M : List UInt8, List.replicate (128 * 4096) 0 = M := ⟨_, rfl⟩
  rw [hM] at HN
  clear hM hv hd bg bb1 bb2 bsz
  refine (callsIn_wide (n := 9)).1 ?_
  refine callsIn_of_wp_marks Try.func3 rfl trivial ?_ rfl
  simp only [Try.ntmps3, List.size_toArray, List.length_cons, List.length_nil, Nat.reduceAdd, Nat.reduceSub, Array.replicate_succ, Array.replicate_zero, List.push_toArray, List.append_toArray, List.nil_append, List.cons_append]
  refine wpIn_wide.2 ?_
  by_cases hlong : (l : Int) > 30 ∨ (ld : Int) > 30
  · have tail : ∀ (w2 : World), wa.grownBy w2 none → w2.heap[w.heap.size + 1]? = some (.cells #[.bool false] 4 (0, 0)) ∧ w2.cell? ⟨w.heap.size + 1, 0, none⟩ = some (.bool false) ∧ w2.frozen? ⟨w.heap.size + 1, 0, none⟩ = false ∧ w.grownBy w2 none := fun w2 g => by
      have h5 := (g.block _ (Array.getElem?_eq_some_iff.1 HB2.out).1 (by simp)).trans HB2.out
      exact ⟨h5, by rw [cell_of_row _ _ _ _ _ _ h5]; rfl, frozen_of_row _ _ 0 _ _ h5, grown_trans HBg.out g⟩
    have HTl := Lib.hid tail
    clear tail HN HV HDs
    by_cases h1 : (l : Int) > 30
    · have d0 : decide ((l : Int) > 30) = true := by simpa using h1
      clear hlong h1
      go_wp2_with fail
      refine (HL.out _).mono ?_
      rintro e w2 ⟨rfl, g2⟩
      obtain ⟨h5, c5, f5, g5⟩ := HTl.out w2 g2
      have H5 := Lib.hid h5
      have G5 := Lib.hid g5
      clear g2 h5 g5
      go_wp2_with fail
      exact ⟨_, results_bool_at rfl _ _ (w.heap.size + 1) (.bool true) rfl (by rw [cell_of_row _ _ _ _ _ _ (heap_setCell_same w2 (w.heap.size + 1) 0 _ _ _ H5.out)]; rfl), rfl, grown_at G5.out (grown_set w2 (w.heap.size + 1) 0 _) (by omega)⟩
    · have d0 : decide ((l : Int) > 30) = false := by simpa using h1
      have d1 : decide ((ld : Int) > 30) = true := by simp; omega
      clear hlong h1
      go_wp2_with fail
      refine (HL.out _).mono ?_
      rintro e w2 ⟨rfl, g2⟩
      obtain ⟨h5, c5, f5, g5⟩ := HTl.out w2 g2
      have H5 := Lib.hid h5
      have G5 := Lib.hid g5
      clear g2 h5 g5
      go_wp2_with fail
      exact ⟨_, results_bool_at rfl _ _ (w.heap.size + 1) (.bool true) rfl (by rw [cell_of_row _ _ _ _ _ _ (heap_setCell_same w2 (w.heap.size + 1) 0 _ _ _ H5.out)]; rfl), rfl, grown_at G5.out (grown_set w2 (w.heap.size + 1) 0 _) (by omega)⟩
  · have d0 : decide ((l : Int) > 30) = false := by simp; omega
    have d1 : decide ((ld : Int) > 30) = false := by simp; omega
    have hl : l ≤ 30 := by omega
    have hld : ld ≤ 30 := by omega
    clear hlong
    go_wp2_with fail
    refine HN.out.mono ?_
    rintro e wb ⟨rfl, h1, g1⟩
    have HK1 := Lib.hid ((g1.block _ (Array.getElem?_eq_some_iff.1 HB1.out).1 (by simp)).trans HB1.out)
    have HK2 := Lib.hid ((g1.block _ (Array.getElem?_eq_some_iff.1 HB2.out).1 (by simp)).trans HB2.out)
    have HSt := Lib.hid (pm_start h1 (by decide) (by decide) 128 rfl)
    have HSz := Lib.hid g1.size
    clear h1 g1 HN
    go_wp2_with fail
    refine HSt.out.mono ?_
    rintro e wc ⟨p, O, rfl, h2, g2, o2⟩
    have HNw := Lib.hid (tw_new (most := most) h2 ((g2.block _ (Array.getElem?_eq_some_iff.1 HK1.out).1 (by simp)).trans HK1.out) ((g2.block _ (Array.getElem?_eq_some_iff.1 HK2.out).1 (by simp)).trans HK2.out) ⟨Nat.le_refl _, Nat.le_succ _⟩ (fun b hb => by
      have := HBs.out
      have := HSz.out
      simp only [List.mem_cons] at hb
      rcases hb with rfl | rfl | hb
      · omega
      · omega
      · have := o2 b hb; omega))
    clear h2 g2 o2 HSt HK1 HK2
    go_wp2_with fail
    refine HNw.out.mono ?_
    rintro e wd ⟨x, r, s, rfl, k1, k2, k3, k4, k5, k6⟩
    have HT := Lib.hid (TW.start k1 k2 k4 k5 k6 ⟨Nat.le_refl _, Nat.le_succ _⟩)
    have HN0 := Lib.hid k3
    generalize wa.heap.size + 1 = m at *
    generalize wa.heap.size = d at *
    clear k1 k2 k3 k4 k5 k6 HNw HBg HB1 HB2 HSz
    generalize w.heap.size + 1 = br at *
    generalize hbm : w.heap.size = bm at *
    go_wp2_with fail
    generalize wd.heap.size = bi at *
    go_loopg [13, 14, 43] l (fun g _ _ iv wr => ∃ (j : Nat) (s : MS) (tv : Value) (vs : List Int), g = l - j ∧ j ≤ l ∧ iv = .int .i64 j ∧ Hid (TW w wr m d p x r s bm br bi most tv vs j) ∧ Hid (s.N ≤ 1 + 2 * j))
    case atStart => exact ⟨0, s, _, [], by omega, by omega, rfl, HT, by show s.N ≤ 1 + 2 * ((0 : Nat) : Int); rw [HN0.out]; decide⟩
    case round =>
      obtain ⟨j, s, tv, vs, rfl, hj, rfl, HJ, HNj⟩ := hrel
      by_cases hlt : j < l
      · obtain ⟨v, gv, o, hvj, hsv, hcv, hokv⟩ := HV.out.get j hlt
        subst hsv
        have c0 := HJ.out.low.cell hcv (by simp)
        obtain ⟨v0, v1⟩ := hokv
        have a1 : 0 ≤ v % 5 * 262144 ∧ v % 5 * 262144 < 2000000 := ⟨by omega, by omega⟩
        have a2 : v % 5 * 262144 % 67108864 = v % 5 * 262144 := by omega
        have a3 : 0 ≤ v / 5 % 7 ∧ v / 5 % 7 < 7 := ⟨by omega, by omega⟩
        have a4 : 0 ≤ v % 128 ∧ v % 128 < 128 := ⟨by omega, by omega⟩
        have a5 : 0 ≤ v % 7 ∧ v % 7 < 7 := ⟨by omega, by omega⟩
        have HE := Lib.hid (HJ.out.enter (by omega) HNj.out (v % 5 * 262144 + v / 5 % 7) (v % 128) (1 + v % 7) ⟨by omega, by omega⟩ a4 ⟨by omega, by omega⟩)
        clear hcv hvj
        go_wp2_with fail
        refine HE.out.mono ?_
        rintro e w4 ⟨rfl, s', ⟨k1, k2, k3, k4⟩, k5, k6, k7, k8⟩
        generalize v % 5 * 262144 + v / 5 % 7 = NN at *
        have hlen : (putL vs NN).length ≤ j + 1 := by rw [putL_len HJ.out.rise]; have := HJ.out.len; split <;> omega
        have HP := Lib.hid (put_walk k5 HJ.out.rise (by have := HJ.out.len; omega) NN)
        have cb : w4.cell? ⟨bi, 0, none⟩ = some tv := by rw [cell_of_row _ _ _ _ _ _ k8]; rfl
        have HNx := Lib.hid (fun (w6 : World) (tv' : Value) (ht : IOwn w6 w4.heap.size tv' (putL vs NN)) (g : w4.grownBy w6 none) => TW.next k1 k2 k4 (putL_rise HJ.out.rise) hlen k6 k7 k8 HJ.out.ge ht g)
        have HK := Lib.hid k8
        have HN3 := Lib.hid k3
        clear k1 k2 k3 k4 k5 k6 k7 k8 hlen HE c0
        go_wp2_with fail
        refine HP.out.mono ?_
        rintro e w5 ⟨g5, c5, rfl, h5, q5⟩
        have hb5 := (q5.block bi (Array.getElem?_eq_some_iff.1 HK.out).1 (by simp)).trans HK.out
        have cb5 : w5.cell? ⟨bi, 0, none⟩ = some tv := by rw [cell_of_row _ _ _ _ _ _ hb5]; rfl
        have fb5 := frozen_of_row w5 bi 0 _ _ hb5
        have HW := Lib.hid (HNx.out w5 _ h5 q5)
        clear hb5 h5 q5 cb HP HNx
        go_wp2_with fail
        go_roundg (l - (j + 1))
        case rel => exact ⟨j + 1, s', _, putL vs NN, rfl, by omega, by go_num, HW, HN3⟩
        case measure => omega
      · obtain rfl : j = l := by omega
        go_wp2_with fail
        go_loopg [16, 17, 75] ld (fun g _ _ iv wr => ∃ (q : Nat) (s : MS) (tv : Value) (vs : List Int), g = ld - q ∧ q ≤ ld ∧ iv = .int .i64 q ∧ Hid (TW w wr m d p x r s bm br bi most tv vs j))
        case atStart => exact ⟨0, s, tv, vs, by omega, by omega, rfl, HJ⟩
        case round =>
          obtain ⟨q, s, tv, vs, rfl, hq, rfl, HJ⟩ := hrel
          by_cases hlt2 : q < ld
          · obtain ⟨vD, gv, o, hvj, hsv, hcv, hokv⟩ := HDs.out.get q hlt2
            subst hsv
            have c0 := HJ.out.low.cell hcv (by simp)
            obtain ⟨v0, v1⟩ := hokv
            obtain ⟨st, ct, htv, hcs⟩ := HJ.out.t.form
            subst htv
            obtain ⟨cm, cr, cb, fb⟩ := HJ.out.cells
            by_cases h0 : vs = []
            · have dL : ((vs.length : Int) == 0) = true := by simp [h0]
              clear HDs HV
              have hsp := HJ.out.sp
              obtain ⟨OQ, OXQ, hPX, hPB⟩ := hsp
              obtain ⟨_, hcan, MQ, hag, hqx⟩ := hPX.qx
              have hrr := HJ.out.inv.inv.ok.lt HJ.out.inv.inv.root
              have HAll := Lib.hid (sp_all hqx ⟨by omega, by omega⟩)
              have hzs := tells_eq HJ.out.inv.inv hag HJ.out.rise HJ.out.mem
              obtain ⟨zs, hZ⟩ : ∃ zs, allL 128 MQ 2 r 0 = zs := ⟨_, rfl⟩
              rw [hZ] at hzs
              have HZS := Lib.hid hzs
              have HZ := Lib.hid hZ
              clear hPX hPB hcan hag hqx hrr hzs hZ
              go_wp2_with fail
              clear cm cr cb fb
              refine HAll.out.mono ?_
              rintro e w4 ⟨Lb, Ba, vb, F, rfl, hLb, hBa, hF, hSub, hF0, g4⟩
              have hq := eql_it_nil
              have H4 := Lib.hid (HJ.out.grow g4)
              have HI4 := Lib.hid (And.intro hLb (And.intro hBa (And.intro hF (And.intro hSub hF0))))
              clear hLb hBa hF hSub hF0 g4 HAll
              go_wp2_with fail
              have ga := World.grownBy_alloc w4 (.cells #[.int .i64 0] 3) none
              obtain ⟨hLb, hBa, hF, hSub, hF0⟩ := HI4.out
              have hsz9 : (w4.alloc (.cells #[.int .i64 0] 3)).heap.size = w4.heap.size + 1 := by simp
              have hLb9 : (w4.alloc (.cells #[.int .i64 0] 3)).cell? ⟨Lb, 0, none⟩ = some (.func (.func 69) #[] #[.pointer (some ⟨Ba, 0, none⟩)]) := by rw [cell_of_row _ _ _ _ _ _ ((ga.block Lb (Array.getElem?_eq_some_iff.1 hLb).1 (by simp)).trans hLb)]; rfl
              have HSQ := Lib.hid (all2_stops 8 128 MQ F r vb Ba Lb [w4.heap.size] (w4.alloc (.cells #[.int .i64 0] 3)) zs HZ.out ((ga.block Ba (Array.getElem?_eq_some_iff.1 hBa).1 (by simp)).trans hBa) (stands_grow hF ga) hSub (fun b o hb hm => by have := hF.lt hb; simp at hm; omega) (fun k hk => by simp at hk; omega) hLb9)
              have HOt := Lib.hid (fun W (g : (w4.alloc (.cells #[.int .i64 0] 3)).grownBy W (some w4.heap.size)) => TW.other H4.out (Nat.le_refl _) rfl rfl g)
              have hbk : (w4.alloc (.cells #[.int .i64 0] 3)).heap[w4.heap.size]? = some (.cells #[.int .i64 0] 3 (0, 0)) := heap_alloc_new w4 _
              have HBk := Lib.hid hbk
              have HS9 := Lib.hid hsz9
              have HLw := Lib.hid (Nat.le_trans H4.out.low.size ga.size)
              clear ga hLb hBa hF hSub hF0 hLb9 hbk hsz9 HI4 hq
              generalize w4.alloc (.cells #[.int .i64 0] 3) = w9 at *
              generalize w4.heap.size = bk at *
              refine (wpIn_wide (n := 9)).1 ?_
              refine wpIn_range7 rfl (by omega) (gf := 42) (lb := #[.pointer (some ⟨Lb, 0, none⟩)]) rfl trivial (enters_of Try.func42 (by kernel_rfl) rfl)
                HSQ.out (fun h k => kpX_t h k) (fun _ lo o o' _ hl ho _ => kpX_b _ lo o o' hl ho) (Below.refl _ _) (fun _ => rfl)
                (fun (pre : List LeafV) W => (w9.grownBy W (some bk) ∧ W.heap[bk]? = some (.cells #[.int .i64 (pre.length : Int)] 3 (0, 0))) ∧ pre.map LeafV.v <+: vs)
                (fun cx (pre : List LeafV) W => (cx = .ret ∧ ¬ pre.map LeafV.v <+: vs) ∨ (cx = .exit 4 ∧ w9.grownBy W (some bk) ∧ ∃ k : Nat, (k : Int) = most ∧ W.heap[bk]? = some (.cells #[.int .i64 (k : Int)] 3 (0, 0))))
                (fun s A B row hs hg hr => ⟨⟨row_grow hs.1.1 hg (fun r e => (hr r e).1), (hg.block bk (Array.getElem?_eq_some_iff.1 hs.1.2).1 (fun e => by have := (hr bk e.symm).1; have := HS9.out; omega)).trans hs.1.2⟩, hs.2⟩)
                (fun cx s A B row hs hg hr => by
                  rcases hs with hs | ⟨h1, h2, k, h3, h4⟩
                  · exact .inl hs
                  · exact .inr ⟨h1, row_grow h2 hg (fun r e => (hr r e).1), k, h3, (hg.block bk (Array.getElem?_eq_some_iff.1 h4).1 (fun e => by have := (hr bk e.symm).1; have := HS9.out; omega)).trans h4⟩)
                ⟨⟨grown_refl _ _, HBk.out⟩, by simp⟩
                (fun (x' : LeafV) a' W => a' = { tmps := #[Value.slice sv j cc, Value.slice (some { block := gv, off := o }) ld cd, Value.int IntKind.i64 most, undef, undef, Value.pointer (some { block := bm, off := 0 }), Value.pointer (some { block := br, off := 0 }), Value.pointer (some { block := m, off := 0 }), Value.pointer (some { block := p, off := 0 }), Value.pointer (some { block := x, off := 0 }), Value.int IntKind.i64 0, Value.pointer (some { block := bi, off := 0 }), undef, u13, u14, undef, Value.int IntKind.u64 vD, u17, Value.func (Fn.func 42) #[] #[Value.pointer (some { block := Lb, off := 0 })], Value.pointer (some { block := bk, off := 0 }), .int .i64 x'.v, undef, Value.slice sv j cc, Value.int IntKind.i64 ↑j, Value.bool false, Value.bool false, Value.slice (some { block := gv, off := o }) ld cd, Value.int IntKind.i64 ↑ld, Value.bool false, Value.bool false, undef, Value.pointer (some { block := m, off := 0 }), Value.pointer (some { block := p, off := 0 }), Value.tuple #[Value.pointer (some { block := x, off := 0 }), Value.int IntKind.i64 0], Value.pointer (some { block := m, off := 0 }), Value.pointer (some { block := p, off := 0 }), Value.tuple #[Value.pointer (some { block := x, off := 0 }), Value.int IntKind.i64 0], Value.pointer (some { block := x, off := 0 }), Value.int IntKind.i64 0, Value.int IntKind.i64 0, Value.bool false, Value.slice sv j cc, Value.int IntKind.i64 ↑j, Value.int IntKind.i64 ↑j, Value.bool false, u45, u46, u47, u48, u49, u50, u51, u52, u53, u54, u55, u56, u57, u58, u59, u60, u61, u62, u63, u64, u65, u66, u67, u68, u69, u70, u71, u72, Value.slice (some { block := gv, off := o }) ld cd, Value.int IntKind.i64 ↑ld, Value.int IntKind.i64 ↑q, Value.bool true, Value.pointer (some { block := gv, off := o + q }), Value.int IntKind.u64 vD, Value.slice st 0 ct, Value.int IntKind.i64 0, Value.bool true, u82, u83, u84, u85, u86, u87, u88, u89, u90, u91, u92, u93, u94, u95, u96, u97, u98, u99, u100, u101, u102, u103, Value.pointer (some { block := x, off := 0 }), Value.func (Fn.func 42) #[] #[Value.pointer (some { block := Lb, off := 0 })], Value.func (Fn.func 42) #[] #[Value.pointer (some { block := Lb, off := 0 })], Value.bool false, Value.func (Fn.func 42) #[] #[Value.pointer (some { block := Lb, off := 0 })], .int .i64 x'.v, .agg #[.int .i64 x'.fl, .int .i64 x'.pp], undef, undef, undef, undef, undef, undef, undef, undef, undef, undef, undef, undef, undef, undef, undef, undef, undef, undef, undef, undef, undef, undef, undef, undef, undef, undef, undef, undef, undef, undef, undef, undef, undef, undef, undef, undef, undef, undef, undef, undef, undef, undef, undef, undef, undef, undef, undef, undef, undef, undef, undef], defers := [] })
                (fun _ _ _ _ _ _ hs _ _ => hs) ?assign ?body ?done ?stop
              case assign =>
                rintro lp pre x' W K hI hK
                gi_wp2
                exact hK _ W (KeepsFrom.refl _ _) (fun _ _ _ _ _ h => h) hI rfl
              case body =>
                rintro lp pre x' a' W ⟨⟨hg, hn⟩, hp⟩ rfl hlt
                have h5 : zs = [] := by have h6 := HZS.out; rw [h0] at h6; exact List.map_eq_nil_iff.1 h6
                rw [h5] at hlt
                exact absurd hlt (by simp)
              case done =>
                rintro D ys W hD hys ⟨⟨hg, hn⟩, hp⟩ hK
                have hlen : ys.length = vs.length := by have h5 := congrArg List.length HZS.out; rw [List.length_map] at h5; rw [hys]; exact h5
                rw [hlen] at hn
                have HT := Lib.hid (HOt.out W hg)
                obtain ⟨cm, cr, cb, fb⟩ := HT.out.cells
                have ck : W.cell? ⟨bk, 0, none⟩ = some (.int .i64 (vs.length : Int)) := by rw [cell_of_row _ _ _ _ _ _ hn]; rfl
                have HKD := Lib.hid hK
                have HDw := Lib.hid (Nat.le_trans HLw.out hD)
                have HBn := Lib.hid HT.out.bounds
                have d3 : ((vs.length : Int) != (vs.length : Int)) = false := by simp
                clear hg hn hp hK hys hlen HSQ HOt HBk
                by_cases hm0 : most < 0
                · have d2 : decide (most < 0) = true := by simpa using hm0
                  clear hm0
                  have HTb := Lib.hid HT.out.tables
                  go_wp2_with fail
                  clear cm cr cb fb ck
                  refine HTb.out.mono ?_
                  rintro e wt ⟨rfl, gt⟩
                  have HT2 := Lib.hid (HT.out.grow gt)
                  have HD2 := Lib.hid ((gt.block D (Array.getElem?_eq_some_iff.1 HKD.out).1 (by simp)).trans HKD.out)
                  have HFr := Lib.hid HT2.out.free
                  obtain ⟨n0, n1⟩ := HBn.out
                  obtain ⟨NT, hNT⟩ : ∃ NT, s.N = NT := ⟨_, rfl⟩
                  rw [hNT] at HFr n0 n1
                  rw [hNT]
                  have HNT := Lib.hid hNT
                  have e1 : 128 - (128 - NT) = NT := by omega
                  clear gt hNT HTb
                  go_wp2_with fail
                  refine HFr.out.mono ?_
                  rintro e wu ⟨rfl, gu⟩
                  have hcl := (HT2.out.grow gu).close
                  rw [HNT.out] at hcl
                  have HCl := Lib.hid hcl
                  have HD3 := Lib.hid ((gu.block D (Array.getElem?_eq_some_iff.1 HD2.out).1 (by simp)).trans HD2.out)
                  clear gu hcl HFr
                  go_wp2_with fail
                  refine HCl.out.mono ?_
                  rintro e wv ⟨rfl, z1, kf⟩
                  have HZ1 := Lib.hid z1
                  have HD4 := Lib.hid (kf.same D _ (Nat.zero_le _) HD3.out rfl)
                  have HF2 := Lib.hid z1.free
                  clear z1 kf HCl
                  go_wp2_with fail
                  refine HF2.out.mono ?_
                  rintro e wx ⟨rfl, gx⟩
                  have HZ2 := Lib.hid (HZ1.out.grow gx)
                  have HD5 := Lib.hid ((gx.block D (Array.getElem?_eq_some_iff.1 HD4.out).1 (by simp)).trans HD4.out)
                  have HRt := Lib.hid HZ2.out.root
                  clear gx HF2
                  go_wp2_with fail
                  refine HRt.out.mono ?_
                  rintro e wy ⟨rfl, gy⟩
                  have HZ3 := Lib.hid (HZ2.out.grow gy)
                  have HD6 := Lib.hid ((gy.block D (Array.getElem?_eq_some_iff.1 HD5.out).1 (by simp)).trans HD5.out)
                  clear gy HRt
                  go_wp2_with fail
                  refine (HL.out _).mono ?_
                  rintro e wz ⟨rfl, gz⟩
                  have HZ4 := Lib.hid (HZ3.out.grow gz)
                  have HD7 := Lib.hid ((gz.block D (Array.getElem?_eq_some_iff.1 HD6.out).1 (by simp)).trans HD6.out)
                  clear gz
                  have cr4 : wz.cell? ⟨br, 0, none⟩ = some (.bool false) := by rw [cell_of_row _ _ _ _ _ _ HZ4.out.br_]; rfl
                  have fr4 := frozen_of_row wz br 0 _ _ HZ4.out.br_
                  go_wp2_with fail
                  have hDr : D ≠ br := fun e => by have h5 := HD7.out; rw [e, HZ4.out.br_] at h5; cases h5
                  have kD : (wz.setCell ⟨br, 0, none⟩ (.bool true)).heap[D]? = some (.deferred (some [])) := (heap_setCell_other _ _ _ _ hDr).trans HD7.out
                  refine ⟨by simp, .inl ⟨_, _, rfl, run_takeDeferred kD, ?_⟩⟩
                  have hr0 : ((wz.setCell ⟨br, 0, none⟩ (.bool true)).putObj D (.deferred none)).heap[br]? = some (.cells #[.bool true] 4 (0, 0)) := (World.putObj_heap_other (fun e => hDr e.symm)).trans (heap_setCell_same wz br 0 _ _ _ HZ4.out.br_)
                  refine ⟨_, results_bool_at rfl _ _ br (.bool true) rfl (by rw [cell_of_row _ _ _ _ _ _ hr0]; rfl), rfl, ?_⟩
                  exact grown_at (grown_at HZ4.out.low (grown_set wz br 0 _) HZ4.out.ge) (grownBy_putObj' _ D (.deferred none)) HDw.out
                · have d2 : decide (most < 0) = false := by simpa using hm0
                  clear hm0
                  have HTb := Lib.hid HT.out.tables
                  go_wp2_with fail
                  clear cm cr cb fb ck
                  refine HTb.out.mono ?_
                  rintro e wt ⟨rfl, gt⟩
                  have HT2 := Lib.hid (HT.out.grow gt)
                  have HD2 := Lib.hid ((gt.block D (Array.getElem?_eq_some_iff.1 HKD.out).1 (by simp)).trans HKD.out)
                  have HFr := Lib.hid HT2.out.free
                  obtain ⟨n0, n1⟩ := HBn.out
                  obtain ⟨NT, hNT⟩ : ∃ NT, s.N = NT := ⟨_, rfl⟩
                  rw [hNT] at HFr n0 n1
                  rw [hNT]
                  have HNT := Lib.hid hNT
                  have e1 : 128 - (128 - NT) = NT := by omega
                  clear gt hNT HTb
                  go_wp2_with fail
                  refine HFr.out.mono ?_
                  rintro e wu ⟨rfl, gu⟩
                  have hcl := (HT2.out.grow gu).close
                  rw [HNT.out] at hcl
                  have HCl := Lib.hid hcl
                  have HD3 := Lib.hid ((gu.block D (Array.getElem?_eq_some_iff.1 HD2.out).1 (by simp)).trans HD2.out)
                  clear gu hcl HFr
                  go_wp2_with fail
                  refine HCl.out.mono ?_
                  rintro e wv ⟨rfl, z1, kf⟩
                  have HZ1 := Lib.hid z1
                  have HD4 := Lib.hid (kf.same D _ (Nat.zero_le _) HD3.out rfl)
                  have HF2 := Lib.hid z1.free
                  clear z1 kf HCl
                  go_wp2_with fail
                  refine HF2.out.mono ?_
                  rintro e wx ⟨rfl, gx⟩
                  have HZ2 := Lib.hid (HZ1.out.grow gx)
                  have HD5 := Lib.hid ((gx.block D (Array.getElem?_eq_some_iff.1 HD4.out).1 (by simp)).trans HD4.out)
                  have HRt := Lib.hid HZ2.out.root
                  clear gx HF2
                  go_wp2_with fail
                  refine HRt.out.mono ?_
                  rintro e wy ⟨rfl, gy⟩
                  have HZ3 := Lib.hid (HZ2.out.grow gy)
                  have HD6 := Lib.hid ((gy.block D (Array.getElem?_eq_some_iff.1 HD5.out).1 (by simp)).trans HD5.out)
                  clear gy HRt
                  go_wp2_with fail
                  refine (HL.out _).mono ?_
                  rintro e wz ⟨rfl, gz⟩
                  have HZ4 := Lib.hid (HZ3.out.grow gz)
                  have HD7 := Lib.hid ((gz.block D (Array.getElem?_eq_some_iff.1 HD6.out).1 (by simp)).trans HD6.out)
                  clear gz
                  have cr4 : wz.cell? ⟨br, 0, none⟩ = some (.bool false) := by rw [cell_of_row _ _ _ _ _ _ HZ4.out.br_]; rfl
                  have fr4 := frozen_of_row wz br 0 _ _ HZ4.out.br_
                  go_wp2_with fail
                  have hDr : D ≠ br := fun e => by have h5 := HD7.out; rw [e, HZ4.out.br_] at h5; cases h5
                  have kD : (wz.setCell ⟨br, 0, none⟩ (.bool true)).heap[D]? = some (.deferred (some [])) := (heap_setCell_other _ _ _ _ hDr).trans HD7.out
                  refine ⟨by simp, .inl ⟨_, _, rfl, run_takeDeferred kD, ?_⟩⟩
                  have hr0 : ((wz.setCell ⟨br, 0, none⟩ (.bool true)).putObj D (.deferred none)).heap[br]? = some (.cells #[.bool true] 4 (0, 0)) := (World.putObj_heap_other (fun e => hDr e.symm)).trans (heap_setCell_same wz br 0 _ _ _ HZ4.out.br_)
                  refine ⟨_, results_bool_at rfl _ _ br (.bool true) rfl (by rw [cell_of_row _ _ _ _ _ _ hr0]; rfl), rfl, ?_⟩
                  exact grown_at (grown_at HZ4.out.low (grown_set wz br 0 _) HZ4.out.ge) (grownBy_putObj' _ D (.deferred none)) HDw.out
              case stop =>
                rintro D cx pre W hD hpre hx hK
                rcases hx with ⟨rfl, hx⟩ | ⟨rfl, hg, k, hkm, hn⟩
                · exact absurd (by have h5 := hpre.map LeafV.v; rw [HZS.out] at h5; exact h5) hx
                · have d2 : decide (most < 0) = false := by simp; omega
                  have HT := Lib.hid (HOt.out W hg)
                  obtain ⟨cm, cr, cb, fb⟩ := HT.out.cells
                  have ck : W.cell? ⟨bk, 0, none⟩ = some (.int .i64 (k : Int)) := by rw [cell_of_row _ _ _ _ _ _ hn]; rfl
                  have HKD := Lib.hid hK
                  have HDw := Lib.hid (Nat.le_trans HLw.out hD)
                  have HBn := Lib.hid HT.out.bounds
                  clear hg hn hpre hK HSQ HOt HBk
                  refine wpIn_exit ?_
                  have HTb := Lib.hid HT.out.tables
                  go_wp2_with fail
                  clear cm cr cb fb ck
                  refine HTb.out.mono ?_
                  rintro e wt ⟨rfl, gt⟩
                  have HT2 := Lib.hid (HT.out.grow gt)
                  have HD2 := Lib.hid ((gt.block D (Array.getElem?_eq_some_iff.1 HKD.out).1 (by simp)).trans HKD.out)
                  have HFr := Lib.hid HT2.out.free
                  obtain ⟨n0, n1⟩ := HBn.out
                  obtain ⟨NT, hNT⟩ : ∃ NT, s.N = NT := ⟨_, rfl⟩
                  rw [hNT] at HFr n0 n1
                  rw [hNT]
                  have HNT := Lib.hid hNT
                  have e1 : 128 - (128 - NT) = NT := by omega
                  clear gt hNT HTb
                  go_wp2_with fail
                  refine HFr.out.mono ?_
                  rintro e wu ⟨rfl, gu⟩
                  have hcl := (HT2.out.grow gu).close
                  rw [HNT.out] at hcl
                  have HCl := Lib.hid hcl
                  have HD3 := Lib.hid ((gu.block D (Array.getElem?_eq_some_iff.1 HD2.out).1 (by simp)).trans HD2.out)
                  clear gu hcl HFr
                  go_wp2_with fail
                  refine HCl.out.mono ?_
                  rintro e wv ⟨rfl, z1, kf⟩
                  have HZ1 := Lib.hid z1
                  have HD4 := Lib.hid (kf.same D _ (Nat.zero_le _) HD3.out rfl)
                  have HF2 := Lib.hid z1.free
                  clear z1 kf HCl
                  go_wp2_with fail
                  refine HF2.out.mono ?_
                  rintro e wx ⟨rfl, gx⟩
                  have HZ2 := Lib.hid (HZ1.out.grow gx)
                  have HD5 := Lib.hid ((gx.block D (Array.getElem?_eq_some_iff.1 HD4.out).1 (by simp)).trans HD4.out)
                  have HRt := Lib.hid HZ2.out.root
                  clear gx HF2
                  go_wp2_with fail
                  refine HRt.out.mono ?_
                  rintro e wy ⟨rfl, gy⟩
                  have HZ3 := Lib.hid (HZ2.out.grow gy)
                  have HD6 := Lib.hid ((gy.block D (Array.getElem?_eq_some_iff.1 HD5.out).1 (by simp)).trans HD5.out)
                  clear gy HRt
                  go_wp2_with fail
                  refine (HL.out _).mono ?_
                  rintro e wz ⟨rfl, gz⟩
                  have HZ4 := Lib.hid (HZ3.out.grow gz)
                  have HD7 := Lib.hid ((gz.block D (Array.getElem?_eq_some_iff.1 HD6.out).1 (by simp)).trans HD6.out)
                  clear gz
                  have cr4 : wz.cell? ⟨br, 0, none⟩ = some (.bool false) := by rw [cell_of_row _ _ _ _ _ _ HZ4.out.br_]; rfl
                  have fr4 := frozen_of_row wz br 0 _ _ HZ4.out.br_
                  go_wp2_with fail
                  have hDr : D ≠ br := fun e => by have h5 := HD7.out; rw [e, HZ4.out.br_] at h5; cases h5
                  have kD : (wz.setCell ⟨br, 0, none⟩ (.bool true)).heap[D]? = some (.deferred (some [])) := (heap_setCell_other _ _ _ _ hDr).trans HD7.out
                  refine ⟨by simp, .inl ⟨_, _, rfl, run_takeDeferred kD, ?_⟩⟩
                  have hr0 : ((wz.setCell ⟨br, 0, none⟩ (.bool true)).putObj D (.deferred none)).heap[br]? = some (.cells #[.bool true] 4 (0, 0)) := (World.putObj_heap_other (fun e => hDr e.symm)).trans (heap_setCell_same wz br 0 _ _ _ HZ4.out.br_)
                  refine ⟨_, results_bool_at rfl _ _ br (.bool true) rfl (by rw [cell_of_row _ _ _ _ _ _ hr0]; rfl), rfl, ?_⟩
                  exact grown_at (grown_at HZ4.out.low (grown_set wz br 0 _) HZ4.out.ge) (grownBy_putObj' _ D (.deferred none)) HDw.out
            · have hpos : 0 < vs.length := List.length_pos_iff.2 h0
              obtain ⟨gs, hst, hcs2⟩ := hcs.resolve_left h0
              subst hst
              have dL : ((vs.length : Int) == 0) = false := by simp; omega
              obtain ⟨ix, hix⟩ : ∃ ix : Nat, vD % (vs.length : Int) = (ix : Int) := ⟨(vD % (vs.length : Int)).toNat, by have := Int.emod_nonneg vD (show (vs.length : Int) ≠ 0 by omega); omega⟩
              have hixL : ix < vs.length := by have := Int.emod_lt_of_pos vD (show (0 : Int) < vs.length by omega); omega
              obtain ⟨NN, hNN⟩ : ∃ NN, vs[ix]? = some NN := ⟨_, List.getElem?_eq_getElem hixL⟩
              have hcN := hcs2 ix NN hNN
              have HNN := Lib.hid (List.mem_of_getElem? hNN)
              have q1 : (vs.length : Int) ≤ 9223372036854775807 := by have := HJ.out.len; omega
              have q2 : 0 ≤ vD % (vs.length : Int) := by omega
              have q3 : vD % (vs.length : Int) ≤ 9223372036854775807 := by omega
              clear hvj hcv hcs hcs2 hNN h0
              go_wp2_with fail
              go_quiet (fail)
              have hJd := HJ.out.grow (grown_drewN wr nq none)
              have hok := ((HJ.out.mem NN).1 HNN.out).1
              have hR := hJd.mid.remove NN hok
              rw [decide_eq_true HNN.out] at hR
              have HRm := Lib.hid hR
              have HOk := Lib.hid hok
              have HRs := Lib.hid (withoutL_rise (n := NN) HJ.out.rise)
              have HLn := Lib.hid (show (withoutL vs NN).length ≤ j from Nat.le_trans (withoutL_le vs NN) HJ.out.len)
              have HLv := Lib.hid HJ.out.len
              have HGe := Lib.hid HJ.out.ge
              clear c0 cm cr cb fb hcN hJd hok hR
              go_wp2_with fail
              refine HRm.out.mono ?_
              rintro e w4 ⟨rfl, s1, k1⟩
              have hR2 := k1.remove NN HOk.out
              rw [decide_eq_false (fun h => (withoutL_mem.1 h).1 rfl), without_again] at hR2
              have HR2 := Lib.hid hR2
              clear k1 hR2 HRm
              go_wp2_with fail
              refine HR2.out.mono ?_
              rintro e w5 ⟨rfl, s2, k2⟩
              have HWo := Lib.hid (without_walk k2.t (by have := HLv.out; omega) NN)
              have cb5 : w5.cell? ⟨bi, 0, none⟩ = some (.slice (some ⟨gs, 0, none⟩) vs.length ct) := by rw [cell_of_row _ _ _ _ _ _ k2.bi_]; rfl
              have HK2 := Lib.hid k2
              clear k2 HR2
              go_wp2_with fail
              refine HWo.out.mono ?_
              rintro e w6 ⟨v', rfl, h6, q6⟩
              have hb6 := (q6.block bi (Array.getElem?_eq_some_iff.1 HK2.out.bi_).1 (by simp)).trans HK2.out.bi_
              have cb6 : w6.cell? ⟨bi, 0, none⟩ = some (.slice (some ⟨gs, 0, none⟩) vs.length ct) := by rw [cell_of_row _ _ _ _ _ _ hb6]; rfl
              have fb6 := frozen_of_row w6 bi 0 _ _ hb6
              have HW := Lib.hid (HK2.out.next HGe.out HRs.out HLn.out h6 q6)
              obtain ⟨s6, c6, hv6, -⟩ := h6.form
              subst hv6
              clear hb6 h6 q6 cb5 HWo
              go_wp2_with fail
              go_roundg (ld - (q + 1))
              case rel => exact ⟨q + 1, s2, _, withoutL vs NN, rfl, by omega, by go_num, HW⟩
              case measure => omega
          · obtain rfl : q = ld := by omega
            clear HDs HV
            obtain ⟨st, ct, htv, hcs⟩ := HJ.out.t.form
            subst htv
            obtain ⟨cm, cr, cb, fb⟩ := HJ.out.cells
            have hsp := HJ.out.sp
            obtain ⟨OQ, OXQ, hPX, hPB⟩ := hsp
            obtain ⟨_, hcan, MQ, hag, hqx⟩ := hPX.qx
            have hrr := HJ.out.inv.inv.ok.lt HJ.out.inv.inv.root
            have HAll := Lib.hid (sp_all hqx ⟨by omega, by omega⟩)
            have hzs := tells_eq HJ.out.inv.inv hag HJ.out.rise HJ.out.mem
            obtain ⟨zs, hZ⟩ : ∃ zs, allL 128 MQ 2 r 0 = zs := ⟨_, rfl⟩
            rw [hZ] at hzs
            have HZS := Lib.hid hzs
            have HZ := Lib.hid hZ
            clear hPX hPB hcan hag hqx hrr hzs hZ
            go_wp2_with fail
            clear cm cr cb fb
            refine HAll.out.mono ?_
            rintro e w4 ⟨Lb, Ba, vb, F, rfl, hLb, hBa, hF, hSub, hF0, g4⟩
            have hq := eql_it_nil
            have H4 := Lib.hid (HJ.out.grow g4)
            have HI4 := Lib.hid (And.intro hLb (And.intro hBa (And.intro hF (And.intro hSub hF0))))
            clear hLb hBa hF hSub hF0 g4 HAll
            go_wp2_with fail
            have ga := World.grownBy_alloc w4 (.cells #[.int .i64 0] 3) none
            obtain ⟨hLb, hBa, hF, hSub, hF0⟩ := HI4.out
            have hsz9 : (w4.alloc (.cells #[.int .i64 0] 3)).heap.size = w4.heap.size + 1 := by simp
            have hLb9 : (w4.alloc (.cells #[.int .i64 0] 3)).cell? ⟨Lb, 0, none⟩ = some (.func (.func 69) #[] #[.pointer (some ⟨Ba, 0, none⟩)]) := by rw [cell_of_row _ _ _ _ _ _ ((ga.block Lb (Array.getElem?_eq_some_iff.1 hLb).1 (by simp)).trans hLb)]; rfl
            have HSQ := Lib.hid (all2_stops 8 128 MQ F r vb Ba Lb [w4.heap.size] (w4.alloc (.cells #[.int .i64 0] 3)) zs HZ.out ((ga.block Ba (Array.getElem?_eq_some_iff.1 hBa).1 (by simp)).trans hBa) (stands_grow hF ga) hSub (fun b o hb hm => by have := hF.lt hb; simp at hm; omega) (fun k hk => by simp at hk; omega) hLb9)
            have HOt := Lib.hid (fun W (g : (w4.alloc (.cells #[.int .i64 0] 3)).grownBy W (some w4.heap.size)) => TW.other H4.out (Nat.le_refl _) rfl rfl g)
            have hbk : (w4.alloc (.cells #[.int .i64 0] 3)).heap[w4.heap.size]? = some (.cells #[.int .i64 0] 3 (0, 0)) := heap_alloc_new w4 _
            have HBk := Lib.hid hbk
            have HS9 := Lib.hid hsz9
            have HLw := Lib.hid (Nat.le_trans H4.out.low.size ga.size)
            clear ga hLb hBa hF hSub hF0 hLb9 hbk hsz9 HI4 hq
            generalize w4.alloc (.cells #[.int .i64 0] 3) = w9 at *
            generalize w4.heap.size = bk at *
            refine (wpIn_wide (n := 9)).1 ?_
            refine wpIn_range7 rfl (by omega) (gf := 42) (lb := #[.pointer (some ⟨Lb, 0, none⟩)]) rfl trivial (enters_of Try.func42 (by kernel_rfl) rfl)
              HSQ.out (fun h k => kpX_t h k) (fun _ lo o o' _ hl ho _ => kpX_b _ lo o o' hl ho) (Below.refl _ _) (fun _ => rfl)
              (fun (pre : List LeafV) W => (w9.grownBy W (some bk) ∧ W.heap[bk]? = some (.cells #[.int .i64 (pre.length : Int)] 3 (0, 0))) ∧ pre.map LeafV.v <+: vs)
              (fun cx (pre : List LeafV) W => (cx = .ret ∧ ¬ pre.map LeafV.v <+: vs) ∨ (cx = .exit 4 ∧ w9.grownBy W (some bk) ∧ ∃ k : Nat, (k : Int) = most ∧ W.heap[bk]? = some (.cells #[.int .i64 (k : Int)] 3 (0, 0))))
              (fun s A B row hs hg hr => ⟨⟨row_grow hs.1.1 hg (fun r e => (hr r e).1), (hg.block bk (Array.getElem?_eq_some_iff.1 hs.1.2).1 (fun e => by have := (hr bk e.symm).1; have := HS9.out; omega)).trans hs.1.2⟩, hs.2⟩)
              (fun cx s A B row hs hg hr => by
                rcases hs with hs | ⟨h1, h2, k, h3, h4⟩
                · exact .inl hs
                · exact .inr ⟨h1, row_grow h2 hg (fun r e => (hr r e).1), k, h3, (hg.block bk (Array.getElem?_eq_some_iff.1 h4).1 (fun e => by have := (hr bk e.symm).1; have := HS9.out; omega)).trans h4⟩)
              ⟨⟨grown_refl _ _, HBk.out⟩, by simp⟩
              (fun (x' : LeafV) a' W => a' = { tmps := #[Value.slice sv j cc, Value.slice sd q cd, Value.int IntKind.i64 most, undef, undef, Value.pointer (some { block := bm, off := 0 }), Value.pointer (some { block := br, off := 0 }), Value.pointer (some { block := m, off := 0 }), Value.pointer (some { block := p, off := 0 }), Value.pointer (some { block := x, off := 0 }), Value.int IntKind.i64 0, Value.pointer (some { block := bi, off := 0 }), undef, u13, u14, undef, u16, u17, Value.func (Fn.func 42) #[] #[Value.pointer (some { block := Lb, off := 0 })], Value.pointer (some { block := bk, off := 0 }), .int .i64 x'.v, undef, Value.slice sv j cc, Value.int IntKind.i64 ↑j, Value.bool false, Value.bool false, Value.slice sd q cd, Value.int IntKind.i64 ↑q, Value.bool false, Value.bool false, undef, Value.pointer (some { block := m, off := 0 }), Value.pointer (some { block := p, off := 0 }), Value.tuple #[Value.pointer (some { block := x, off := 0 }), Value.int IntKind.i64 0], Value.pointer (some { block := m, off := 0 }), Value.pointer (some { block := p, off := 0 }), Value.tuple #[Value.pointer (some { block := x, off := 0 }), Value.int IntKind.i64 0], Value.pointer (some { block := x, off := 0 }), Value.int IntKind.i64 0, Value.int IntKind.i64 0, Value.bool false, Value.slice sv j cc, Value.int IntKind.i64 ↑j, Value.int IntKind.i64 ↑j, Value.bool false, u45, u46, u47, u48, u49, u50, u51, u52, u53, u54, u55, u56, u57, u58, u59, u60, u61, u62, u63, u64, u65, u66, u67, u68, u69, u70, u71, u72, Value.slice sd q cd, Value.int IntKind.i64 ↑q, Value.int IntKind.i64 ↑q, Value.bool false, u77, u78, u79, u80, u81, u82, u83, u84, u85, u86, u87, u88, u89, u90, u91, u92, u93, u94, u95, u96, u97, u98, u99, u100, u101, u102, u103, Value.pointer (some { block := x, off := 0 }), Value.func (Fn.func 42) #[] #[Value.pointer (some { block := Lb, off := 0 })], Value.func (Fn.func 42) #[] #[Value.pointer (some { block := Lb, off := 0 })], Value.bool false, Value.func (Fn.func 42) #[] #[Value.pointer (some { block := Lb, off := 0 })], .int .i64 x'.v, .agg #[.int .i64 x'.fl, .int .i64 x'.pp], undef, undef, undef, undef, undef, undef, undef, undef, undef, undef, undef, undef, undef, undef, undef, undef, undef, undef, undef, undef, undef, undef, undef, undef, undef, undef, undef, undef, undef, undef, undef, undef, undef, undef, undef, undef, undef, undef, undef, undef, undef, undef, undef, undef, undef, undef, undef, undef, undef, undef, undef], defers := [] })
              (fun _ _ _ _ _ _ hs _ _ => hs) ?assign ?body ?done ?stop
            case assign =>
              rintro lp pre x' W K hI hK
              gi_wp2
              exact hK _ W (KeepsFrom.refl _ _) (fun _ _ _ _ _ h => h) hI rfl
            case body =>
              rintro lp pre x' a' W ⟨⟨hg, hn⟩, hp⟩ rfl hlt
              have hzl : zs.length = vs.length := by have h5 := congrArg List.length HZS.out; rw [List.length_map] at h5; exact h5
              have hpl : pre.length < vs.length := by omega
              have HT := Lib.hid (HOt.out W hg)
              obtain ⟨cm, cr, cb, fb⟩ := HT.out.cells
              have ck : W.cell? ⟨bk, 0, none⟩ = some (.int .i64 (pre.length : Int)) := by rw [cell_of_row _ _ _ _ _ _ hn]; rfl
              have fk := frozen_of_row W bk 0 _ _ hn
              have fr := frozen_of_row W br 0 _ _ HT.out.br_
              obtain ⟨st2, ct2, htv2, hcs2⟩ := HT.out.t.form
              injection htv2 with e1 e2 e3
              obtain ⟨gs, hst, hcs3⟩ := hcs2.resolve_left (fun h => by rw [h] at hpl; simp at hpl)
              rw [hst] at e1
              obtain ⟨y, hy⟩ : ∃ y, vs[pre.length]? = some y := ⟨_, List.getElem?_eq_getElem hpl⟩
              have cy := hcs3 _ y hy
              have hnx := next_int (y := y) hp (by rw [List.length_map]; exact hy) x'.v
              have HG := Lib.hid hg
              have HN := Lib.hid hn
              have HNx := Lib.hid hnx
              have HKs := Lib.hid (fun v => (KeepsOthers.setCell W ⟨bk, 0, none⟩ v).from w9.heap.size)
              have HKr := Lib.hid (fun v => (KeepsOthers.setCell W ⟨br, 0, none⟩ v).from w9.heap.size)
              subst e1
              have hln : pre.length < 1000 := by have := HT.out.len; omega
              clear hg hn hp hcs2 hcs3 hst hy hnx hzl e2 e3
              by_cases hm : (pre.length : Int) = most
              · have hmb : ((pre.length : Int) == most) = true := by simpa using hm
                have HM := Lib.hid hm
                clear hm
                gi_wp2_with fail
                exact ⟨KeepsFrom.refl _ _, .inr ⟨rfl, HG.out, pre.length, HM.out, HN.out⟩⟩
              · have hmb : ((pre.length : Int) == most) = false := by simpa using hm
                have dge : decide ((pre.length : Int) ≥ (vs.length : Int)) = false := by simp; omega
                have dge2 : decide (vs.length ≤ pre.length) = false := by simp; omega
                clear hm
                by_cases hyx : y = x'.v
                · have hb : (y != x'.v) = false := by simp [hyx]
                  have HP := Lib.hid (HNx.out.1 hyx)
                  clear hyx
                  gi_wp2_with fail
                  refine ⟨HKs.out _, fun k cs t fr hk hc => ?_, ⟨⟨?_, ?_⟩, ?_⟩⟩
                  · have hk2 : k ≠ bk := by simpa using hk
                    exact (heap_setCell_other _ _ _ _ hk2).trans hc
                  · exact ⟨HG.out.os, HG.out.tape, HG.out.output, Nat.le_trans HG.out.size (grown_set W bk 0 _).size, fun k hk hx => (heap_setCell_other _ _ _ _ (fun e => hx (by rw [show k = bk from e]))).trans (HG.out.block k hk hx)⟩
                  · rw [List.length_append, List.length_singleton, show ((pre.length + 1 : Nat) : Int) = (pre.length : Int) + 1 by omega]
                    exact heap_setCell_same W bk 0 _ _ _ HN.out
                  · rw [List.map_append]
                    exact HP.out
                · have hb : (y != x'.v) = true := by simp [hyx]
                  have HP := Lib.hid (HNx.out.2 hyx)
                  clear hyx
                  gi_wp2_with fail
                  refine ⟨HKr.out _, .inl ⟨rfl, ?_⟩⟩
                  rw [List.map_append]
                  exact HP.out
            case done =>
              rintro D ys W hD hys ⟨⟨hg, hn⟩, hp⟩ hK
              have hlen : ys.length = vs.length := by have h5 := congrArg List.length HZS.out; rw [List.length_map] at h5; rw [hys]; exact h5
              rw [hlen] at hn
              have HT := Lib.hid (HOt.out W hg)
              obtain ⟨cm, cr, cb, fb⟩ := HT.out.cells
              have ck : W.cell? ⟨bk, 0, none⟩ = some (.int .i64 (vs.length : Int)) := by rw [cell_of_row _ _ _ _ _ _ hn]; rfl
              have HKD := Lib.hid hK
              have HDw := Lib.hid (Nat.le_trans HLw.out hD)
              have HBn := Lib.hid HT.out.bounds
              have d3 : ((vs.length : Int) != (vs.length : Int)) = false := by simp
              clear hg hn hp hK hys hlen HSQ HOt HBk
              by_cases hm0 : most < 0
              · have d2 : decide (most < 0) = true := by simpa using hm0
                clear hm0
                have HTb := Lib.hid HT.out.tables
                go_wp2_with fail
                clear cm cr cb fb ck
                refine HTb.out.mono ?_
                rintro e wt ⟨rfl, gt⟩
                have HT2 := Lib.hid (HT.out.grow gt)
                have HD2 := Lib.hid ((gt.block D (Array.getElem?_eq_some_iff.1 HKD.out).1 (by simp)).trans HKD.out)
                have HFr := Lib.hid HT2.out.free
                obtain ⟨n0, n1⟩ := HBn.out
                obtain ⟨NT, hNT⟩ : ∃ NT, s.N = NT := ⟨_, rfl⟩
                rw [hNT] at HFr n0 n1
                rw [hNT]
                have HNT := Lib.hid hNT
                have e1 : 128 - (128 - NT) = NT := by omega
                clear gt hNT HTb
                go_wp2_with fail
                refine HFr.out.mono ?_
                rintro e wu ⟨rfl, gu⟩
                have hcl := (HT2.out.grow gu).close
                rw [HNT.out] at hcl
                have HCl := Lib.hid hcl
                have HD3 := Lib.hid ((gu.block D (Array.getElem?_eq_some_iff.1 HD2.out).1 (by simp)).trans HD2.out)
                clear gu hcl HFr
                go_wp2_with fail
                refine HCl.out.mono ?_
                rintro e wv ⟨rfl, z1, kf⟩
                have HZ1 := Lib.hid z1
                have HD4 := Lib.hid (kf.same D _ (Nat.zero_le _) HD3.out rfl)
                have HF2 := Lib.hid z1.free
                clear z1 kf HCl
                go_wp2_with fail
                refine HF2.out.mono ?_
                rintro e wx ⟨rfl, gx⟩
                have HZ2 := Lib.hid (HZ1.out.grow gx)
                have HD5 := Lib.hid ((gx.block D (Array.getElem?_eq_some_iff.1 HD4.out).1 (by simp)).trans HD4.out)
                have HRt := Lib.hid HZ2.out.root
                clear gx HF2
                go_wp2_with fail
                refine HRt.out.mono ?_
                rintro e wy ⟨rfl, gy⟩
                have HZ3 := Lib.hid (HZ2.out.grow gy)
                have HD6 := Lib.hid ((gy.block D (Array.getElem?_eq_some_iff.1 HD5.out).1 (by simp)).trans HD5.out)
                clear gy HRt
                go_wp2_with fail
                refine (HL.out _).mono ?_
                rintro e wz ⟨rfl, gz⟩
                have HZ4 := Lib.hid (HZ3.out.grow gz)
                have HD7 := Lib.hid ((gz.block D (Array.getElem?_eq_some_iff.1 HD6.out).1 (by simp)).trans HD6.out)
                clear gz
                have cr4 : wz.cell? ⟨br, 0, none⟩ = some (.bool false) := by rw [cell_of_row _ _ _ _ _ _ HZ4.out.br_]; rfl
                have fr4 := frozen_of_row wz br 0 _ _ HZ4.out.br_
                go_wp2_with fail
                have hDr : D ≠ br := fun e => by have h5 := HD7.out; rw [e, HZ4.out.br_] at h5; cases h5
                have kD : (wz.setCell ⟨br, 0, none⟩ (.bool true)).heap[D]? = some (.deferred (some [])) := (heap_setCell_other _ _ _ _ hDr).trans HD7.out
                refine ⟨by simp, .inl ⟨_, _, rfl, run_takeDeferred kD, ?_⟩⟩
                have hr0 : ((wz.setCell ⟨br, 0, none⟩ (.bool true)).putObj D (.deferred none)).heap[br]? = some (.cells #[.bool true] 4 (0, 0)) := (World.putObj_heap_other (fun e => hDr e.symm)).trans (heap_setCell_same wz br 0 _ _ _ HZ4.out.br_)
                refine ⟨_, results_bool_at rfl _ _ br (.bool true) rfl (by rw [cell_of_row _ _ _ _ _ _ hr0]; rfl), rfl, ?_⟩
                exact grown_at (grown_at HZ4.out.low (grown_set wz br 0 _) HZ4.out.ge) (grownBy_putObj' _ D (.deferred none)) HDw.out
              · have d2 : decide (most < 0) = false := by simpa using hm0
                clear hm0
                have HTb := Lib.hid HT.out.tables
                go_wp2_with fail
                clear cm cr cb fb ck
                refine HTb.out.mono ?_
                rintro e wt ⟨rfl, gt⟩
                have HT2 := Lib.hid (HT.out.grow gt)
                have HD2 := Lib.hid ((gt.block D (Array.getElem?_eq_some_iff.1 HKD.out).1 (by simp)).trans HKD.out)
                have HFr := Lib.hid HT2.out.free
                obtain ⟨n0, n1⟩ := HBn.out
                obtain ⟨NT, hNT⟩ : ∃ NT, s.N = NT := ⟨_, rfl⟩
                rw [hNT] at HFr n0 n1
                rw [hNT]
                have HNT := Lib.hid hNT
                have e1 : 128 - (128 - NT) = NT := by omega
                clear gt hNT HTb
                go_wp2_with fail
                refine HFr.out.mono ?_
                rintro e wu ⟨rfl, gu⟩
                have hcl := (HT2.out.grow gu).close
                rw [HNT.out] at hcl
                have HCl := Lib.hid hcl
                have HD3 := Lib.hid ((gu.block D (Array.getElem?_eq_some_iff.1 HD2.out).1 (by simp)).trans HD2.out)
                clear gu hcl HFr
                go_wp2_with fail
                refine HCl.out.mono ?_
                rintro e wv ⟨rfl, z1, kf⟩
                have HZ1 := Lib.hid z1
                have HD4 := Lib.hid (kf.same D _ (Nat.zero_le _) HD3.out rfl)
                have HF2 := Lib.hid z1.free
                clear z1 kf HCl
                go_wp2_with fail
                refine HF2.out.mono ?_
                rintro e wx ⟨rfl, gx⟩
                have HZ2 := Lib.hid (HZ1.out.grow gx)
                have HD5 := Lib.hid ((gx.block D (Array.getElem?_eq_some_iff.1 HD4.out).1 (by simp)).trans HD4.out)
                have HRt := Lib.hid HZ2.out.root
                clear gx HF2
                go_wp2_with fail
                refine HRt.out.mono ?_
                rintro e wy ⟨rfl, gy⟩
                have HZ3 := Lib.hid (HZ2.out.grow gy)
                have HD6 := Lib.hid ((gy.block D (Array.getElem?_eq_some_iff.1 HD5.out).1 (by simp)).trans HD5.out)
                clear gy HRt
                go_wp2_with fail
                refine (HL.out _).mono ?_
                rintro e wz ⟨rfl, gz⟩
                have HZ4 := Lib.hid (HZ3.out.grow gz)
                have HD7 := Lib.hid ((gz.block D (Array.getElem?_eq_some_iff.1 HD6.out).1 (by simp)).trans HD6.out)
                clear gz
                have cr4 : wz.cell? ⟨br, 0, none⟩ = some (.bool false) := by rw [cell_of_row _ _ _ _ _ _ HZ4.out.br_]; rfl
                have fr4 := frozen_of_row wz br 0 _ _ HZ4.out.br_
                go_wp2_with fail
                have hDr : D ≠ br := fun e => by have h5 := HD7.out; rw [e, HZ4.out.br_] at h5; cases h5
                have kD : (wz.setCell ⟨br, 0, none⟩ (.bool true)).heap[D]? = some (.deferred (some [])) := (heap_setCell_other _ _ _ _ hDr).trans HD7.out
                refine ⟨by simp, .inl ⟨_, _, rfl, run_takeDeferred kD, ?_⟩⟩
                have hr0 : ((wz.setCell ⟨br, 0, none⟩ (.bool true)).putObj D (.deferred none)).heap[br]? = some (.cells #[.bool true] 4 (0, 0)) := (World.putObj_heap_other (fun e => hDr e.symm)).trans (heap_setCell_same wz br 0 _ _ _ HZ4.out.br_)
                refine ⟨_, results_bool_at rfl _ _ br (.bool true) rfl (by rw [cell_of_row _ _ _ _ _ _ hr0]; rfl), rfl, ?_⟩
                exact grown_at (grown_at HZ4.out.low (grown_set wz br 0 _) HZ4.out.ge) (grownBy_putObj' _ D (.deferred none)) HDw.out
            case stop =>
              rintro D cx pre W hD hpre hx hK
              rcases hx with ⟨rfl, hx⟩ | ⟨rfl, hg, k, hkm, hn⟩
              · exact absurd (by have h5 := hpre.map LeafV.v; rw [HZS.out] at h5; exact h5) hx
              · have d2 : decide (most < 0) = false := by simp; omega
                have HT := Lib.hid (HOt.out W hg)
                obtain ⟨cm, cr, cb, fb⟩ := HT.out.cells
                have ck : W.cell? ⟨bk, 0, none⟩ = some (.int .i64 (k : Int)) := by rw [cell_of_row _ _ _ _ _ _ hn]; rfl
                have HKD := Lib.hid hK
                have HDw := Lib.hid (Nat.le_trans HLw.out hD)
                have HBn := Lib.hid HT.out.bounds
                clear hg hn hpre hK HSQ HOt HBk
                refine wpIn_exit ?_
                have HTb := Lib.hid HT.out.tables
                go_wp2_with fail
                clear cm cr cb fb ck
                refine HTb.out.mono ?_
                rintro e wt ⟨rfl, gt⟩
                have HT2 := Lib.hid (HT.out.grow gt)
                have HD2 := Lib.hid ((gt.block D (Array.getElem?_eq_some_iff.1 HKD.out).1 (by simp)).trans HKD.out)
                have HFr := Lib.hid HT2.out.free
                obtain ⟨n0, n1⟩ := HBn.out
                obtain ⟨NT, hNT⟩ : ∃ NT, s.N = NT := ⟨_, rfl⟩
                rw [hNT] at HFr n0 n1
                rw [hNT]
                have HNT := Lib.hid hNT
                have e1 : 128 - (128 - NT) = NT := by omega
                clear gt hNT HTb
                go_wp2_with fail
                refine HFr.out.mono ?_
                rintro e wu ⟨rfl, gu⟩
                have hcl := (HT2.out.grow gu).close
                rw [HNT.out] at hcl
                have HCl := Lib.hid hcl
                have HD3 := Lib.hid ((gu.block D (Array.getElem?_eq_some_iff.1 HD2.out).1 (by simp)).trans HD2.out)
                clear gu hcl HFr
                go_wp2_with fail
                refine HCl.out.mono ?_
                rintro e wv ⟨rfl, z1, kf⟩
                have HZ1 := Lib.hid z1
                have HD4 := Lib.hid (kf.same D _ (Nat.zero_le _) HD3.out rfl)
                have HF2 := Lib.hid z1.free
                clear z1 kf HCl
                go_wp2_with fail
                refine HF2.out.mono ?_
                rintro e wx ⟨rfl, gx⟩
                have HZ2 := Lib.hid (HZ1.out.grow gx)
                have HD5 := Lib.hid ((gx.block D (Array.getElem?_eq_some_iff.1 HD4.out).1 (by simp)).trans HD4.out)
                have HRt := Lib.hid HZ2.out.root
                clear gx HF2
                go_wp2_with fail
                refine HRt.out.mono ?_
                rintro e wy ⟨rfl, gy⟩
                have HZ3 := Lib.hid (HZ2.out.grow gy)
                have HD6 := Lib.hid ((gy.block D (Array.getElem?_eq_some_iff.1 HD5.out).1 (by simp)).trans HD5.out)
                clear gy HRt
                go_wp2_with fail
                refine (HL.out _).mono ?_
                rintro e wz ⟨rfl, gz⟩
                have HZ4 := Lib.hid (HZ3.out.grow gz)
                have HD7 := Lib.hid ((gz.block D (Array.getElem?_eq_some_iff.1 HD6.out).1 (by simp)).trans HD6.out)
                clear gz
                have cr4 : wz.cell? ⟨br, 0, none⟩ = some (.bool false) := by rw [cell_of_row _ _ _ _ _ _ HZ4.out.br_]; rfl
                have fr4 := frozen_of_row wz br 0 _ _ HZ4.out.br_
                go_wp2_with fail
                have hDr : D ≠ br := fun e => by have h5 := HD7.out; rw [e, HZ4.out.br_] at h5; cases h5
                have kD : (wz.setCell ⟨br, 0, none⟩ (.bool true)).heap[D]? = some (.deferred (some [])) := (heap_setCell_other _ _ _ _ hDr).trans HD7.out
                refine ⟨by simp, .inl ⟨_, _, rfl, run_takeDeferred kD, ?_⟩⟩
                have hr0 : ((wz.setCell ⟨br, 0, none⟩ (.bool true)).putObj D (.deferred none)).heap[br]? = some (.cells #[.bool true] 4 (0, 0)) := (World.putObj_heap_other (fun e => hDr e.symm)).trans (heap_setCell_same wz br 0 _ _ _ HZ4.out.br_)
                refine ⟨_, results_bool_at rfl _ _ br (.bool true) rfl (by rw [cell_of_row _ _ _ _ _ _ hr0]; rfl), rfl, ?_⟩
                exact grown_at (grown_at HZ4.out.low (grown_set wz br 0 _) HZ4.out.ge) (grownBy_putObj' _ D (.deferred none)) HDw.out
end Go.Proofs.Ytlieommbomjdaaa
