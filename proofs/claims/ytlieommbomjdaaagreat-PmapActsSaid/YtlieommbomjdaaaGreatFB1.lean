/- What a value of a type of structs, numbers and Booleans reads as, cell by cell; slices of such. Over any program. What has turned between two worlds; rows of values anywhere in memory. Over any program. Slices of values that are numbers alone, by their numbers. Over any program. Layer 6: frames, as plain lists: what each call answers and leaves. No program in it. The document's layer 6: New, Is, may, Count, Get, set. The document's layer 6: set, Take, Give, Own, Wire, Loan. The document's layer 6: Give, Own, Wire, Loan. What package frames must be shown to say of its pools (P: a pool by its reserve, its frames and its blocks); the example of the chapter; the law's act and like. -/
import Derived.Test.YtlieommbomjdaaaGreatPhysB1
import Derived.Test.YtlieommbomjdaaaGreatPteB1
import Derived.DataReads
import Derived.Laws.AppendOwnNone
import Derived.Maps.AppendAt
import Derived.Deep.AppendLies
import Derived.Laws.ResultCell
import Derived.Laws.StructEq
import Derived.Laws.Unary
import Derived.OwnWalk
import Derived.Test.YtlieommbomjdaaaGreatRows
import Derived.WalkKit
import Derived.ProofKit
import Derived.OpenShut
import Derived.WalkLawsBesides
import Derived.WalkSpells
import Derived.BigQuiet
import Derived.WalkArith
import Derived.Deep.QuietTactic
import Derived.Deep.DeepMust
import Derived.Outline
import Derived.Below
import Derived.Laws.MakeOwn
import Derived.Deep.RegionHeld3
namespace Go.Proofs.YtlieommbomjdaaaGreat
open Go.ChangeShapes Go.WideShapes Go.ChangeAt Go.RowKit
set_option linter.unusedVariables false

/-- What a cell may be. -/
inductive CK
  | int (q : IntKind)
  | bool
  | slice (t : TypeId)

section
variable {H : Type} {enc : TypeId × Value → H} {P : Program} {w : World} {base : Nat} {spare : Nat → Bool} {held : Bool}

def ckRun (P : Program) (rec : TypeId → Option (List CK)) : Nat → List Field → Option (List CK)
  | _, [] => some []
  | off, f :: fs => if f.offset = off then (match rec f.type with | some ks => if ks.length = P.cellsOf f.type then (ckRun P rec (off + ks.length) fs).map (ks ++ ·) else none | none => none) else none

/-- The kinds of a type's cells. -/
def ckOf (P : Program) : Nat → TypeId → Option (List CK)
  | 0, _ => none
  | d + 1, t => match P.underlying t with
    | some (.int q) => some [.int q]
    | some .bool => some [.bool]
    | some (.slice _) => some [.slice t]
    | some (.struct fs) => (match ckRun P (ckOf P d) 0 fs.toList with | some ks => if ks.length = P.cellsOf t then some ks else none | none => none)
    | _ => none

/-- A cell is of its kind. -/
def CKis (enc : TypeId × Value → H) (P : Program) (w : World) (base : Nat) (spare : Nat → Bool) (held : Bool) : CK → Value → Prop
  | .int q, v => ∃ z, v = .int q z ∧ (Lit.int q z).wf = true
  | .bool, v => ∃ b, v = .bool b
  | .slice t, v => ∃ fuel x, DataW.trod enc P w base spare held fuel t [v] = some x

theorem ck_run (rec : TypeId → Option (List CK)) (cs : List Value) (m : Nat) : ∀ (fs : List Field) (off : Nat) (ks : List CK), ckRun P rec off fs = some ks →
    (∀ f, f ∈ fs → ∃ x, DataW.trod enc P w base spare held m f.type ((cs.drop f.offset).take (P.cellsOf f.type)) = some x) →
    (∀ t ks' cs' x, rec t = some ks' → DataW.trod enc P w base spare held m t cs' = some x → ∀ (i : Nat) k v, ks'[i]? = some k → cs'[i]? = some v → CKis enc P w base spare held k v) →
    ∀ (i : Nat) k v, ks[i]? = some k → cs[off + i]? = some v → CKis enc P w base spare held k v := by
  intro fs
  induction fs with
  | nil =>
    intro off ks h _ _ i k v hk _
    simp [ckRun] at h
    subst h
    simp at hk
  | cons f fs ih =>
    intro off ks h hf hrec i k v hk hv
    unfold ckRun at h
    split at h
    · rename_i ho
      split at h
      · rename_i k1 hk1
        split at h
        · rename_i hlen
          obtain ⟨k2, h2, rfl⟩ := Option.map_eq_some_iff.1 h
          by_cases hi : i < k1.length
          · rw [List.getElem?_append_left hi] at hk
            obtain ⟨x, hx⟩ := hf f (by simp)
            refine hrec f.type k1 _ x hk1 hx i k v hk ?_
            rw [List.getElem?_take_of_lt (by omega), List.getElem?_drop, ho]
            exact hv
          · rw [List.getElem?_append_right (by omega)] at hk
            refine ih (off + k1.length) k2 h2 (fun f' hf' => hf f' (by simp [hf'])) hrec (i - k1.length) k v hk ?_
            have : off + k1.length + (i - k1.length) = off + i := by omega
            rw [this]
            exact hv
        · cases h
      · cases h
    · cases h

theorem ck_of_trod : ∀ (d : Nat) (t : TypeId) (ks : List CK) (cs : List Value) (fuel : Nat) (x : DataW H × List MemPlace), ckOf P d t = some ks → DataW.trod enc P w base spare held fuel t cs = some x →
    cs.length = ks.length ∧ ∀ (i : Nat) k v, ks[i]? = some k → cs[i]? = some v → CKis enc P w base spare held k v := by
  intro d
  induction d with
  | zero => intro t ks cs fuel x h; simp [ckOf] at h
  | succ d ih =>
    intro t ks cs fuel x h hx
    unfold ckOf at h
    split at h
    · rename_i q hu
      injection h with h
      subst h
      obtain ⟨z, rfl, _, hw⟩ := DataW.trod_int hu hx
      refine ⟨rfl, fun i k v hk hv => ?_⟩
      cases i with
      | zero => simp at hk hv; subst hk hv; exact ⟨z, rfl, hw⟩
      | succ i => simp at hk
    · rename_i hu
      injection h with h
      subst h
      obtain ⟨b, rfl, _⟩ := DataW.trod_bool hu hx
      refine ⟨rfl, fun i k v hk hv => ?_⟩
      cases i with
      | zero => simp at hk hv; subst hk hv; exact ⟨b, rfl⟩
      | succ i => simp at hk
    · rename_i e hu
      injection h with h
      subst h
      have hcs : ∃ v0, cs = [v0] := by
        rcases DataW.trod_slice hu hx with ⟨hcs, _⟩ | ⟨a, len, cap, elems, rest, m, _, hcs, _⟩
        · exact ⟨_, hcs⟩
        · exact ⟨_, hcs⟩
      obtain ⟨v0, rfl⟩ := hcs
      refine ⟨rfl, fun i k v hk hv => ?_⟩
      cases i with
      | zero => simp at hk hv; subst hk hv; exact ⟨fuel, x, hx⟩
      | succ i => simp at hk
    · rename_i fs hu
      split at h
      · rename_i k1 hk1
        split at h
        · rename_i hlen
          injection h with h
          subst h
          obtain ⟨xs, m, _, _, hl, hxs, hf⟩ := DataW.trod_struct hu hx
          refine ⟨by rw [hl, hlen], fun i k v hk hv => ?_⟩
          refine ck_run (ckOf P d) cs m fs.toList 0 k1 hk1 (fun f hf' => ?_) (fun t' ks' cs' x' h1 h2 => (ih t' ks' cs' m x' h1 h2).2) i k v hk (by rw [Nat.zero_add]; exact hv)
          obtain ⟨j, hj⟩ := List.getElem?_of_mem hf'
          have hj' : fs[j]? = some f := by simpa using hj
          have h1 := hf j f hj'
          have hjl : j < xs.length := by rw [hxs]; exact (Array.getElem?_eq_some_iff.1 hj').1
          rw [List.getElem?_eq_getElem hjl] at h1
          exact ⟨_, h1⟩
        · cases h
      · cases h
    · cases h

/-- A slice of such values, by the cells of its elements. -/
structure RowsOf (w : World) (s : Option Addr) (l n : Nat) (css : List (List Value)) : Prop where
  len : css.length = l
  each : ∀ cs, cs ∈ css → cs.length = n
  cells : l = 0 ∨ ∃ g o, s = some ⟨g, o, none⟩ ∧ ∀ (i : Nat) cs, css[i]? = some cs → ∀ (j : Nat) v, cs[j]? = some v → w.cell? ⟨g, o + i * n + j, none⟩ = some v

theorem list_all {α : Type} (l : Nat) (Q : Nat → α → Prop) (h : ∀ i, i < l → ∃ a, Q i a) : ∃ zs : List α, zs.length = l ∧ ∀ i a, zs[i]? = some a → Q i a := by
  induction l with
  | zero => exact ⟨[], rfl, by simp⟩
  | succ l ih =>
    obtain ⟨zs, hl, ha⟩ := ih fun i hi => h i (by omega)
    obtain ⟨b, hb⟩ := h l (by omega)
    refine ⟨zs ++ [b], by simp [hl], fun i a hi => ?_⟩
    by_cases hil : i < l
    · rw [List.getElem?_append_left (by omega)] at hi
      exact ha i a hi
    · rw [List.getElem?_append_right (by omega)] at hi
      have h2 : i - zs.length = 0 := by
        have := (List.getElem?_eq_some_iff.1 hi).1
        simp at this
        omega
      rw [h2] at hi
      simp at hi
      subst hi
      have : i = l := by omega
      rw [this]
      exact hb

theorem rows_of_trod {t e : TypeId} {d : Nat} {ks : List CK} {fuel : Nat} {s : Option Addr} {l c : Nat} {x : DataW H × List MemPlace} (ht : P.underlying t = some (.slice e)) (hk : ckOf P d e = some ks) (hn : P.cellsOf e = ks.length) (h0 : 0 < ks.length)
    (h : DataW.trod enc P w base spare held fuel t [.slice s l c] = some x) : ∃ css, RowsOf w s l ks.length css ∧ ∀ cs, cs ∈ css → ∀ (i : Nat) k v, ks[i]? = some k → cs[i]? = some v → CKis enc P w base spare held k v := by
  rcases DataW.trod_slice ht h with ⟨hcs, _⟩ | ⟨a, len, cap, elems, rest, m, _, hcs, _, _, _, _, hlen, hel, _⟩
  · simp at hcs
    obtain ⟨rfl, rfl, rfl⟩ := hcs
    exact ⟨[], ⟨rfl, by simp, .inl rfl⟩, by simp⟩
  · simp at hcs
    obtain ⟨rfl, rfl, rfl⟩ := hcs
    by_cases hl0 : l = 0
    · subst hl0
      exact ⟨[], ⟨rfl, by simp, .inl rfl⟩, by simp⟩
    · have key : ∀ i, i < l → ∃ cs : List Value, cs.length = ks.length ∧ (∀ (j : Nat) v, cs[j]? = some v → w.cell? ((a.add (i * ks.length)).add j) = some v) ∧ ∀ (j : Nat) k v, ks[j]? = some k → cs[j]? = some v → CKis enc P w base spare held k v := by
        intro i hi
        have h1 := hel i hi
        have he : elems[i]? = some (elems[i]'(by omega)) := List.getElem?_eq_getElem (by omega)
        rw [he] at h1
        obtain ⟨cs, hcells, htr⟩ := Option.bind_eq_some_iff.1 h1
        obtain ⟨_, _, hat⟩ := World.cells?_some hcells
        obtain ⟨hl, hck⟩ := ck_of_trod d e ks cs m _ hk htr
        refine ⟨cs, hl, fun j v hv => ?_, hck⟩
        rw [hn] at hat
        have hj : j < ks.length := by rw [← hl]; exact (List.getElem?_eq_some_iff.1 hv).1
        have := hat j hj
        rw [this]
        exact hv
      obtain ⟨g, o, spot⟩ := a
      have hspot : spot = none := by
        obtain ⟨cs, hl, hat, _⟩ := key 0 (by omega)
        have h1 : cs[0]? = some (cs[0]'(by omega)) := List.getElem?_eq_getElem (by omega)
        have h2 := hat 0 _ h1
        exact World.cell?_spot (by simpa [Addr.add] using h2)
      subst hspot
      obtain ⟨css, hl, hcss⟩ := list_all l (fun i (cs : List Value) => cs.length = ks.length ∧ (∀ (j : Nat) v, cs[j]? = some v → w.cell? ⟨g, o + i * ks.length + j, none⟩ = some v) ∧ ∀ (j : Nat) k v, ks[j]? = some k → cs[j]? = some v → CKis enc P w base spare held k v) fun i hi => by
        obtain ⟨cs, h1, h2, h3⟩ := key i hi
        refine ⟨cs, h1, fun j v hv => ?_, h3⟩
        have := h2 j v hv
        rwa [Addr.add_mid, Addr.add_mid] at this
      refine ⟨css, ⟨hl, fun cs hcs => ?_, .inr ⟨g, o, rfl, fun i cs hi j v hv => (hcss i cs hi).2.1 j v hv⟩⟩, fun cs hcs => ?_⟩
      · obtain ⟨i, hi⟩ := List.getElem?_of_mem hcs
        exact (hcss i cs hi).1
      · obtain ⟨i, hi⟩ := List.getElem?_of_mem hcs
        exact (hcss i cs hi).2.2
end
end Go.Proofs.YtlieommbomjdaaaGreat

namespace Go.Proofs.YtlieommbomjdaaaGreat
open Go.ChangeShapes Go.WideShapes Go.ChangeAt Go.RowKit
set_option linter.unusedVariables false

/-- None but blocks of O has turned. -/
structure Turn (O : List Nat) (w w' : World) : Prop where
  os : w'.os = w.os
  tape : w'.tape = w.tape
  output : w'.output = w.output
  size : w.heap.size ≤ w'.heap.size
  block : ∀ k, k < w.heap.size → k ∉ O → w'.heap[k]? = w.heap[k]?

section
variable {O O' : List Nat} {w w' w2 : World}
theorem Turn.refl (O : List Nat) (w : World) : Turn O w w := ⟨rfl, rfl, rfl, Nat.le_refl _, fun _ _ _ => rfl⟩
theorem Turn.grown (g : w.grownBy w' none) : Turn O w w' := ⟨g.os, g.tape, g.output, g.size, fun k hk _ => g.block k hk (by simp)⟩
theorem Turn.one {x : Nat} (g : w.grownBy w' (some x)) (hx : x ∈ O) : Turn O w w' := ⟨g.os, g.tape, g.output, g.size, fun k hk hO => g.block k hk (fun e => hO (by rw [Option.some.inj e]; exact hx))⟩
theorem Turn.trans (h : Turn O w w') (k : Turn O' w' w2) (ho : ∀ b, b ∈ O' → b ∈ O ∨ w.heap.size ≤ b) : Turn O w w2 :=
  ⟨k.os.trans h.os, k.tape.trans h.tape, k.output.trans h.output, Nat.le_trans h.size k.size, fun b hb hO => (k.block b (Nat.lt_of_lt_of_le hb h.size) (fun hm => by
    rcases ho b hm with h1 | h1
    · exact hO h1
    · omega)).trans (h.block b hb hO)⟩
theorem Turn.trans' (h : Turn O w w') (k : Turn O w' w2) : Turn O w w2 := h.trans k fun b hb => .inl hb
theorem Turn.mono (h : Turn O w w') (ho : ∀ b, b ∈ O → b ∈ O') : Turn O' w w' := ⟨h.os, h.tape, h.output, h.size, fun k hk hO => h.block k hk fun hm => hO (ho k hm)⟩
theorem Turn.noGrown (h : Turn O w w') (ho : ∀ b, b ∈ O → w.heap.size ≤ b) : w.grownBy w' none := ⟨h.os, h.tape, h.output, h.size, fun k hk _ => h.block k hk fun hm => by have := ho k hm; omega⟩
theorem Turn.below {B : Nat} (h : Turn O w w') (hB : B ≤ w.heap.size) (ho : ∀ b, b ∈ O → B ≤ b) : Below B w w' := ⟨h.os, h.tape, h.output, h.size, fun k hk => h.block k (Nat.lt_of_lt_of_le hk hB) fun hm => by have := ho k hm; omega⟩
theorem Turn.setCell (O : List Nat) (w : World) (b o : Nat) (v : Value) (hb : b ∈ O) : Turn O w (w.setCell ⟨b, o, none⟩ v) :=
  ⟨rfl, rfl, rfl, by simp, fun k _ hk => heap_setCell_other w _ k v (fun e => hk (by rw [e]; exact hb))⟩
end

/-- A row of k elements of 'size' cells each. -/
def RowAt (w : World) (size : Nat) (v : Value) (k : Nat) (cs : List Value) : Prop :=
  cs.length = k * size ∧ ((v = .slice none 0 0 ∧ k = 0) ∨ ∃ g o c, v = .slice (some ⟨g, o, none⟩) k c ∧ g < w.heap.size ∧ ∀ (j : Nat) u, cs[j]? = some u → w.cell? ⟨g, o + j, none⟩ = some u)

section
variable {w w' : World} {size k : Nat} {v : Value} {cs : List Value}
theorem RowAt.nil (w : World) (size : Nat) : RowAt w size (.slice none 0 0) 0 [] := ⟨by simp, .inl ⟨rfl, rfl⟩⟩
theorem RowAt.kept (h : RowAt w size v k cs) (hs : w.heap.size ≤ w'.heap.size) (hb : ∀ a l c, v = .slice (some a) l c → w'.heap[a.block]? = w.heap[a.block]?) : RowAt w' size v k cs := by
  refine ⟨h.1, ?_⟩
  rcases h.2 with h0 | ⟨g, o, c, hv, hg, hc⟩
  · exact .inl h0
  · exact .inr ⟨g, o, c, hv, Nat.lt_of_lt_of_le hg hs, fun j u hu => (World.cell?_of_block (w := w) (w' := w') (a := ⟨g, o + j, none⟩) (show w'.heap[g]? = w.heap[g]? from hb ⟨g, o, none⟩ _ _ hv)).trans (hc j u hu)⟩
theorem RowAt.grow (h : RowAt w size v k cs) (g : w.grownBy w' none) : RowAt w' size v k cs := by
  refine h.kept g.size fun a l c hv => ?_
  rcases h.2 with ⟨h0, _⟩ | ⟨b, o, c', hv', hg, _⟩
  · rw [h0] at hv; cases hv
  · rw [hv'] at hv
    cases hv
    exact g.block _ hg (by simp)
theorem RowAt.own {base : Nat} {e : TypeId} (h : w.ownsRow base e size v k cs) : RowAt w size v k cs := by
  refine ⟨h.1, ?_⟩
  rcases h.2 with h0 | ⟨g, cap, cur, hv, _, hg, _, _, _, ht⟩
  · exact .inl h0
  · refine .inr ⟨g, 0, cap, hv, (Array.getElem?_eq_some_iff.1 hg).1, fun j u hu => ?_⟩
    rw [← ht] at hu
    have hj : j < k * size := by
      have := (List.getElem?_eq_some_iff.1 hu).1
      rw [List.length_take] at this
      omega
    rw [List.getElem?_take_of_lt hj, Array.getElem?_toList] at hu
    rw [Nat.zero_add, cell_of_row _ _ _ _ _ _ hg]
    exact hu
/-- Without its first element. -/
theorem RowAt.tail {g o c : Nat} (h : RowAt w size (.slice (some ⟨g, o, none⟩) (k + 1) c) (k + 1) cs) (c' : Nat) : RowAt w size (.slice (some ⟨g, o + size, none⟩) k c') k (cs.drop size) := by
  refine ⟨by rw [List.length_drop, h.1, Nat.succ_mul]; omega, ?_⟩
  rcases h.2 with ⟨h0, _⟩ | ⟨g', o', c2, hv, hg, hc⟩
  · cases h0
  · cases hv
    refine .inr ⟨g, o + size, c', rfl, hg, fun j u hu => ?_⟩
    rw [List.getElem?_drop] at hu
    have := hc _ u hu
    rwa [← Nat.add_assoc] at this
theorem RowAt.form (h : RowAt w size v k cs) : ∃ s c, v = .slice s k c := by
  rcases h.2 with ⟨rfl, rfl⟩ | ⟨g, o, c, rfl, _⟩
  · exact ⟨_, _, rfl⟩
  · exact ⟨_, _, rfl⟩
end

/-- Elements, each by its cells. -/
theorem flat_at {α : Type} (cells : α → List Value) (size : Nat) (hsz : ∀ x, (cells x).length = size) (xs : List α) (j : Nat) (y : α) (h : xs[j]? = some y) (q : Nat) (u : Value) (hq : (cells y)[q]? = some u) : (xs.flatMap cells)[j * size + q]? = some u := by
  have hq3 : q < size := by have := (List.getElem?_eq_some_iff.1 hq).1; rw [hsz] at this; exact this
  induction xs generalizing j with
  | nil => simp at h
  | cons x xs ih =>
    cases j with
    | zero =>
      simp only [List.getElem?_cons_zero, Option.some.injEq] at h
      subst h
      rw [List.flatMap_cons, Nat.zero_mul, Nat.zero_add, List.getElem?_append_left (by rw [hsz]; exact hq3)]
      exact hq
    | succ j =>
      rw [List.getElem?_cons_succ] at h
      rw [List.flatMap_cons, List.getElem?_append_right (by rw [hsz, Nat.succ_mul]; omega)]
      have : (j + 1) * size + q - (cells x).length = j * size + q := by rw [hsz, Nat.succ_mul]; omega
      rw [this]
      exact ih j h
theorem flat_len {α : Type} (cells : α → List Value) (size : Nat) (hsz : ∀ x, (cells x).length = size) (xs : List α) : (xs.flatMap cells).length = xs.length * size := by
  induction xs with
  | nil => simp
  | cons x xs ih => rw [List.flatMap_cons, List.length_append, ih, hsz, List.length_cons, Nat.succ_mul]; omega
theorem flat_drop {α : Type} (cells : α → List Value) (size : Nat) (hsz : ∀ x, (cells x).length = size) (x : α) (xs : List α) : ((x :: xs).flatMap cells).drop size = xs.flatMap cells := by
  rw [List.flatMap_cons, List.drop_append_of_le_length (by rw [hsz]; exact Nat.le_refl _), List.drop_of_length_le (by rw [hsz]; exact Nat.le_refl _), List.nil_append]

/-- A row of such elements. -/
def RowOf {α : Type} (cells : α → List Value) (size : Nat) (w : World) (v : Value) (xs : List α) : Prop := RowAt w size v xs.length (xs.flatMap cells)
theorem RowOf.at {α : Type} {cells : α → List Value} {size : Nat} {w : World} {v : Value} {xs : List α} (hsz : ∀ x, (cells x).length = size) (h : RowOf cells size w v xs) {j : Nat} {y : α} (hy : xs[j]? = some y) :
    ∃ g o c, v = .slice (some ⟨g, o, none⟩) xs.length c ∧ ∀ (q : Nat) u, (cells y)[q]? = some u → w.cell? ⟨g, o + (j * size + q), none⟩ = some u := by
  have hj : j < xs.length := (List.getElem?_eq_some_iff.1 hy).1
  rcases h.2 with ⟨_, h0⟩ | ⟨g, o, c, hv, hg, hc⟩
  · omega
  · exact ⟨g, o, c, hv, fun q u hq => hc _ u (flat_at cells size hsz xs j y hy q u hq)⟩
end Go.Proofs.YtlieommbomjdaaaGreat

namespace Go.Proofs.YtlieommbomjdaaaGreat
open Go.ChangeShapes Go.WideShapes Go.ChangeAt Go.RowKit
set_option linter.unusedVariables false

theorem wf_ok64 {x : Int} (h : (Lit.int .i64 x).wf = true) : okI x := by
  simp [Lit.wf, IntKind.min, IntKind.max, IntKind.signed, IntKind.bits] at h
  exact ⟨by omega, by omega⟩

/-- Rows of n numbers each. -/
structure IntRows (w : World) (s : Option Addr) (l n : Nat) (zss : List (List Int)) : Prop where
  len : zss.length = l
  each : ∀ zs, zs ∈ zss → zs.length = n ∧ ∀ z, z ∈ zs → okI z
  cells : l = 0 ∨ ∃ g o, s = some ⟨g, o, none⟩ ∧ ∀ (i : Nat) zs, zss[i]? = some zs → ∀ (j : Nat) z, zs[j]? = some z → w.cell? ⟨g, o + i * n + j, none⟩ = some (.int .i64 z)

section
variable {H : Type} {enc : TypeId × Value → H} {P : Program} {w : World} {base : Nat} {spare : Nat → Bool} {held : Bool}
theorem ck_ints {n : Nat} {cs : List Value} (hl : cs.length = n) (h : ∀ (i : Nat) k v, (List.replicate n (CK.int .i64))[i]? = some k → cs[i]? = some v → CKis enc P w base spare held k v) :
    ∃ zs : List Int, zs.length = n ∧ cs = zs.map (Value.int .i64) ∧ ∀ z, z ∈ zs → okI z := by
  induction cs generalizing n with
  | nil => simp at hl; subst hl; exact ⟨[], rfl, rfl, by simp⟩
  | cons c cs ih =>
    obtain ⟨m, rfl⟩ : ∃ m, n = m + 1 := ⟨cs.length, by simp at hl; omega⟩
    obtain ⟨zs, h1, h2, h3⟩ := ih (n := m) (by simp at hl; omega) fun i k v hk hv => h (i + 1) k v (by rw [List.replicate_succ, List.getElem?_cons_succ]; exact hk) (by rw [List.getElem?_cons_succ]; exact hv)
    obtain ⟨z, rfl, hw⟩ := h 0 (CK.int .i64) c (by rw [List.replicate_succ]; rfl) rfl
    exact ⟨z :: zs, by simp [h1], by rw [h2]; rfl, fun y hy => by
      rcases List.mem_cons.1 hy with rfl | hy
      · exact wf_ok64 hw
      · exact h3 y hy⟩

theorem introws_of_trod {t e : TypeId} {d n : Nat} {fuel : Nat} {s : Option Addr} {l c : Nat} {x : DataW H × List MemPlace} (ht : P.underlying t = some (.slice e)) (hk : ckOf P d e = some (List.replicate n (.int .i64))) (hn : P.cellsOf e = n) (h0 : 0 < n)
    (h : DataW.trod enc P w base spare held fuel t [.slice s l c] = some x) : ∃ zss, IntRows w s l n zss := by
  obtain ⟨css, hr, hck⟩ := rows_of_trod ht hk (by rw [List.length_replicate]; exact hn) (by rw [List.length_replicate]; exact h0) h
  rw [List.length_replicate] at hr
  obtain ⟨zss, hl, hz⟩ := list_all l (fun i (zs : List Int) => zs.length = n ∧ css[i]? = some (zs.map (Value.int .i64)) ∧ ∀ z, z ∈ zs → okI z) fun i hi => by
    have hg : css[i]? = some (css[i]'(by rw [hr.len]; exact hi)) := List.getElem?_eq_getElem (by rw [hr.len]; exact hi)
    have hm := List.mem_of_getElem? hg
    obtain ⟨zs, h1, h2, h3⟩ := ck_ints (hr.each _ hm) (hck _ hm)
    exact ⟨zs, h1, by rw [hg, h2], h3⟩
  refine ⟨zss, ⟨hl, fun zs hzs => ?_, ?_⟩⟩
  · obtain ⟨i, hi⟩ := List.getElem?_of_mem hzs
    exact ⟨(hz i zs hi).1, (hz i zs hi).2.2⟩
  · rcases hr.cells with h1 | ⟨g, o, hs, hc⟩
    · exact .inl h1
    · refine .inr ⟨g, o, hs, fun i zs hi j z hj => hc i _ (hz i zs hi).2.1 j _ ?_⟩
      rw [List.getElem?_map, hj]
      rfl
/-- One number of a row, in a later world. -/
theorem IntRows.at {wr : World} {s : Option Addr} {l n : Nat} {zss : List (List Int)} (h : IntRows w s l n zss) (g : ∀ b, b < w.heap.size → wr.heap[b]? = w.heap[b]?) {i : Nat} {zs : List Int} (hi : zss[i]? = some zs) :
    ∃ b o, s = some ⟨b, o, none⟩ ∧ ∀ (j : Nat) z, zs[j]? = some z → wr.cell? ⟨b, o + i * n + j, none⟩ = some (.int .i64 z) := by
  have hlt := (List.getElem?_eq_some_iff.1 hi).1
  rcases h.cells with h0 | ⟨b, o, hs, hc⟩
  · have := h.len; omega
  · refine ⟨b, o, hs, fun j z hz => ?_⟩
    have h1 := hc i zs hi j z hz
    exact (World.cell?_of_block (a := ⟨b, o + i * n + j, none⟩) (g b (World.block_lt_of_cell? w _ h1))).trans h1
end
end Go.Proofs.YtlieommbomjdaaaGreat

namespace Go.Proofs.YtlieommbomjdaaaGreat
open Go.ChangeShapes Go.WideShapes Go.ChangeAt Go.RowKit
set_option linter.unusedVariables false

/-- A frame: its class, owner, index, wire, loan. -/
structure FrV where
  cl : Int
  ow : Int
  ix : Int
  wi : Int
  lo : Int
def frCells (x : FrV) : List Value := [.int .i64 x.cl, .int .i64 x.ow, .int .i64 x.ix, .int .i64 x.wi, .int .i64 x.lo]
theorem fr_len (x : FrV) : (frCells x).length = 5 := rfl
def frAgg (x : FrV) : Value := .agg #[.int .i64 x.cl, .int .i64 x.ow, .int .i64 x.ix, .int .i64 x.wi, .int .i64 x.lo]
def zeroF : FrV := ⟨0, 0, 0, 0, 0⟩

def countF (xs : List FrV) (c : Int) : Int := ((xs.filter fun x => x.cl == c).length : Int)
def isCls (c : Int) : Prop := 1 ≤ c ∧ c ≤ 4
instance (c : Int) : Decidable (isCls c) := inferInstanceAs (Decidable (_ ∧ _))
def freeAt (xs : List FrV) : Option Nat := xs.findIdx? fun x => x.cl == 0
def mayBy (n by' : Int) : Prop := -n ≤ by' ∧ by' ≤ 1000000 - n
instance (n b : Int) : Decidable (mayBy n b) := inferInstanceAs (Decidable (_ ∧ _))

/-- What a call answers and leaves: a number, an error, the frames. -/
structure AnsF where
  n : Int
  e : Int
  xs : List FrV

def takeAt (xs : List FrV) (c o i : Int) : Option Nat → AnsF
  | some k => ⟨k, 0, xs.set k ⟨c, o, i, 0, 0⟩⟩
  | none => ⟨0, 5, xs⟩
def takeF (rs : Int) (xs : List FrV) (c o i : Int) : AnsF :=
  if ¬ isCls c then ⟨0, 2, xs⟩
  else if countF xs 0 = 0 ∨ c ≠ 1 ∧ countF xs 0 ≤ rs then ⟨0, 5, xs⟩
  else takeAt xs c o i (freeAt xs)
/-- Something that is done to the frame of a number, if there is one and it isn't free. -/
def atF (xs : List FrV) (fr : Int) (f : FrV → Int × FrV) : AnsF :=
  if 0 ≤ fr ∧ fr < xs.length then
    (match xs[fr.toNat]? with
    | some x => if x.cl = 0 then ⟨0, 2, xs⟩ else ⟨0, (f x).1, xs.set fr.toNat (f x).2⟩
    | none => ⟨0, 7, xs⟩)
  else ⟨0, 7, xs⟩
def giveF (xs : List FrV) (fr : Int) : AnsF := atF xs fr fun x => if x.wi ≠ 0 ∨ x.lo ≠ 0 then (8, x) else (0, zeroF)
def ownF (xs : List FrV) (fr c o i : Int) : AnsF := atF xs fr fun x => if isCls c then (0, ⟨c, o, i, x.wi, x.lo⟩) else (2, x)
def wireF (xs : List FrV) (fr b : Int) : AnsF := atF xs fr fun x => if mayBy x.wi b then (0, ⟨x.cl, x.ow, x.ix, x.wi + b, x.lo⟩) else (2, x)
def loanF (xs : List FrV) (fr b : Int) : AnsF := atF xs fr fun x => if mayBy x.lo b then (0, ⟨x.cl, x.ow, x.ix, x.wi, x.lo + b⟩) else (2, x)
def getF (xs : List FrV) (fr : Int) : Option FrV := if 0 ≤ fr ∧ fr < xs.length then xs[fr.toNat]? else none
def getV (o : Option FrV) : Value :=
  match o with
  | some x => .tuple #[frAgg x, .bool true]
  | none => .tuple #[frAgg zeroF, .bool false]

/-- What is so of each frame, whatever was done. -/
structure GoodF (x : FrV) : Prop where
  c0 : 0 ≤ x.cl
  c1 : x.cl ≤ 4
  free : x.cl = 0 → x = zeroF
  w0 : 0 ≤ x.wi
  w1 : x.wi ≤ 1000000
  l0 : 0 ≤ x.lo
  l1 : x.lo ≤ 1000000
  ow : okI x.ow
  ix : okI x.ix
def Goods (xs : List FrV) : Prop := ∀ x, x ∈ xs → GoodF x

theorem good_zero : GoodF zeroF := ⟨by decide, by decide, fun _ => rfl, by decide, by decide, by decide, by decide, ⟨by decide, by decide⟩, ⟨by decide, by decide⟩⟩
theorem goods_new (n : Nat) : Goods (List.replicate n zeroF) := fun x hx => by rw [List.eq_of_mem_replicate hx]; exact good_zero
theorem Goods.set {xs : List FrV} (h : Goods xs) (k : Nat) {y : FrV} (hy : GoodF y) : Goods (xs.set k y) := fun x hx => by
  rcases List.mem_or_eq_of_mem_set hx with h1 | rfl
  · exact h x h1
  · exact hy

section
variable {rs : Int} {xs : List FrV} {c o i fr b : Int}
theorem count_free : countF xs 0 = 0 ↔ freeAt xs = none := by
  unfold countF freeAt
  rw [List.findIdx?_eq_none_iff]
  constructor
  · intro h x hx
    have h1 : (xs.filter fun x => x.cl == 0).length = 0 := by omega
    rw [List.length_eq_zero_iff, List.filter_eq_nil_iff] at h1
    simpa using h1 x hx
  · intro h
    have : (xs.filter fun x => x.cl == 0) = [] := List.filter_eq_nil_iff.2 fun x hx => by rw [h x hx]; simp
    rw [this]
    rfl
theorem atF_good {f : FrV → Int × FrV} (h : Goods xs) (hf : ∀ x, GoodF x → x.cl ≠ 0 → GoodF (f x).2) : Goods (atF xs fr f).xs := by
  unfold atF
  split
  · split
    · rename_i x hx
      split
      · exact h
      · rename_i hc
        exact h.set _ (hf x (h x (List.mem_of_getElem? hx)) hc)
    · exact h
  · exact h
theorem atF_len (f : FrV → Int × FrV) : (atF xs fr f).xs.length = xs.length := by
  unfold atF
  split
  · split
    · split
      · rfl
      · rw [List.length_set]
    · rfl
  · rfl
theorem takeF_good (h : Goods xs) (ho : okI o) (hi : okI i) : Goods (takeF rs xs c o i).xs := by
  unfold takeF
  split
  · exact h
  · rename_i hc
    split
    · exact h
    · cases freeAt xs with
      | some k =>
        have hc2 : isCls c := Classical.not_not.1 hc
        exact h.set _ ⟨by have := hc2.1; show (0 : Int) ≤ c; omega, hc2.2, fun e => by have := hc2.1; have : c = 0 := e; omega, by show (0 : Int) ≤ 0; omega, by show (0 : Int) ≤ 1000000; omega, by show (0 : Int) ≤ 0; omega, by show (0 : Int) ≤ 1000000; omega, ho, hi⟩
      | none => exact h
theorem takeF_len : (takeF rs xs c o i).xs.length = xs.length := by
  unfold takeF
  split
  · rfl
  · split
    · rfl
    · cases freeAt xs with
      | some k => exact List.length_set
      | none => rfl
theorem giveF_good (h : Goods xs) : Goods (giveF xs fr).xs := atF_good h fun x hx _ => by
  split
  · exact hx
  · exact good_zero
theorem ownF_good (h : Goods xs) (ho : okI o) (hi : okI i) : Goods (ownF xs fr c o i).xs := atF_good h fun x hx hc => by
  split
  · rename_i h1
    exact ⟨by have := h1.1; show (0 : Int) ≤ c; omega, h1.2, fun e => by have := h1.1; have : c = 0 := e; omega, hx.w0, hx.w1, hx.l0, hx.l1, ho, hi⟩
  · exact hx
theorem wireF_good (h : Goods xs) : Goods (wireF xs fr b).xs := atF_good h fun x hx hc => by
  split
  · rename_i h1
    exact ⟨hx.c0, hx.c1, fun e => absurd e hc, by have := h1.1; show (0 : Int) ≤ x.wi + b; omega, by have := h1.2; show x.wi + b ≤ 1000000; omega, hx.l0, hx.l1, hx.ow, hx.ix⟩
  · exact hx
theorem loanF_good (h : Goods xs) : Goods (loanF xs fr b).xs := atF_good h fun x hx hc => by
  split
  · rename_i h1
    exact ⟨hx.c0, hx.c1, fun e => absurd e hc, hx.w0, hx.w1, by have := h1.1; show (0 : Int) ≤ x.lo + b; omega, by have := h1.2; show x.lo + b ≤ 1000000; omega, hx.ow, hx.ix⟩
  · exact hx
theorem atF_out {f : FrV → Int × FrV} (h : ¬ (0 ≤ fr ∧ fr < xs.length)) : atF xs fr f = ⟨0, 7, xs⟩ := by unfold atF; rw [if_neg h]
theorem atF_free {f : FrV → Int × FrV} {k : Nat} {x : FrV} (hx : xs[k]? = some x) (h : x.cl = 0) : atF xs k f = ⟨0, 2, xs⟩ := by
  have hk := (List.getElem?_eq_some_iff.1 hx).1
  unfold atF
  rw [if_pos (by omega), Int.toNat_natCast, hx]
  simp only [h, if_pos]
theorem atF_at {f : FrV → Int × FrV} {k : Nat} {x : FrV} (hx : xs[k]? = some x) (h : x.cl ≠ 0) : atF xs k f = ⟨0, (f x).1, xs.set k (f x).2⟩ := by
  have hk := (List.getElem?_eq_some_iff.1 hx).1
  unfold atF
  rw [if_pos (by omega), Int.toNat_natCast, hx]
  simp only [if_neg h]
theorem set_self {k : Nat} {x : FrV} (hx : xs[k]? = some x) : xs.set k x = xs := by
  have hk := (List.getElem?_eq_some_iff.1 hx).1
  apply List.ext_getElem?
  intro i
  by_cases e : i = k
  · subst e; rw [List.getElem?_set_self hk, hx]
  · rw [List.getElem?_set_ne (fun h => e h.symm)]
theorem countF_le (c : Int) : 0 ≤ countF xs c ∧ countF xs c ≤ xs.length := by
  unfold countF
  have := List.length_filter_le (fun x : FrV => x.cl == c) xs
  omega
/-- All classes together are all frames. -/
theorem count_all (h : Goods xs) : countF xs 0 + countF xs 1 + countF xs 2 + countF xs 3 + countF xs 4 = xs.length := by
  induction xs with
  | nil => rfl
  | cons x xs ih =>
    have ih := ih fun y hy => h y (List.mem_cons_of_mem _ hy)
    have hx := h x List.mem_cons_self
    have h0 := hx.c0
    have h1 := hx.c1
    have key : ∀ c : Int, countF (x :: xs) c = countF xs c + if x.cl = c then 1 else 0 := fun c => by
      unfold countF
      by_cases e : x.cl = c
      · rw [List.filter_cons_of_pos (by simpa using e), if_pos e]; simp
      · rw [List.filter_cons_of_neg (by simpa using e), if_neg e]; simp
    rw [key, key, key, key, key, List.length_cons]
    rcases (show x.cl = 0 ∨ x.cl = 1 ∨ x.cl = 2 ∨ x.cl = 3 ∨ x.cl = 4 by omega) with e | e | e | e | e <;> rw [e] <;> simp <;> omega
/-- Counting as far as place j. -/
theorem count_take {j : Nat} {x : FrV} (h : xs[j]? = some x) (c : Int) : countF (xs.take (j + 1)) c = countF (xs.take j) c + if x.cl = c then 1 else 0 := by
  unfold countF
  rw [List.take_add_one, h]
  by_cases e : x.cl = c
  · rw [if_pos e, List.filter_append]; simp [e]
  · rw [if_neg e, List.filter_append]; simp [e]
end
end Go.Proofs.YtlieommbomjdaaaGreat

namespace Go.Proofs.YtlieommbomjdaaaGreat
open Go.ChangeShapes Go.WideShapes Go.ChangeAt Go.RowKit Go.Deep
set_option linter.unusedVariables false

theorem grown_drew1 (w : World) : w.grownBy w.drew none := ⟨rfl, rfl, rfl, Nat.le_refl _, fun _ _ _ => rfl⟩
theorem grown_set (W : World) (b o : Nat) (v : Value) : W.grownBy (W.setCell ⟨b, o, none⟩ v) (some b) := ⟨rfl, rfl, rfl, by simp, fun k _ hk => heap_setCell_other W _ k v (fun e => hk (by rw [e]))⟩
theorem grown_at {a b e : World} {x : Nat} (h : a.grownBy b none) (g : b.grownBy e (some x)) (hx : a.heap.size ≤ x) : a.grownBy e none :=
  ⟨g.os.trans h.os, g.tape.trans h.tape, g.output.trans h.output, Nat.le_trans h.size g.size, fun k hk _ => (g.block k (Nat.lt_of_lt_of_le hk h.size) (by intro e; have e2 := Option.some.inj e; omega)).trans (h.block k hk (by simp))⟩

/-- Two results, the first one a struct in memory. -/
theorem results_pair_tmp {P : Program} {fn : Func} {p u : Tmp} {ty : TypeId} (h : fn.results = #[.cell p ty, .tmp u]) (tmps : Array Value) (w : World) (g : Nat) (t : TypeId) (cs : Array Value) (fr : Nat × Nat) (d : TypeDesc)
    (hp : tmps.getD p undef = .pointer (some ⟨g, 0, none⟩)) (hg : w.heap[g]? = some (.cells cs t fr))
    (hu : P.underlying ty = some d) (hd : (match d with | .struct _ | .array _ _ => true | _ => false) = true) (hi : (P.info? ty).map (·.size) = some cs.size) :
    (results fn tmps).run P w = .ok (.tuple #[.agg cs, tmps.getD u undef]) w := by
  rw [results_cell_tmp h, hp]
  simp [asAddr, Result.andThen, run_loadVar_row w g t ty cs fr d hg hu hd hi]
/-- Five cells, stored into. -/
theorem heap_five (w : World) (g : Nat) {a b c d e : Value} (a' b' c' d' e' : Int) (t : TypeId) (hg : w.heap[g]? = some (.cells #[a, b, c, d, e] t (0, 0))) :
    (((((w.setCell ⟨g, 0, none⟩ (.int .i64 a')).setCell ⟨g, 1, none⟩ (.int .i64 b')).setCell ⟨g, 2, none⟩ (.int .i64 c')).setCell ⟨g, 3, none⟩ (.int .i64 d')).setCell ⟨g, 4, none⟩ (.int .i64 e')).heap[g]? = some (.cells #[.int .i64 a', .int .i64 b', .int .i64 c', .int .i64 d', .int .i64 e'] t (0, 0)) := by
  have h : w.heap[g]? = some (.cells [a, b, c, d, e].toArray t (0, 0)) := hg
  exact heap_setCells h [.int .i64 a', .int .i64 b', .int .i64 c', .int .i64 d', .int .i64 e'] (by simp) (by intro v hv; simp at hv; rcases hv with rfl | rfl | rfl | rfl | rfl <;> rfl)
theorem grown_five (w : World) (g : Nat) (a b c d e : Value) : w.grownBy (((((w.setCell ⟨g, 0, none⟩ a).setCell ⟨g, 1, none⟩ b).setCell ⟨g, 2, none⟩ c).setCell ⟨g, 3, none⟩ d).setCell ⟨g, 4, none⟩ e) (some g) := by
  have tr : ∀ {x y z : World}, x.grownBy y (some g) → y.grownBy z (some g) → x.grownBy z (some g) := fun h k => ⟨k.os.trans h.os, k.tape.trans h.tape, k.output.trans h.output, Nat.le_trans h.size k.size, fun b hb hne => (k.block b (Nat.lt_of_lt_of_le hb h.size) hne).trans (h.block b hb hne)⟩
  exact tr (tr (tr (tr (grown_set _ g 0 a) (grown_set _ g 1 b)) (grown_set _ g 2 c)) (grown_set _ g 3 d)) (grown_set _ g 4 e)

/-- The document's pool: block r, its row in block g. -/
structure RP (w : World) (r : Nat) (rs : Int) (xs : List FrV) (g c : Nat) : Prop where
  head : w.heap[r]? = some (.cells #[.slice (some ⟨g, 0, none⟩) xs.length c, .int .i64 rs] 72 (0, 0))
  row : w.ownsRow 0 99 5 (.slice (some ⟨g, 0, none⟩) xs.length c) xs.length (xs.flatMap frCells)
  len0 : 1 ≤ xs.length
  len1 : xs.length ≤ 256
  rs0 : 0 ≤ rs
  rs1 : rs ≤ xs.length

section
variable {w w' : World} {r g c : Nat} {rs : Int} {xs : List FrV}
theorem RP.rlt (h : RP w r rs xs g c) : r < w.heap.size := (Array.getElem?_eq_some_iff.1 h.head).1
theorem RP.glt (h : RP w r rs xs g c) : g < w.heap.size := (h.row.lt g rfl).2
theorem RP.cur (h : RP w r rs xs g c) : ∃ cur, w.heap[g]? = some (.cells cur 99 (0, 0)) ∧ xs.length ≤ c ∧ cur.size = c * 5 ∧ cur.toList.take (xs.length * 5) = xs.flatMap frCells := by
  rcases h.row.2 with ⟨e, _⟩ | ⟨g', c', cur, e, _, h2, h3, _, h4, h5⟩
  · cases e
  · simp only [Value.slice.injEq, Option.some.injEq, Addr.mk.injEq] at e
    obtain ⟨⟨rfl, _⟩, _, rfl⟩ := e
    exact ⟨cur, h2, h3, h4, h5⟩
theorem RP.ne (h : RP w r rs xs g c) : g ≠ r := fun e => by
  obtain ⟨cur, h1, _⟩ := h.cur
  have := h.head.symm.trans (e ▸ h1)
  simp at this
theorem RP.kept (h : RP w r rs xs g c) (hb : ∀ b, b ∈ [r, g] → w'.heap[b]? = w.heap[b]?) : RP w' r rs xs g c := by
  refine ⟨(hb r (by simp)).trans h.head, ⟨h.row.1, ?_⟩, h.len0, h.len1, h.rs0, h.rs1⟩
  rcases h.row.2 with ⟨e, _⟩ | ⟨g', c', cur, e, h1, h2, h3⟩
  · cases e
  · refine .inr ⟨g', c', cur, e, h1, (hb g' ?_).trans h2, h3⟩
    simp only [Value.slice.injEq, Option.some.injEq, Addr.mk.injEq] at e
    simp [e.1.1]
theorem RP.lt (h : RP w r rs xs g c) : ∀ b, b ∈ [r, g] → b < w.heap.size := by
  intro b hb
  simp at hb
  rcases hb with rfl | rfl
  · exact h.rlt
  · exact h.glt
theorem RP.grow (h : RP w r rs xs g c) (k : w.grownBy w' none) : RP w' r rs xs g c := h.kept fun b hb => k.block b (h.lt b hb) (by simp)
theorem RP.turn {O : List Nat} (h : RP w r rs xs g c) (k : Turn O w w') (ho : ∀ b, b ∈ [r, g] → b ∉ O) : RP w' r rs xs g c := h.kept fun b hb => k.block b (h.lt b hb) (ho b hb)
theorem RP.at (h : RP w r rs xs g c) : w.cell? ⟨r, 0, none⟩ = some (.slice (some ⟨g, 0, none⟩) xs.length c) ∧ w.cell? ⟨r, 1, none⟩ = some (.int .i64 rs) := ⟨by rw [cell_of_row _ _ _ _ _ _ h.head]; rfl, by rw [cell_of_row _ _ _ _ _ _ h.head]; rfl⟩
/-- The cells of one frame. -/
theorem RP.fr (h : RP w r rs xs g c) {j : Nat} {x : FrV} (hx : xs[j]? = some x) : w.cell? ⟨g, j * 5, none⟩ = some (.int .i64 x.cl) ∧ w.cell? ⟨g, j * 5 + 1, none⟩ = some (.int .i64 x.ow) ∧ w.cell? ⟨g, j * 5 + 2, none⟩ = some (.int .i64 x.ix) ∧ w.cell? ⟨g, j * 5 + 3, none⟩ = some (.int .i64 x.wi) ∧ w.cell? ⟨g, j * 5 + 4, none⟩ = some (.int .i64 x.lo) := by
  have key : ∀ q u, (frCells x)[q]? = some u → w.cell? ⟨g, j * 5 + q, none⟩ = some u := fun q u hq => by
    have h1 := h.row.cells (g := g) rfl _ u (flat_at frCells 5 fr_len xs j x hx q u hq)
    rw [Addr.add_lit, Nat.zero_add] at h1
    exact h1
  exact ⟨key 0 _ rfl, key 1 _ rfl, key 2 _ rfl, key 3 _ rfl, key 4 _ rfl⟩
end

/-- A boxed frame. -/
def FrB (w : World) (y : Nat) (t : TypeId) (x : FrV) : Prop := w.heap[y]? = some (.cells #[.int .i64 x.cl, .int .i64 x.ow, .int .i64 x.ix, .int .i64 x.wi, .int .i64 x.lo] t (0, 0))
section
variable {w w' : World} {y : Nat} {t : TypeId} {x : FrV}
theorem FrB.at (h : FrB w y t x) : w.cell? ⟨y, 0, none⟩ = some (.int .i64 x.cl) ∧ w.cell? ⟨y, 1, none⟩ = some (.int .i64 x.ow) ∧ w.cell? ⟨y, 2, none⟩ = some (.int .i64 x.ix) ∧ w.cell? ⟨y, 3, none⟩ = some (.int .i64 x.wi) ∧ w.cell? ⟨y, 4, none⟩ = some (.int .i64 x.lo) :=
  ⟨by rw [cell_of_row _ _ _ _ _ _ h]; rfl, by rw [cell_of_row _ _ _ _ _ _ h]; rfl, by rw [cell_of_row _ _ _ _ _ _ h]; rfl, by rw [cell_of_row _ _ _ _ _ _ h]; rfl, by rw [cell_of_row _ _ _ _ _ _ h]; rfl⟩
theorem FrB.frozen (h : FrB w y t x) : w.frozen? ⟨y, 0, none⟩ = false ∧ w.frozen? ⟨y, 1, none⟩ = false ∧ w.frozen? ⟨y, 2, none⟩ = false ∧ w.frozen? ⟨y, 3, none⟩ = false ∧ w.frozen? ⟨y, 4, none⟩ = false :=
  ⟨frozen_of_row _ _ _ _ _ h, frozen_of_row _ _ _ _ _ h, frozen_of_row _ _ _ _ _ h, frozen_of_row _ _ _ _ _ h, frozen_of_row _ _ _ _ _ h⟩
theorem FrB.lt (h : FrB w y t x) : y < w.heap.size := (Array.getElem?_eq_some_iff.1 h).1
theorem FrB.grow (h : FrB w y t x) (g : w.grownBy w' none) : FrB w' y t x := (g.block _ h.lt (by simp)).trans h
theorem FrB.turn {O : List Nat} (h : FrB w y t x) (g : Turn O w w') (ho : y ∉ O) : FrB w' y t x := (g.block _ h.lt ho).trans h
theorem FrB.new (w : World) (t : TypeId) (x : FrV) : FrB (w.alloc (.cells #[.int .i64 x.cl, .int .i64 x.ow, .int .i64 x.ix, .int .i64 x.wi, .int .i64 x.lo] t (0, 0))) w.heap.size t x := heap_alloc_new w _
end

theorem info_rfr : (Tryz.prog.info? 99).map (fun i => (i.zero, i.size, i.bytes)) = some (some (.agg #[.int .i64 0, .int .i64 0, .int .i64 0, .int .i64 0, .int .i64 0]), 5, 40) := by kernel_rfl
def zeroCs : Array Value := #[.int .i64 0, .int .i64 0, .int .i64 0, .int .i64 0, .int .i64 0]
theorem made_zeroF (n : Nat) : (madeCells zeroCs (n * 5)).toList = (List.replicate n zeroF).flatMap frCells := by
  apply List.ext_getElem?
  intro o
  have hs : zeroCs.size = 5 := rfl
  by_cases ho : o < n * 5
  · have e1 : (madeCells zeroCs (n * 5)).toList[o]? = some (.int .i64 0) := by
      unfold madeCells
      rw [Array.getElem?_toList, Array.getElem?_map, Array.getElem?_range, if_pos ho]
      simp only [Option.map_some, hs]
      rcases (show o % 5 = 0 ∨ o % 5 = 1 ∨ o % 5 = 2 ∨ o % 5 = 3 ∨ o % 5 = 4 by omega) with e | e | e | e | e <;> rw [e] <;> rfl
    have hz : (List.replicate n zeroF)[o / 5]? = some zeroF := by rw [List.getElem?_replicate, if_pos (by omega)]
    have key : ∀ q, q < 5 → (frCells zeroF)[q]? = some (.int .i64 0) := fun q hq => by
      rcases (show q = 0 ∨ q = 1 ∨ q = 2 ∨ q = 3 ∨ q = 4 by omega) with rfl | rfl | rfl | rfl | rfl <;> rfl
    have h2 := flat_at frCells 5 fr_len _ (o / 5) zeroF hz (o % 5) _ (key _ (by omega))
    rw [show o / 5 * 5 + o % 5 = o by omega] at h2
    rw [e1, h2]
  · rw [List.getElem?_eq_none (by rw [Array.length_toList]; unfold madeCells; simp; omega), List.getElem?_eq_none (by rw [flat_len frCells 5 fr_len, List.length_replicate]; omega)]

theorem ref_new_ok (n : Nat) (rs : Int) (w : World) (h1 : 1 ≤ n) (h2 : n ≤ 256) (h3 : 0 ≤ rs) (h4 : rs ≤ n) :
    Calls Tryz.prog 8 #[.int .i64 n, .int .i64 rs] w fun e w' => ∃ r g c, e = .returned (.pointer (some ⟨r, 0, none⟩)) ∧ RP w' r rs (List.replicate n zeroF) g c ∧ w.grownBy w' none ∧ ∀ b, b ∈ [r, g] → w.heap.size ≤ b := by
  have hmk : (Instr.makeSlice 70 (.int .i64 (n : Int)) (.int .i64 (n : Int))).run Tryz.prog w = .ok (.slice (some ⟨w.heap.size, 0, none⟩) n n) (w.alloc (.cells (madeCells zeroCs (n * 5)) 99)) := by
    obtain ⟨i0, hi, hz0, hz1, hz2⟩ := info_parts info_rfr
    have hr := run_make (P := Tryz.prog) w 70 99 i0 _ Tryz.underlying70 hi hz0 .i64 .i64 (n : Int) (n : Int) (by omega) (by omega) (by rw [hz2]; omega) (by omega)
    rw [hr, Int.toNat_natCast, hz1]
    rfl
  obtain ⟨X, hX⟩ : ∃ X, X = madeCells zeroCs (n * 5) := ⟨_, rfl⟩
  have hXl : X.toList = (List.replicate n zeroF).flatMap frCells := by rw [hX]; exact made_zeroF n
  have hXs : X.size = n * 5 := by rw [hX]; unfold madeCells; simp
  rw [← hX] at hmk
  have ga := World.grownBy_alloc w (.cells X 99 (0, 0)) none
  have gb := grown_trans ga (World.grownBy_alloc (w.alloc (.cells X 99 (0, 0))) (.cells #[.slice (some ⟨w.heap.size, 0, none⟩) n n, .int .i64 rs] 72 (0, 0)) none)
  have hb := heap_alloc_new (w.alloc (.cells X 99 (0, 0))) (.cells #[.slice (some ⟨w.heap.size, 0, none⟩) n n, .int .i64 rs] 72 (0, 0))
  rw [World.size_alloc] at hb
  have hg := (World.grownBy_alloc (w.alloc (.cells X 99 (0, 0))) (.cells #[.slice (some ⟨w.heap.size, 0, none⟩) n n, .int .i64 rs] 72 (0, 0)) none).block w.heap.size (by simp) (by simp) |>.trans (heap_alloc_new w _)
  have HP := Lib.hid (show RP _ (w.heap.size + 1) rs (List.replicate n zeroF) w.heap.size n from
    ⟨by rw [List.length_replicate]; exact hb, ⟨by rw [flat_len frCells 5 fr_len], .inr ⟨w.heap.size, n, X, rfl, Nat.zero_le _, hg, by rw [List.length_replicate]; exact Nat.le_refl _, by unfold maxLen; omega, hXs, by rw [List.length_replicate, ← hXl, List.take_of_length_le (by simp [hXs])]⟩⟩, by rw [List.length_replicate]; exact h1, by rw [List.length_replicate]; exact h2, h3, by rw [List.length_replicate]; exact h4⟩)
  have HG := Lib.hid gb
  have d0 : decide ((n : Int) < 1) = false := by simp; omega
  have d1 : decide ((n : Int) > 256) = false := by simp; omega
  have d2 : decide (rs < 0) = false := by simp; omega
  have d3 : decide (rs > (n : Int)) = false := by simp; omega
  clear hX hXl hXs ga gb hb hg
  go_enter Tryz.func8, Tryz.ntmps8
  go_wp2_with fail
  go_ret
  exact ⟨w.heap.size + 1, w.heap.size, n, rfl, HP.out, HG.out, by intro b hb; simp at hb; omega⟩

theorem ref_new_no (n rs : Int) (w : World) (h : ¬ (1 ≤ n ∧ n ≤ 256 ∧ 0 ≤ rs ∧ rs ≤ n)) :
    Calls Tryz.prog 8 #[.int .i64 n, .int .i64 rs] w fun e w' => e = .returned (.pointer none) ∧ w' = w := by
  rcases (show n < 1 ∨ (¬ n < 1 ∧ 256 < n) ∨ (¬ n < 1 ∧ ¬ 256 < n ∧ rs < 0) ∨ (¬ n < 1 ∧ ¬ 256 < n ∧ ¬ rs < 0 ∧ n < rs) by omega) with h1 | ⟨h1, h2⟩ | ⟨h1, h2, h3⟩ | ⟨h1, h2, h3, h4⟩
  all_goals
    clear h
    go_enter Tryz.func8, Tryz.ntmps8
    go_wp2_with fail
    go_ret
    exact ⟨rfl, rfl⟩

section
variable {w : World} {r g c : Nat} {rs : Int} {xs : List FrV}

theorem ref_is (h : RP w r rs xs g c) (fr : Int) (b : Bool) (hb : b = decide (0 ≤ fr ∧ fr < xs.length)) : Calls Tryz.prog 90 #[.pointer (some ⟨r, 0, none⟩), .int .i64 fr] w fun e w' => e = .returned (.bool b) ∧ w' = w := by
  obtain ⟨c0, c1⟩ := h.at
  clear h
  by_cases h0 : 0 ≤ fr
  · by_cases h1 : fr < xs.length
    · rw [decide_eq_true ⟨h0, h1⟩] at hb
      subst hb
      go_enter Tryz.func90, Tryz.ntmps90
      go_wp2_with fail
      go_ret
      exact ⟨rfl, rfl⟩
    · rw [decide_eq_false (fun k => h1 k.2)] at hb
      subst hb
      go_enter Tryz.func90, Tryz.ntmps90
      go_wp2_with fail
      go_ret
      exact ⟨rfl, rfl⟩
  · rw [decide_eq_false (fun k => h0 k.1)] at hb
    subst hb
    go_enter Tryz.func90, Tryz.ntmps90
    go_wp2_with fail
    go_ret
    exact ⟨rfl, rfl⟩

theorem ref_count (h : RP w r rs xs g c) (cl : Int) : Calls Tryz.prog 62 #[.pointer (some ⟨r, 0, none⟩), .int .i64 cl] w fun e w' => e = .returned (.int .i64 (countF xs cl)) ∧ w.grownBy w' none := by
  obtain ⟨c0, c1⟩ := h.at
  have hl := h.len1
  have HR := Lib.hid h
  clear h
  go_enter Tryz.func62, Tryz.ntmps62
  go_wp2_with fail
  go_loopw [5, 7, 13] (fun nv _ iv wr => ∃ (j : Nat) (k : Int), j ≤ xs.length ∧ iv = .int .i64 j ∧ nv = .int .i64 k ∧ 0 ≤ k ∧ k ≤ j ∧ Hid (k = countF (xs.take j) cl) ∧ Hid (w.grownBy wr none)) (fun _ _ iv _ => xs.length - (intOf iv).toNat)
  case atStart => exact ⟨0, 0, by omega, rfl, rfl, by omega, by omega, rfl, grown_refl _ _⟩
  case round =>
    obtain ⟨j, k, hj, rfl, rfl, hk0, hk1, HKj, HG⟩ := hrel
    by_cases hlt : j < xs.length
    · obtain ⟨x, hx⟩ : ∃ x, xs[j]? = some x := ⟨_, List.getElem?_eq_getElem hlt⟩
      obtain ⟨f0, f1, f2, f3, f4⟩ := (HR.out.grow HG.out).fr hx
      have hn := count_take hx cl
      have HG2 := Lib.hid (grown_trans HG.out (World.grownBy_alloc wr (.cells #[.int .i64 x.cl, .int .i64 x.ow, .int .i64 x.ix, .int .i64 x.wi, .int .i64 x.lo] 99 (0, 0)) none))
      obtain ⟨b0, _⟩ := (FrB.new wr 99 x).at
      obtain ⟨xc, xo, xi, xw, xl⟩ := x
      simp only at *
      by_cases hc : xc = cl
      · rw [if_pos hc] at hn
        have hb : (xc == cl) = true := by simpa using hc
        have HN := Lib.hid hn
        clear hn hc hx
        go_wp2_with fail
        go_roundw
        case rel => exact ⟨j + 1, k + 1, by omega, by go_num, rfl, by omega, by omega, by show k + 1 = _; rw [HN.out, ← HKj.out], HG2⟩
        case measure => simp [intOf]; omega
      · rw [if_neg hc, Int.add_zero] at hn
        have hb : (xc == cl) = false := by simpa using hc
        have HN := Lib.hid hn
        clear hn hc hx
        go_wp2_with fail
        go_roundw
        case rel => exact ⟨j + 1, k, by omega, by go_num, rfl, by omega, by omega, by show k = _; rw [HN.out, ← HKj.out], HG2⟩
        case measure => simp [intOf]; omega
    · obtain rfl : j = xs.length := by omega
      have hk := HKj.out
      rw [List.take_of_length_le (Nat.le_refl _)] at hk
      have HK2 := Lib.hid hk
      clear hk
      go_wp2_with fail
      go_ret
      exact ⟨by rw [← HK2.out]; rfl, HG.out⟩

end
end Go.Proofs.YtlieommbomjdaaaGreat

namespace Go.Proofs.YtlieommbomjdaaaGreat
open Go.ChangeShapes Go.WideShapes Go.ChangeAt Go.RowKit Go.Deep
set_option linter.unusedVariables false

/-- A pool behind a call. -/
def RLeft (w w' : World) (r g : Nat) (rs : Int) (zs : List FrV) : Prop := ∃ g' c', RP w' r rs zs g' c' ∧ Turn [r] w w' ∧ (g' = g ∨ w.heap.size ≤ g')

theorem frs_one (xs : List FrV) : ∀ u, u ∈ xs.flatMap frCells → u.oneCell' = true := by
  intro u hu
  obtain ⟨x, _, hx⟩ := List.mem_flatMap.1 hu
  simp [frCells] at hx
  rcases hx with rfl | rfl | rfl | rfl | rfl <;> rfl

/-- append([]Frame{}, l...). -/
theorem wpList_frs {ops : Array Oper} {rest : List Oper} {o : Oper} {a : Act} {Q : Exit → Act → World → Prop} {w : World} (hgd : o.guard = none) (x y : Operand)
    (hop : o.op = Op.call { callee := Callee.builtin Builtin.append, args := #[x, y], argTypes := #[70, 70] })
    {g b c : Nat} {xs : List FrV} (hg : w.heap[g]? = some (.cells #[] 99 (0, 0))) (hx : a.eval x = .slice (some ⟨g, 0, none⟩) 0 0) (hy : a.eval y = .slice (some ⟨b, 0, none⟩) xs.length c)
    (hr : w.ownsRow 0 99 5 (.slice (some ⟨b, 0, none⟩) xs.length c) xs.length (xs.flatMap frCells)) (h0 : 1 ≤ xs.length) (hl : xs.length ≤ 256)
    (hK : ∀ g' c' w', g ≤ g' → w'.ownsRow 0 99 5 (.slice (some ⟨g', 0, none⟩) xs.length c') xs.length (xs.flatMap frCells) → w.grownBy w' (some g) → wpList Tryz.prog ops Q rest (a.put o.dst (.slice (some ⟨g', 0, none⟩) xs.length c')) w') :
    wpList Tryz.prog ops Q (o :: rest) a w := by
  have hglt := (Array.getElem?_eq_some_iff.1 hg).1
  obtain ⟨i0, hi, hz0, hz1, hz2⟩ := info_parts info_rfr
  have hown : w.ownsRow g 99 5 (.slice (some ⟨g, 0, none⟩) 0 0) 0 [] := ⟨rfl, .inr ⟨g, 0, #[], rfl, Nat.le_refl _, hg, Nat.le_refl _, by simp [maxLen], rfl, rfl⟩⟩
  refine wpList_plain hgd fun K hK' => ?_
  obtain ⟨g', cap, w', hrun, h2, h3, h4, h5⟩ := run_append_lies (P := Tryz.prog) w 70 o.type g 99 i0 (.agg #[.int .i64 0, .int .i64 0, .int .i64 0, .int .i64 0, .int .i64 0]) 5 40 Tryz.underlying70 hi hz0 hz1 hz2 rfl (by decide) _ 0 [] hown ⟨b, 0, none⟩ xs.length c (xs.flatMap frCells) (flat_len frCells 5 fr_len xs)
    (hr.cells (g := b) rfl) (frs_one xs) h0 (by unfold maxLen; omega) (by omega) (Nat.le_of_lt hglt) w.heap.size rfl
  rw [Nat.zero_add] at hrun h2
  rw [List.nil_append] at h2
  have hle := (World.ownsRow.lt h2 g' rfl).1
  have hrow : w'.ownsRow 0 99 5 (.slice (some ⟨g', 0, none⟩) xs.length cap) xs.length (xs.flatMap frCells) := by
    refine ⟨h2.1, ?_⟩
    rcases h2.2 with ⟨e, _⟩ | ⟨q, cp, cur, e, _, h6⟩
    · cases e
    · exact .inr ⟨q, cp, cur, e, Nat.zero_le _, h6⟩
  have hfin := hK g' cap w' hle hrow (by simpa [Value.ownBlock] using h3)
  unfold Oper.wp
  simp [execOp, hop, resolve, invoke, builtin, hx, hy, hrun, Result.andThen]
  exact hK' _ _ hfin

theorem flat_set5 (xs : List FrV) (i : Nat) (y : FrV) (hi : i < xs.length) : (xs.set i y).flatMap frCells = (((((xs.flatMap frCells).set (i * 5) (.int .i64 y.cl)).set (i * 5 + 1) (.int .i64 y.ow)).set (i * 5 + 2) (.int .i64 y.ix)).set (i * 5 + 3) (.int .i64 y.wi)).set (i * 5 + 4) (.int .i64 y.lo) := by
  induction xs generalizing i with
  | nil => simp at hi
  | cons z xs ih =>
    cases i with
    | zero => simp [frCells]
    | succ i =>
      rw [List.set_cons_succ, List.flatMap_cons, ih i (by simpa using hi), List.flatMap_cons]
      have e0 : (i + 1) * 5 = (frCells z).length + i * 5 := by simp [frCells]; omega
      have e1 : (i + 1) * 5 + 1 = (frCells z).length + (i * 5 + 1) := by simp [frCells]; omega
      have e2 : (i + 1) * 5 + 2 = (frCells z).length + (i * 5 + 2) := by simp [frCells]; omega
      have e3 : (i + 1) * 5 + 3 = (frCells z).length + (i * 5 + 3) := by simp [frCells]; omega
      have e4 : (i + 1) * 5 + 4 = (frCells z).length + (i * 5 + 4) := by simp [frCells]; omega
      rw [e1, e2, e3, e4, e0, List.set_append_right _ _ (by omega), List.set_append_right _ _ (by omega), List.set_append_right _ _ (by omega), List.set_append_right _ _ (by omega), List.set_append_right _ _ (by omega)]
      simp

/-- One frame of the row is another one. -/
theorem RP.set {w : World} {r g c : Nat} {rs : Int} {xs : List FrV} (h : RP w r rs xs g c) (i : Nat) (y : FrV) (hi : i < xs.length) :
    RP (((((w.setCell ⟨g, i * 5, none⟩ (.int .i64 y.cl)).setCell ⟨g, i * 5 + 1, none⟩ (.int .i64 y.ow)).setCell ⟨g, i * 5 + 2, none⟩ (.int .i64 y.ix)).setCell ⟨g, i * 5 + 3, none⟩ (.int .i64 y.wi)).setCell ⟨g, i * 5 + 4, none⟩ (.int .i64 y.lo)) r rs (xs.set i y) g c := by
  have ho : ∀ (W : World) (o : Nat) (v : Value), (W.setCell ⟨g, o, none⟩ v).heap[r]? = W.heap[r]? := fun W o v => heap_setCell_other W _ r v (by first | exact h.ne | exact h.ne.symm)
  refine ⟨by rw [ho, ho, ho, ho, ho, List.length_set]; exact h.head, ?_, by rw [List.length_set]; exact h.len0, by rw [List.length_set]; exact h.len1, h.rs0, by rw [List.length_set]; exact h.rs1⟩
  have hl := flat_len frCells 5 fr_len (xs.set i y)
  rw [List.length_set] at hl
  rcases h.row.2 with ⟨e, _⟩ | ⟨g', cap, cur, hsl, hb, hg, h1, h2, h3, ht⟩
  · cases e
  · simp only [Value.slice.injEq, Option.some.injEq, Addr.mk.injEq] at hsl
    obtain ⟨⟨rfl, _⟩, _, rfl⟩ := hsl
    have g0 := heap_setCell_same w g (i * 5) _ _ (.int .i64 y.cl) hg
    have g1 := heap_setCell_same _ g (i * 5 + 1) _ _ (.int .i64 y.ow) g0
    have g2 := heap_setCell_same _ g (i * 5 + 2) _ _ (.int .i64 y.ix) g1
    have g3 := heap_setCell_same _ g (i * 5 + 3) _ _ (.int .i64 y.wi) g2
    have g4 := heap_setCell_same _ g (i * 5 + 4) _ _ (.int .i64 y.lo) g3
    refine ⟨by rw [List.length_set]; exact hl, .inr ⟨g, c, _, by rw [List.length_set], hb, g4, by rw [List.length_set]; exact h1, h2, by simp [h3], ?_⟩⟩
    rw [flat_set5 xs i y hi, ← ht, List.length_set]
    simp only [Array.toList_setIfInBounds, List.take_set]

section
variable {w : World} {r g c : Nat} {rs : Int} {xs : List FrV}

set_option maxHeartbeats 1000000 in
theorem ref_set (h : RP w r rs xs g c) (k : Nat) (y : FrV) (hk : k < xs.length) :
    Calls Tryz.prog 63 #[.pointer (some ⟨r, 0, none⟩), .int .i64 k, .agg #[.int .i64 y.cl, .int .i64 y.ow, .int .i64 y.ix, .int .i64 y.wi, .int .i64 y.lo]] w fun e w' => e = .returned (.tuple #[]) ∧ RLeft w w' r g rs (xs.set k y) := by
  have ga := World.grownBy_alloc w (.cells #[.int .i64 y.cl, .int .i64 y.ow, .int .i64 y.ix, .int .i64 y.wi, .int .i64 y.lo] 99 (0, 0)) none
  have hB := FrB.new w 99 y
  have hA := h.grow ga
  obtain ⟨yc, yo, yi, yw, yl⟩ := y
  simp only at *
  have hsz := World.size_alloc w (.cells #[.int .i64 yc, .int .i64 yo, .int .i64 yi, .int .i64 yw, .int .i64 yl] 99 (0, 0))
  generalize hwA : w.alloc (.cells #[.int .i64 yc, .int .i64 yo, .int .i64 yi, .int .i64 yw, .int .i64 yl] 99 (0, 0)) = wA at *
  have gc := World.grownBy_alloc wA (.cells #[] 99 (0, 0)) none
  have hC := hA.grow gc
  obtain ⟨c0, c1⟩ := hA.at
  obtain ⟨c2, c3⟩ := hC.at
  have HN := Lib.hid (heap_alloc_new wA (.cells #[] 99 (0, 0)))
  have HC := Lib.hid hC
  have HB := Lib.hid (hB.grow gc)
  have HG := Lib.hid (grown_trans ga gc)
  have HL := Lib.hid h
  have HSZ := Lib.hid (show w.heap.size < wA.heap.size by omega)
  have hl0 := h.len0
  have hl1 := h.len1
  clear ga gc hB hA hC h hsz
  go_enter Tryz.func63, Tryz.ntmps63
  go_wp2_with (at_builtin; refine wpList_frs rfl _ _ rfl HN.out rfl rfl HC.out.row hl0 hl1 ?_; intro g9 c9 w9 hle9 hrow9 gr9; have h9 := HC.out; have HR9 := Lib.hid hrow9; have HLE := Lib.hid hle9; have G9 := Lib.hid gr9; have hp9 := (gr9.block r HC.out.rlt (fun e => (by have := HL.out.rlt; have := HSZ.out; have := Option.some.inj e; omega))).trans HC.out.head; have cp9 : w9.cell? ⟨r, 0, none⟩ = some (.slice (some ⟨g, 0, none⟩) xs.length c) := (by rw [cell_of_row _ _ _ _ _ _ hp9]; rfl); have fp9 := frozen_of_row w9 r 0 _ _ hp9; have HP9 := Lib.hid hp9; clear hp9 h9 hle9 hrow9 gr9)
  have hg9r : g9 ≠ r := by have := HLE.out; have := HL.out.rlt; have := HSZ.out; omega
  have hP10 : RP (w9.setCell ⟨r, 0, none⟩ (.slice (some ⟨g9, 0, none⟩) xs.length c9)) r rs xs g9 c9 := by
    have hw9 := HR9.out
    refine ⟨heap_setCell_same w9 r 0 _ _ _ HP9.out, ⟨hw9.1, ?_⟩, HL.out.len0, HL.out.len1, HL.out.rs0, HL.out.rs1⟩
    rcases hw9.2 with ⟨e, _⟩ | ⟨q, cp, cur, e, q1, q2, q3⟩
    · cases e
    · refine .inr ⟨q, cp, cur, e, q1, ?_, q3⟩
      simp only [Value.slice.injEq, Option.some.injEq, Addr.mk.injEq] at e
      rw [← q2]
      exact heap_setCell_other w9 _ q _ (by first | exact (e.1.1 ▸ hg9r) | exact fun e2 => hg9r (e.1.1.trans e2.symm) | exact fun e2 => hg9r (e.1.1.trans e2))
  have hT10 : Turn [r] w (w9.setCell ⟨r, 0, none⟩ (.slice (some ⟨g9, 0, none⟩) xs.length c9)) :=
    (Turn.grown (grown_at HG.out G9.out (by have := HSZ.out; omega))).trans' (Turn.setCell [r] w9 r 0 _ (by simp))
  have hB10 : FrB (w9.setCell ⟨r, 0, none⟩ (.slice (some ⟨g9, 0, none⟩) xs.length c9)) w.heap.size 99 ⟨yc, yo, yi, yw, yl⟩ := by
    have e1 := (G9.out.block w.heap.size (by have := HB.out.lt; exact this) (fun e => by have := HSZ.out; have := Option.some.inj e; omega)).trans HB.out
    exact (heap_setCell_other w9 _ w.heap.size _ (by have := HL.out.rlt; first | exact fun e => by (have : r = w.heap.size := e); omega | exact fun e => by (have : w.heap.size = r := e); omega)).trans e1
  generalize w9.setCell ⟨r, 0, none⟩ (.slice (some ⟨g9, 0, none⟩) xs.length c9) = w10 at *
  have hP := hP10.grow (grown_drew1 w10)
  have hB := hB10.grow (grown_drew1 w10)
  obtain ⟨x, hx⟩ : ∃ x, xs[k]? = some x := ⟨_, List.getElem?_eq_getElem hk⟩
  obtain ⟨f0, f1, f2, f3, f4⟩ := hP10.fr hx
  obtain ⟨cur, hcur, _⟩ := hP10.cur
  have z0 := frozen_of_row w10 g9 (k * 5) _ _ hcur
  have z1 := frozen_of_row w10 g9 (k * 5 + 1) _ _ hcur
  have z2 := frozen_of_row w10 g9 (k * 5 + 2) _ _ hcur
  have z3 := frozen_of_row w10 g9 (k * 5 + 3) _ _ hcur
  have z4 := frozen_of_row w10 g9 (k * 5 + 4) _ _ hcur
  have s0 := Lib.hid (show w10.drew.cell? ⟨r, 0, none⟩ = some (.slice (some ⟨g9, 0, none⟩) xs.length c9) ∧ (w10.drew.cell? ⟨w.heap.size, 0, none⟩ = some (.int .i64 yc) ∧ w10.drew.cell? ⟨w.heap.size, 1, none⟩ = some (.int .i64 yo) ∧ w10.drew.cell? ⟨w.heap.size, 2, none⟩ = some (.int .i64 yi) ∧ w10.drew.cell? ⟨w.heap.size, 3, none⟩ = some (.int .i64 yw) ∧ w10.drew.cell? ⟨w.heap.size, 4, none⟩ = some (.int .i64 yl)) from ⟨hP.at.1, hB.at⟩)
  have hcell : ∀ W : World, (∀ b, b ≠ g9 → W.heap[b]? = w10.drew.heap[b]?) → W.cell? ⟨r, 0, none⟩ = some (.slice (some ⟨g9, 0, none⟩) xs.length c9) ∧ (W.cell? ⟨w.heap.size, 0, none⟩ = some (.int .i64 yc) ∧ W.cell? ⟨w.heap.size, 1, none⟩ = some (.int .i64 yo) ∧ W.cell? ⟨w.heap.size, 2, none⟩ = some (.int .i64 yi) ∧ W.cell? ⟨w.heap.size, 3, none⟩ = some (.int .i64 yw) ∧ W.cell? ⟨w.heap.size, 4, none⟩ = some (.int .i64 yl)) := fun W hW => by
    have hb : w.heap.size ≠ g9 := by have := HLE.out; have := HSZ.out; omega
    have e1 := (hW r hg9r.symm).trans hP.head
    have e2 : FrB W w.heap.size 99 ⟨yc, yo, yi, yw, yl⟩ := (hW _ hb).trans hB
    exact ⟨by rw [cell_of_row _ _ _ _ _ _ e1]; rfl, e2.at⟩
  have hoth : ∀ b, b ≠ g9 → ((((((w10.setCell ⟨g9, k * 5, none⟩ (.int .i64 yc)).setCell ⟨g9, k * 5 + 1, none⟩ (.int .i64 yo)).setCell ⟨g9, k * 5 + 2, none⟩ (.int .i64 yi)).setCell ⟨g9, k * 5 + 3, none⟩ (.int .i64 yw)).setCell ⟨g9, k * 5 + 4, none⟩ (.int .i64 yl)).drew).heap[b]? = w10.drew.heap[b]? := fun b hb => by
    have ho : ∀ (W : World) (o : Nat) (v : Value), (W.setCell ⟨g9, o, none⟩ v).heap[b]? = W.heap[b]? := fun W o v => heap_setCell_other W _ b v (by first | exact hb | exact hb.symm)
    show (((((w10.setCell ⟨g9, k * 5, none⟩ (.int .i64 yc)).setCell ⟨g9, k * 5 + 1, none⟩ (.int .i64 yo)).setCell ⟨g9, k * 5 + 2, none⟩ (.int .i64 yi)).setCell ⟨g9, k * 5 + 3, none⟩ (.int .i64 yw)).setCell ⟨g9, k * 5 + 4, none⟩ (.int .i64 yl)).heap[b]? = w10.heap[b]?
    rw [ho, ho, ho, ho, ho]
  have s9 := Lib.hid (hcell _ hoth)
  have hS := (hP10.set k ⟨yc, yo, yi, yw, yl⟩ hk).grow (grown_drew1 _)
  have HS := Lib.hid hS
  have HT := Lib.hid (show Turn [r] w ((((((w10.setCell ⟨g9, k * 5, none⟩ (.int .i64 yc)).setCell ⟨g9, k * 5 + 1, none⟩ (.int .i64 yo)).setCell ⟨g9, k * 5 + 2, none⟩ (.int .i64 yi)).setCell ⟨g9, k * 5 + 3, none⟩ (.int .i64 yw)).setCell ⟨g9, k * 5 + 4, none⟩ (.int .i64 yl)).drew) from
    (hT10.trans (O' := [g9]) ((((Turn.setCell [g9] _ g9 _ _ (by simp)).trans' (Turn.setCell [g9] _ g9 _ _ (by simp))).trans' (Turn.setCell [g9] _ g9 _ _ (by simp))).trans' (Turn.setCell [g9] _ g9 _ _ (by simp)) |>.trans' (Turn.setCell [g9] _ g9 _ _ (by simp))) (fun b hb => by
      right
      have hb1 : b = g9 := by simpa using hb
      have := HLE.out; have := HSZ.out; omega)).trans' (Turn.grown (grown_drew1 _)))
  clear hP10 hT10 hB10 hP hB hS hcur hcell hoth hx
  go_region_held3 (fun W => W.cell? ⟨r, 0, none⟩ = some (.slice (some ⟨g9, 0, none⟩) xs.length c9) ∧ (W.cell? ⟨w.heap.size, 0, none⟩ = some (.int .i64 yc) ∧ W.cell? ⟨w.heap.size, 1, none⟩ = some (.int .i64 yo) ∧ W.cell? ⟨w.heap.size, 2, none⟩ = some (.int .i64 yi) ∧ W.cell? ⟨w.heap.size, 3, none⟩ = some (.int .i64 yw) ∧ W.cell? ⟨w.heap.size, 4, none⟩ = some (.int .i64 yl)))
    (first | with_reducible exact s0.out | with_reducible exact s9.out) (fail)
  all_goals
    go_wp2_with fail
    go_end0
    exact ⟨rfl, g9, c9, HS.out, HT.out, .inr (by have := HLE.out; have := HSZ.out; omega)⟩
end
end Go.Proofs.YtlieommbomjdaaaGreat

namespace Go.Proofs.YtlieommbomjdaaaGreat
open Go.ChangeShapes Go.WideShapes Go.ChangeAt Go.RowKit Go.Deep
set_option linter.unusedVariables false

section
variable {w : World} {r g c : Nat} {rs : Int} {xs : List FrV}
theorem RP.stay (h : RP w r rs xs g c) : RLeft w w r g rs xs := ⟨g, c, h, Turn.refl _ _, .inl rfl⟩
theorem RP.stay' {w' : World} (h : RP w r rs xs g c) (k : w.grownBy w' none) : RLeft w w' r g rs xs := ⟨g, c, h.grow k, Turn.grown k, .inl rfl⟩

theorem RLeft.back {w1 w2 : World} {zs : List FrV} (h : RLeft w1 w2 r g rs zs) (k : w.grownBy w1 none) : RLeft w w2 r g rs zs := by
  obtain ⟨g', c', h1, h2, h3⟩ := h
  exact ⟨g', c', h1, (Turn.grown k).trans' h2, h3.imp id fun q => Nat.le_trans k.size q⟩

set_option maxHeartbeats 1000000 in
theorem ref_give (h : RP w r rs xs g c) (fr : Int) :
    Calls Tryz.prog 58 #[.pointer (some ⟨r, 0, none⟩), .int .i64 fr] w fun e w' => e = .returned (.int .i64 (giveF xs fr).e) ∧ RLeft w w' r g rs (giveF xs fr).xs := by
  obtain ⟨c0, c1⟩ := h.at
  have HR := Lib.hid h
  by_cases hc : 0 ≤ fr ∧ fr < xs.length
  · obtain ⟨k, rfl⟩ := Int.eq_ofNat_of_zero_le hc.1
    have hk : k < xs.length := by omega
    obtain ⟨x, hx⟩ : ∃ x, xs[k]? = some x := ⟨_, List.getElem?_eq_getElem hk⟩
    have HI := Lib.hid (ref_is h k true (by rw [decide_eq_true hc]))
    have HS := Lib.hid (ref_set h k zeroF hk)
    obtain ⟨f0, f1, f2, f3, f4⟩ := h.fr hx
    by_cases h0 : x.cl = 0
    · rw [show giveF xs k = ⟨0, 2, xs⟩ from atF_free hx h0]
      have b0 : (x.cl == 0) = true := by simpa using h0
      clear h hc hx h0 HS
      go_enter Tryz.func58, Tryz.ntmps58
      go_wp2_with fail
      refine HI.out.mono ?_
      rintro e w2 ⟨rfl, rfl⟩
      go_wp2_with fail
      go_ret
      exact ⟨rfl, HR.out.stay⟩
    · have b0 : (x.cl == 0) = false := by simpa using h0
      by_cases hw : x.wi = 0
      · have b1 : (x.wi != 0) = false := by simpa using hw
        by_cases hl : x.lo = 0
        · have b2 : (x.lo != 0) = false := by simpa using hl
          have ha : giveF xs k = ⟨0, 0, xs.set k zeroF⟩ := by
            unfold giveF
            rw [atF_at hx h0, if_neg (by rintro (q | q) <;> contradiction)]
          rw [ha]
          unfold zeroF at HS ⊢
          simp only at HS
          clear h hc hx h0 hw hl ha
          go_enter Tryz.func58, Tryz.ntmps58
          go_wp2_with fail
          refine HI.out.mono ?_
          rintro e w2 ⟨rfl, rfl⟩
          go_wp2_with fail
          refine HS.out.mono ?_
          rintro e w2 ⟨rfl, h2⟩
          have H2 := Lib.hid h2
          clear h2
          go_wp2_with fail
          go_ret
          exact ⟨rfl, H2.out⟩
        · have b2 : (x.lo != 0) = true := by simpa using hl
          have ha : giveF xs k = ⟨0, 8, xs⟩ := by
            unfold giveF
            rw [atF_at hx h0, if_pos (.inr hl), set_self hx]
          rw [ha]
          clear h hc hx h0 hw hl ha HS
          go_enter Tryz.func58, Tryz.ntmps58
          go_wp2_with fail
          refine HI.out.mono ?_
          rintro e w2 ⟨rfl, rfl⟩
          go_wp2_with fail
          go_ret
          exact ⟨rfl, HR.out.stay⟩
      · have b1 : (x.wi != 0) = true := by simpa using hw
        have ha : giveF xs k = ⟨0, 8, xs⟩ := by
          unfold giveF
          rw [atF_at hx h0, if_pos (.inl hw), set_self hx]
        rw [ha]
        clear h hc hx h0 hw ha HS
        go_enter Tryz.func58, Tryz.ntmps58
        go_wp2_with fail
        refine HI.out.mono ?_
        rintro e w2 ⟨rfl, rfl⟩
        go_wp2_with fail
        go_ret
        exact ⟨rfl, HR.out.stay⟩
  · have HI := Lib.hid (ref_is h fr false (by rw [decide_eq_false hc]))
    rw [show giveF xs fr = ⟨0, 7, xs⟩ from atF_out hc]
    clear h hc
    go_enter Tryz.func58, Tryz.ntmps58
    go_wp2_with fail
    refine HI.out.mono ?_
    rintro e w2 ⟨rfl, rfl⟩
    go_wp2_with fail
    go_ret
    exact ⟨rfl, HR.out.stay⟩

theorem free_at {xs : List FrV} {j : Nat} {x : FrV} (hx : xs[j]? = some x) (h0 : x.cl = 0) (hb : ∀ i z, i < j → xs[i]? = some z → z.cl ≠ 0) : freeAt xs = some j := by
  have hj := (List.getElem?_eq_some_iff.1 hx).1
  unfold freeAt
  rw [List.findIdx?_eq_some_iff_getElem]
  refine ⟨hj, ?_, fun i hi => ?_⟩
  · rw [(List.getElem?_eq_some_iff.1 hx).2]; simpa using h0
  · have := hb i (xs[i]'(by omega)) hi (List.getElem?_eq_getElem (by omega))
    simpa using this

set_option maxHeartbeats 2000000 in
theorem ref_take (h : RP w r rs xs g c) (cl ow ix : Int) :
    Calls Tryz.prog 30 #[.pointer (some ⟨r, 0, none⟩), .int .i64 cl, .int .i64 ow, .int .i64 ix] w fun e w' => e = .returned (.tuple #[.int .i64 (takeF rs xs cl ow ix).n, .int .i64 (takeF rs xs cl ow ix).e]) ∧ RLeft w w' r g rs (takeF rs xs cl ow ix).xs := by
  have HR := Lib.hid h
  by_cases hm : isCls cl
  · have hm1 : ¬ cl < 1 := by have := hm.1; omega
    have hm2 : ¬ 4 < cl := by have := hm.2; omega
    have hcn := h.len1
    have HC := Lib.hid (ref_count h 0)
    obtain ⟨n, hn⟩ : ∃ n, countF xs 0 = n := ⟨_, rfl⟩
    rw [hn] at HC
    by_cases hz : n = 0
    · have ha : takeF rs xs cl ow ix = ⟨0, 5, xs⟩ := by
        unfold takeF
        rw [if_neg (not_not_intro hm), if_pos (.inl (by rw [hn]; exact hz))]
      rw [ha]
      subst hz
      clear h hm ha hn
      go_enter Tryz.func30, Tryz.ntmps30
      go_wp2_with fail
      refine HC.out.mono ?_
      rintro e w2 ⟨rfl, g2⟩
      have H2 := Lib.hid (HR.out.stay' g2)
      clear g2
      go_wp2_with fail
      go_ret2
      exact ⟨rfl, H2.out⟩
    · have bz : (n == 0) = false := by simpa using hz
      by_cases hq : cl ≠ 1 ∧ n ≤ rs
      · have ha : takeF rs xs cl ow ix = ⟨0, 5, xs⟩ := by
          unfold takeF
          rw [if_neg (not_not_intro hm), if_pos (.inr (by rw [hn]; exact hq))]
        rw [ha]
        have b1 : (cl != 1) = true := by simpa using hq.1
        have hle := hq.2
        clear h hm ha hn hq hz
        go_enter Tryz.func30, Tryz.ntmps30
        go_wp2_with fail
        refine HC.out.mono ?_
        rintro e w2 ⟨rfl, g2⟩
        obtain ⟨c0, c1⟩ := (HR.out.grow g2).at
        have H2 := Lib.hid (HR.out.stay' g2)
        clear g2
        go_wp2_with fail
        go_ret2
        exact ⟨rfl, H2.out⟩
      · have ht : takeF rs xs cl ow ix = takeAt xs cl ow ix (freeAt xs) := by
          unfold takeF
          rw [if_neg (not_not_intro hm), if_neg (by rw [hn]; rintro (q | q); exact hz q; exact hq q)]
        have hfa : freeAt xs ≠ none := fun e => hz (by rw [← hn]; exact count_free.2 e)
        have HT := Lib.hid ht
        have HF := Lib.hid hfa
        have hend : (cl == 1) = true ∨ ((cl == 1) = false ∧ ¬ n ≤ rs) := by
          by_cases e : cl = 1
          · exact .inl (by simpa using e)
          · exact .inr ⟨by simpa using e, fun q => hq ⟨e, q⟩⟩
        clear h hm hn hq hz ht hfa
        rcases hend with h1 | ⟨h1, h2⟩
        · have b1 : (cl != 1) = false := by rw [bne, h1]; rfl
          clear h1
          go_enter Tryz.func30, Tryz.ntmps30
          go_wp2_with fail
          refine HC.out.mono ?_
          rintro e w2 ⟨rfl, g2⟩
          obtain ⟨c0, c1⟩ := (HR.out.grow g2).at
          have HG2 := Lib.hid g2
          clear g2
          go_wp2_with fail
          go_loopw [11, 12, 40] (fun _ _ iv wr => ∃ j : Nat, j ≤ xs.length ∧ iv = .int .i64 j ∧ Hid (w.grownBy wr none) ∧ Hid (∀ (i : Nat) (z : FrV), i < j → xs[i]? = some z → z.cl ≠ 0)) (fun _ _ iv _ => xs.length - (intOf iv).toNat)
          case atStart => exact ⟨0, by omega, rfl, HG2, fun i z hi => by omega⟩
          case round =>
            obtain ⟨j, hj, rfl, HGr, HB⟩ := hrel
            by_cases hlt : j < xs.length
            · obtain ⟨x, hx⟩ : ∃ x, xs[j]? = some x := ⟨_, List.getElem?_eq_getElem hlt⟩
              obtain ⟨f0, f1, f2, f3, f4⟩ := (HR.out.grow HGr.out).fr hx
              have ga := World.grownBy_alloc wr (.cells #[.int .i64 x.cl, .int .i64 x.ow, .int .i64 x.ix, .int .i64 x.wi, .int .i64 x.lo] 99 (0, 0)) none
              obtain ⟨y0, _⟩ := (FrB.new wr 99 x).at
              have HG3 := Lib.hid (grown_trans HGr.out ga)
              by_cases h0 : x.cl = 0
              · have b0 : (x.cl == 0) = true := by simpa using h0
                have HS := Lib.hid (ref_set (HR.out.grow HG3.out) j ⟨cl, ow, ix, 0, 0⟩ hlt)
                have HFA := Lib.hid (free_at hx h0 HB.out)
                clear h0 hx ga
                go_wp2_with fail
                refine HS.out.mono ?_
                rintro e w5 ⟨rfl, h5⟩
                have H5 := Lib.hid (h5.back HG3.out)
                clear h5
                go_wp2_with fail
                go_ret2
                rw [HT.out, HFA.out]
                exact ⟨rfl, H5.out⟩
              · have b0 : (x.cl == 0) = false := by simpa using h0
                have HX := Lib.hid hx
                have H0 := Lib.hid h0
                clear h0 hx ga
                go_wp2_with fail
                go_roundw
                case rel =>
                  refine ⟨j + 1, by omega, by go_num, HG3, ?_⟩
                  show ∀ (i : Nat) (z : FrV), i < j + 1 → xs[i]? = some z → z.cl ≠ 0
                  intro i z hi hz
                  by_cases e : i = j
                  · subst e
                    rw [HX.out] at hz
                    cases hz
                    exact H0.out
                  · exact HB.out i z (by omega) hz
                case measure => simp [intOf]; omega
            · exfalso
              obtain rfl : j = xs.length := by omega
              refine HF.out ?_
              unfold freeAt
              rw [List.findIdx?_eq_none_iff]
              intro z hz
              obtain ⟨i, hi⟩ := List.getElem?_of_mem hz
              have := HB.out i z (List.getElem?_eq_some_iff.1 hi).1 hi
              simpa using this
        · have b1 : (cl != 1) = true := by rw [bne, h1]; rfl
          clear h1
          go_enter Tryz.func30, Tryz.ntmps30
          go_wp2_with fail
          refine HC.out.mono ?_
          rintro e w2 ⟨rfl, g2⟩
          obtain ⟨c0, c1⟩ := (HR.out.grow g2).at
          have HG2 := Lib.hid g2
          clear g2
          go_wp2_with fail
          go_loopw [11, 12, 40] (fun _ _ iv wr => ∃ j : Nat, j ≤ xs.length ∧ iv = .int .i64 j ∧ Hid (w.grownBy wr none) ∧ Hid (∀ (i : Nat) (z : FrV), i < j → xs[i]? = some z → z.cl ≠ 0)) (fun _ _ iv _ => xs.length - (intOf iv).toNat)
          case atStart => exact ⟨0, by omega, rfl, HG2, fun i z hi => by omega⟩
          case round =>
            obtain ⟨j, hj, rfl, HGr, HB⟩ := hrel
            by_cases hlt : j < xs.length
            · obtain ⟨x, hx⟩ : ∃ x, xs[j]? = some x := ⟨_, List.getElem?_eq_getElem hlt⟩
              obtain ⟨f0, f1, f2, f3, f4⟩ := (HR.out.grow HGr.out).fr hx
              have ga := World.grownBy_alloc wr (.cells #[.int .i64 x.cl, .int .i64 x.ow, .int .i64 x.ix, .int .i64 x.wi, .int .i64 x.lo] 99 (0, 0)) none
              obtain ⟨y0, _⟩ := (FrB.new wr 99 x).at
              have HG3 := Lib.hid (grown_trans HGr.out ga)
              by_cases h0 : x.cl = 0
              · have b0 : (x.cl == 0) = true := by simpa using h0
                have HS := Lib.hid (ref_set (HR.out.grow HG3.out) j ⟨cl, ow, ix, 0, 0⟩ hlt)
                have HFA := Lib.hid (free_at hx h0 HB.out)
                clear h0 hx ga
                go_wp2_with fail
                refine HS.out.mono ?_
                rintro e w5 ⟨rfl, h5⟩
                have H5 := Lib.hid (h5.back HG3.out)
                clear h5
                go_wp2_with fail
                go_ret2
                rw [HT.out, HFA.out]
                exact ⟨rfl, H5.out⟩
              · have b0 : (x.cl == 0) = false := by simpa using h0
                have HX := Lib.hid hx
                have H0 := Lib.hid h0
                clear h0 hx ga
                go_wp2_with fail
                go_roundw
                case rel =>
                  refine ⟨j + 1, by omega, by go_num, HG3, ?_⟩
                  show ∀ (i : Nat) (z : FrV), i < j + 1 → xs[i]? = some z → z.cl ≠ 0
                  intro i z hi hz
                  by_cases e : i = j
                  · subst e
                    rw [HX.out] at hz
                    cases hz
                    exact H0.out
                  · exact HB.out i z (by omega) hz
                case measure => simp [intOf]; omega
            · exfalso
              obtain rfl : j = xs.length := by omega
              refine HF.out ?_
              unfold freeAt
              rw [List.findIdx?_eq_none_iff]
              intro z hz
              obtain ⟨i, hi⟩ := List.getElem?_of_mem hz
              have := HB.out i z (List.getElem?_eq_some_iff.1 hi).1 hi
              simpa using this
  · have ha : takeF rs xs cl ow ix = ⟨0, 2, xs⟩ := by
      unfold takeF
      rw [if_pos hm]
    rw [ha]
    rcases (show cl < 1 ∨ (¬ cl < 1 ∧ 4 < cl) by unfold isCls at hm; omega) with h1 | ⟨h1, h2⟩
    · clear h hm ha
      go_enter Tryz.func30, Tryz.ntmps30
      go_wp2_with fail
      go_ret2
      exact ⟨rfl, HR.out.stay⟩
    · clear h hm ha
      go_enter Tryz.func30, Tryz.ntmps30
      go_wp2_with fail
      go_ret2
      exact ⟨rfl, HR.out.stay⟩
end
end Go.Proofs.YtlieommbomjdaaaGreat

namespace Go.Proofs.YtlieommbomjdaaaGreat
open Go.ChangeShapes Go.WideShapes Go.ChangeAt Go.RowKit Go.Deep
set_option linter.unusedVariables false

/-- A pool behind a call. -/
def FLeft (P : World → Nat → Int → List FrV → List Nat → Prop) (w w' : World) (p : Nat) (rs : Int) (O : List Nat) (zs : List FrV) : Prop := ∃ O', P w' p rs zs O' ∧ Turn O w w' ∧ ∀ b, b ∈ O' → b ∈ O ∨ w.heap.size ≤ b

section
variable {P : World → Nat → Int → List FrV → List Nat → Prop} {w w' : World} {p : Nat} {rs : Int} {xs zs : List FrV} {O : List Nat}
theorem FLeft.back {w0 : World} (h : FLeft P w w' p rs O zs) (k : w0.grownBy w none) : FLeft P w0 w' p rs O zs := by
  obtain ⟨O', h1, h2, h3⟩ := h
  exact ⟨O', h1, (Turn.grown k).trans' h2, fun b hb => (h3 b hb).imp id fun q => Nat.le_trans k.size q⟩
end

theorem eql_pool_nil (w : World) (a : Addr) : (binOp .eql 29 (.pointer (some a)) (.pointer none)).run Tryz.prog w = .ok (.bool false) w := by
  have h1 : ∀ d : Nat, (Op.equalIn (d + 1) 29 (.pointer (some a)) (.pointer none)).run Tryz.prog w = .ok false w := fun d => by
    simp [Op.equalIn, run_underlying Tryz.underlying29]
  simp only [binOp]
  simp [Op.equal, Op.maxDepth, h1 9999]

/-! ### the example -/
def lx0 : List FrV := List.replicate 3 zeroF
def lx1 : List FrV := [⟨2, 1, 0, 0, 0⟩, zeroF, zeroF]
def lx2 : List FrV := [⟨2, 1, 0, 0, 0⟩, ⟨2, 1, 0, 0, 0⟩, zeroF]
def lx3 : List FrV := [⟨2, 1, 0, 0, 0⟩, ⟨2, 1, 0, 0, 0⟩, ⟨1, 1, 0, 0, 0⟩]
theorem lx_1 : takeF 1 lx0 2 1 0 = ⟨0, 0, lx1⟩ := rfl
theorem lx_2 : takeF 1 lx1 2 1 0 = ⟨1, 0, lx2⟩ := rfl
theorem lx_3 : takeF 1 lx2 2 1 0 = ⟨0, 5, lx2⟩ := rfl
theorem lx_4 : takeF 1 lx2 1 1 0 = ⟨2, 0, lx3⟩ := rfl
theorem ok_s {x : Int} (h0 : -1000 ≤ x) (h1 : x ≤ 1000) : okI x := ⟨by omega, by omega⟩

/-- Something that is done to a pool. -/
structure FActV where
  k : Int
  f : Int
  a : Int
  b : Int
  c : Int
def factCells (A : FActV) : List Value := [.int .i64 A.k, .int .i64 A.f, .int .i64 A.a, .int .i64 A.b, .int .i64 A.c]
structure FActV.Ok (A : FActV) : Prop where
  f : okI A.f
  a : okI A.a
  b : okI A.b
  c : okI A.c
def actF (rs : Int) (xs : List FrV) (A : FActV) : AnsF :=
  if A.k = 0 then takeF rs xs A.a A.b A.c
  else if A.k = 1 then giveF xs A.f
  else if A.k = 2 then ownF xs A.f A.a A.b A.c
  else if A.k = 3 then wireF xs A.f A.a
  else if A.k = 4 then loanF xs A.f A.a
  else ⟨0, 0, xs⟩
theorem atF_n (xs : List FrV) (fr : Int) (f : FrV → Int × FrV) : (atF xs fr f).n = 0 := by
  unfold atF
  split
  · split
    · split <;> rfl
    · rfl
  · rfl
theorem actF_good {rs : Int} {xs : List FrV} {A : FActV} (h : Goods xs) (hA : A.Ok) : Goods (actF rs xs A).xs := by
  unfold actF
  split
  · exact takeF_good h hA.b hA.c
  · split
    · exact giveF_good h
    · split
      · exact ownF_good h hA.b hA.c
      · split
        · exact wireF_good h
        · split
          · exact loanF_good h
          · exact h
theorem actF_len {rs : Int} {xs : List FrV} {A : FActV} : (actF rs xs A).xs.length = xs.length := by
  unfold actF
  split
  · exact takeF_len
  · split
    · exact atF_len _
    · split
      · exact atF_len _
      · split
        · exact atF_len _
        · split
          · exact atF_len _
          · rfl
section
variable {w w' : World} {y : Nat} {A : FActV}
end

end Go.Proofs.YtlieommbomjdaaaGreat
