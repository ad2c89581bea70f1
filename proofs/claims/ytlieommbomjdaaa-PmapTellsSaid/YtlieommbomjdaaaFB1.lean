/- What a value of a type of structs, numbers and Booleans reads as, cell by cell; slices of such. Over any program. What has turned between two worlds; rows of values anywhere in memory. Over any program. Slices of values that are numbers alone, by their numbers. Over any program. Layer 6: frames, as plain lists: what each call answers and leaves. No program in it. The document's layer 6: New, Is, may, Count, Get, set. The document's layer 6: set, Take, Give, Own, Wire, Loan. The document's layer 6: Give, Own, Wire, Loan. What package frames must be shown to say of its pools (P: a pool by its reserve, its frames and its blocks); the example of the chapter; the law's act and like. -/
import Derived.Test.YtlieommbomjdaaaPhysB1
import Derived.Test.YtlieommbomjdaaaPteB1
import Derived.DataReads
import Derived.Laws.AppendOwnNone
import Derived.Maps.AppendAt
import Derived.Deep.AppendLies
import Derived.Laws.ResultCell
import Derived.Laws.StructEq
import Derived.Laws.Unary
import Derived.OwnWalk
import Derived.Test.YtlieommbomjdaaaRows
import Derived.WalkKit
import Derived.ProofKit
import Derived.OpenShut
import Derived.WalkLawsBesides
import Derived.WalkSpells
import Derived.BigQuiet
import Derived.WalkArith
import Derived.Deep.QuietTactic
import Derived.Deep.DeepMust
import Derived.Outline
import Derived.Below
import Derived.Laws.MakeOwn
import Derived.Deep.RegionHeld3
namespace Go.Proofs.Ytlieommbomjdaaa
open Go.ChangeShapes Go.WideShapes Go.ChangeAt Go.RowKit
set_option linter.unusedVariables false

/-- What a cell may be. -/
inductive CK
  | int (q : IntKind)
  | bool
  | slice (t : TypeId)

section
variable {H : Type} {enc : TypeId × Value → H} {P : Program} {w : World} {base : Nat} {spare : Nat → Bool} {held : Bool}

def ckRun (P : Program) (rec : TypeId → Option (List CK)) : Nat → List Field → Option (List CK)
  | _, [] => some []
  | off, f :: fs => if f.offset = off then (match rec f.type with | some ks => if ks.length = P.cellsOf f.type then (ckRun P rec (off + ks.length) fs).map (ks ++ ·) else none | none => none) else none

/-- The kinds of a type's cells. -/
def ckOf (P : Program) : Nat → TypeId → Option (List CK)
  | 0, _ => none
  | d + 1, t => match P.underlying t with
    | some (.int q) => some [.int q]
    | some .bool => some [.bool]
    | some (.slice _) => some [.slice t]
    | some (.struct fs) => (match ckRun P (ckOf P d) 0 fs.toList with | some ks => if ks.length = P.cellsOf t then some ks else none | none => none)
    | _ => none

/-- A cell is of its kind. -/
def CKis (enc : TypeId × Value → H) (P : Program) (w : World) (base : Nat) (spare : Nat → Bool) (held : Bool) : CK → Value → Prop
  | .int q, v => ∃ z, v = .int q z ∧ (Lit.int q z).wf = true
  | .bool, v => ∃ b, v = .bool b
  | .slice t, v => ∃ fuel x, DataW.trod enc P w base spare held fuel t [v] = some x

theorem ck_run (rec : TypeId → Option (List CK)) (cs : List Value) (m : Nat) : ∀ (fs : List Field) (off : Nat) (ks : List CK), ckRun P rec off fs = some ks →
    (∀ f, f ∈ fs → ∃ x, DataW.trod enc P w base spare held m f.type ((cs.drop f.offset).take (P.cellsOf f.type)) = some x) →
    (∀ t ks' cs' x, rec t = some ks' → DataW.trod enc P w base spare held m t cs' = some x → ∀ (i : Nat) k v, ks'[i]? = some k → cs'[i]? = some v → CKis enc P w base spare held k v) →
    ∀ (i : Nat) k v, ks[i]? = some k → cs[off + i]? = some v → CKis enc P w base spare held k v := by
  intro fs
  induction fs with
  | nil =>
    intro off ks h _ _ i k v hk _
    simp [ckRun] at h
    subst h
    simp at hk
  | cons f fs ih =>
    intro off ks h hf hrec i k v hk hv
    unfold ckRun at h
    split at h
    · rename_i ho
      split at h
      · rename_i k1 hk1
        split at h
        · rename_i hlen
          obtain ⟨k2, h2, rfl⟩ := Option.map_eq_some_iff.1 h
          by_cases hi : i < k1.length
          · rw [List.getElem?_append_left hi] at hk
            obtain ⟨x, hx⟩ := hf f (by simp)
            refine hrec f.type k1 _ x hk1 hx i k v hk ?_
            rw [List.getElem?_take_of_lt (by omega), List.getElem?_drop, ho]
            exact hv
          · rw [List.getElem?_append_right (by omega)] at hk
            refine ih (off + k1.length) k2 h2 (fun f' hf' => hf f' (by simp [hf'])) hrec (i - k1.length) k v hk ?_
            have : off + k1.length + (i - k1.length) = off + i := by omega
            rw [this]
            exact hv
        · cases h
      · cases h
    · cases h

theorem ck_of_trod : ∀ (d : Nat) (t : TypeId) (ks : List CK) (cs : List Value) (fuel : Nat) (x : DataW H × List MemPlace), ckOf P d t = some ks → DataW.trod enc P w base spare held fuel t cs = some x →
    cs.length = ks.length ∧ ∀ (i : Nat) k v, ks[i]? = some k → cs[i]? = some v → CKis enc P w base spare held k v := by
  intro d
  induction d with
  | zero => intro t ks cs fuel x h; simp [ckOf] at h
  | succ d ih =>
    intro t ks cs fuel x h hx
    unfold ckOf at h
    split at h
    · rename_i q hu
      injection h with h
      subst h
      obtain ⟨z, rfl, _, hw⟩ := DataW.trod_int hu hx
      refine ⟨rfl, fun i k v hk hv => ?_⟩
      cases i with
      | zero => simp at hk hv; subst hk hv; exact ⟨z, rfl, hw⟩
      | succ i => simp at hk
    · rename_i hu
      injection h with h
      subst h
      obtain ⟨b, rfl, _⟩ := DataW.trod_bool hu hx
      refine ⟨rfl, fun i k v hk hv => ?_⟩
      cases i with
      | zero => simp at hk hv; subst hk hv; exact ⟨b, rfl⟩
      | succ i => simp at hk
    · rename_i e hu
      injection h with h
      subst h
      have hcs : ∃ v0, cs = [v0] := by
        rcases DataW.trod_slice hu hx with ⟨hcs, _⟩ | ⟨a, len, cap, elems, rest, m, _, hcs, _⟩
        · exact ⟨_, hcs⟩
        · exact ⟨_, hcs⟩
      obtain ⟨v0, rfl⟩ := hcs
      refine ⟨rfl, fun i k v hk hv => ?_⟩
      cases i with
      | zero => simp at hk hv; subst hk hv; exact ⟨fuel, x, hx⟩
      | succ i => simp at hk
    · rename_i fs hu
      split at h
      · rename_i k1 hk1
        split at h
        · rename_i hlen
          injection h with h
          subst h
          obtain ⟨xs, m, _, _, hl, hxs, hf⟩ := DataW.trod_struct hu hx
          refine ⟨by rw [hl, hlen], fun i k v hk hv => ?_⟩
          refine ck_run (ckOf P d) cs m fs.toList 0 k1 hk1 (fun f hf' => ?_) (fun t' ks' cs' x' h1 h2 => (ih t' ks' cs' m x' h1 h2).2) i k v hk (by rw [Nat.zero_add]; exact hv)
          obtain ⟨j, hj⟩ := List.getElem?_of_mem hf'
          have hj' : fs[j]? = some f := by simpa using hj
          have h1 := hf j f hj'
          have hjl : j < xs.length := by rw [hxs]; exact (Array.getElem?_eq_some_iff.1 hj').1
          rw [List.getElem?_eq_getElem hjl] at h1
          exact ⟨_, h1⟩
        · cases h
      · cases h
    · cases h

/-- A slice of such values, by the cells of its elements. -/
structure RowsOf (w : World) (s : Option Addr) (l n : Nat) (css : List (List Value)) : Prop where
  len : css.length = l
  each : ∀ cs, cs ∈ css → cs.length = n
  cells : l = 0 ∨ ∃ g o, s = some ⟨g, o, none⟩ ∧ ∀ (i : Nat) cs, css[i]? = some cs → ∀ (j : Nat) v, cs[j]? = some v → w.cell? ⟨g, o + i * n + j, none⟩ = some v

theorem list_all {α : Type} (l : Nat) (Q : Nat → α → Prop) (h : ∀ i, i < l → ∃ a, Q i a) : ∃ zs : List α, zs.length = l ∧ ∀ i a, zs[i]? = some a → Q i a := by
  induction l with
  | zero => exact ⟨[], rfl, by simp⟩
  | succ l ih =>
    obtain ⟨zs, hl, ha⟩ := ih fun i hi => h i (by omega)
    obtain ⟨b, hb⟩ := h l (by omega)
    refine ⟨zs ++ [b], by simp [hl], fun i a hi => ?_⟩
    by_cases hil : i < l
    · rw [List.getElem?_append_left (by omega)] at hi
      exact ha i a hi
    · rw [List.getElem?_append_right (by omega)] at hi
      have h2 : i - zs.length = 0 := by
        have := (List.getElem?_eq_some_iff.1 hi).1
        simp at this
        omega
      rw [h2] at hi
      simp at hi
      subst hi
      have : i = l := by omega
      rw [this]
      exact hb

theorem rows_of_trod {t e : TypeId} {d : Nat} {ks : List CK} {fuel : Nat} {s : Option Addr} {l c : Nat} {x : DataW H × List MemPlace} (ht : P.underlying t = some (.slice e)) (hk : ckOf P d e = some ks) (hn : P.cellsOf e = ks.length) (h0 : 0 < ks.length)
    (h : DataW.trod enc P w base spare held fuel t [.slice s l c] = some x) : ∃ css, RowsOf w s l ks.length css ∧ ∀ cs, cs ∈ css → ∀ (i : Nat) k v, ks[i]? = some k → cs[i]? = some v → CKis enc P w base spare held k v := by
  rcases DataW.trod_slice ht h with ⟨hcs, _⟩ | ⟨a, len, cap, elems, rest, m, _, hcs, _, _, _, _, hlen, hel, _⟩
  · simp at hcs
    obtain ⟨rfl, rfl, rfl⟩ := hcs
    exact ⟨[], ⟨rfl, by simp, .inl rfl⟩, by simp⟩
  · simp at hcs
    obtain ⟨rfl, rfl, rfl⟩ := hcs
    by_cases hl0 : l = 0
    · subst hl0
      exact ⟨[], ⟨rfl, by simp, .inl rfl⟩, by simp⟩
    · have key : ∀ i, i < l → ∃ cs : List Value, cs.length = ks.length ∧ (∀ (j : Nat) v, cs[j]? = some v → w.cell? ((a.add (i * ks.length)).add j) = some v) ∧ ∀ (j : Nat) k v, ks[j]? = some k → cs[j]? = some v → CKis enc P w base spare held k v := by
        intro i hi
        have h1 := hel i hi
        have he : elems[i]? = some (elems[i]'(by omega)) := List.getElem?_eq_getElem (by omega)
        rw [he] at h1
        obtain ⟨cs, hcells, htr⟩ := Option.bind_eq_some_iff.1 h1
        obtain ⟨_, _, hat⟩ := World.cells?_some hcells
        obtain ⟨hl, hck⟩ := ck_of_trod d e ks cs m _ hk htr
        refine ⟨cs, hl, fun j v hv => ?_, hck⟩
        rw [hn] at hat
        have hj : j < ks.length := by rw [← hl]; exact (List.getElem?_eq_some_iff.1 hv).1
        have := hat j hj
        rw [this]
        exact hv
      obtain ⟨g, o, spot⟩ := a
      have hspot : spot = none := by
        obtain ⟨cs, hl, hat, _⟩ := key 0 (by omega)
        have h1 : cs[0]? = some (cs[0]'(by omega)) := List.getElem?_eq_getElem (by omega)
        have h2 := hat 0 _ h1
        exact World.cell?_spot (by simpa [Addr.add] using h2)
      subst hspot
      obtain ⟨css, hl, hcss⟩ := list_all l (fun i (cs : List Value) => cs.length = ks.length ∧ (∀ (j : Nat) v, cs[j]? = some v → w.cell? ⟨g, o + i * ks.length + j, none⟩ = some v) ∧ ∀ (j : Nat) k v, ks[j]? = some k → cs[j]? = some v → CKis enc P w base spare held k v) fun i hi => by
        obtain ⟨cs, h1, h2, h3⟩ := key i hi
        refine ⟨cs, h1, fun j v hv => ?_, h3⟩
        have := h2 j v hv
        rwa [Addr.add_mid, Addr.add_mid] at this
      refine ⟨css, ⟨hl, fun cs hcs => ?_, .inr ⟨g, o, rfl, fun i cs hi j v hv => (hcss i cs hi).2.1 j v hv⟩⟩, fun cs hcs => ?_⟩
      · obtain ⟨i, hi⟩ := List.getElem?_of_mem hcs
        exact (hcss i cs hi).1
      · obtain ⟨i, hi⟩ := List.getElem?_of_mem hcs
        exact (hcss i cs hi).2.2
end
end Go.Proofs.Ytlieommbomjdaaa

namespace Go.Proofs.Ytlieommbomjdaaa
open Go.ChangeShapes Go.WideShapes Go.ChangeAt Go.RowKit
set_option linter.unusedVariables false

/-- None but blocks of O has turned. -/
structure Turn (O : List Nat) (w w' : World) : Prop where
  os : w'.os = w.os
  tape : w'.tape = w.tape
  output : w'.output = w.output
  size : w.heap.size ≤ w'.heap.size
  block : ∀ k, k < w.heap.size → k ∉ O → w'.heap[k]? = w.heap[k]?

section
variable {O O' : List Nat} {w w' w2 : World}
theorem Turn.refl (O : List Nat) (w : World) : Turn O w w := ⟨rfl, rfl, rfl, Nat.le_refl _, fun _ _ _ => rfl⟩
theorem Turn.grown (g : w.grownBy w' none) : Turn O w w' := ⟨g.os, g.tape, g.output, g.size, fun k hk _ => g.block k hk (by simp)⟩
theorem Turn.one {x : Nat} (g : w.grownBy w' (some x)) (hx : x ∈ O) : Turn O w w' := ⟨g.os, g.tape, g.output, g.size, fun k hk hO => g.block k hk (fun e => hO (by rw [Option.some.inj e]; exact hx))⟩
theorem Turn.trans (h : Turn O w w') (k : Turn O' w' w2) (ho : ∀ b, b ∈ O' → b ∈ O ∨ w.heap.size ≤ b) : Turn O w w2 :=
  ⟨k.os.trans h.os, k.tape.trans h.tape, k.output.trans h.output, Nat.le_trans h.size k.size, fun b hb hO => (k.block b (Nat.lt_of_lt_of_le hb h.size) (fun hm => by
    rcases ho b hm with h1 | h1
    · exact hO h1
    · omega)).trans (h.block b hb hO)⟩
theorem Turn.trans' (h : Turn O w w') (k : Turn O w' w2) : Turn O w w2 := h.trans k fun b hb => .inl hb
theorem Turn.mono (h : Turn O w w') (ho : ∀ b, b ∈ O → b ∈ O') : Turn O' w w' := ⟨h.os, h.tape, h.output, h.size, fun k hk hO => h.block k hk fun hm => hO (ho k hm)⟩
theorem Turn.noGrown (h : Turn O w w') (ho : ∀ b, b ∈ O → w.heap.size ≤ b) : w.grownBy w' none := ⟨h.os, h.tape, h.output, h.size, fun k hk _ => h.block k hk fun hm => by have := ho k hm; omega⟩
theorem Turn.below {B : Nat} (h : Turn O w w') (hB : B ≤ w.heap.size) (ho : ∀ b, b ∈ O → B ≤ b) : Below B w w' := ⟨h.os, h.tape, h.output, h.size, fun k hk => h.block k (Nat.lt_of_lt_of_le hk hB) fun hm => by have := ho k hm; omega⟩
theorem Turn.setCell (O : List Nat) (w : World) (b o : Nat) (v : Value) (hb : b ∈ O) : Turn O w (w.setCell ⟨b, o, none⟩ v) :=
  ⟨rfl, rfl, rfl, by simp, fun k _ hk => heap_setCell_other w _ k v (fun e => hk (by rw [e]; exact hb))⟩
end

/-- A row of k elements of 'size' cells each. -/
def RowAt (w : World) (size : Nat) (v : Value) (k : Nat) (cs : List Value) : Prop :=
  cs.length = k * size ∧ ((v = .slice none 0 0 ∧ k = 0) ∨ ∃ g o c, v = .slice (some ⟨g, o, none⟩) k c ∧ g < w.heap.size ∧ ∀ (j : Nat) u, cs[j]? = some u → w.cell? ⟨g, o + j, none⟩ = some u)

section
variable {w w' : World} {size k : Nat} {v : Value} {cs : List Value}
theorem RowAt.nil (w : World) (size : Nat) : RowAt w size (.slice none 0 0) 0 [] := ⟨by simp, .inl ⟨rfl, rfl⟩⟩
theorem RowAt.kept (h : RowAt w size v k cs) (hs : w.heap.size ≤ w'.heap.size) (hb : ∀ a l c, v = .slice (some a) l c → w'.heap[a.block]? = w.heap[a.block]?) : RowAt w' size v k cs := by
  refine ⟨h.1, ?_⟩
  rcases h.2 with h0 | ⟨g, o, c, hv, hg, hc⟩
  · exact .inl h0
  · exact .inr ⟨g, o, c, hv, Nat.lt_of_lt_of_le hg hs, fun j u hu => (World.cell?_of_block (w := w) (w' := w') (a := ⟨g, o + j, none⟩) (show w'.heap[g]? = w.heap[g]? from hb ⟨g, o, none⟩ _ _ hv)).trans (hc j u hu)⟩
theorem RowAt.grow (h : RowAt w size v k cs) (g : w.grownBy w' none) : RowAt w' size v k cs := by
  refine h.kept g.size fun a l c hv => ?_
  rcases h.2 with ⟨h0, _⟩ | ⟨b, o, c', hv', hg, _⟩
  · rw [h0] at hv; cases hv
  · rw [hv'] at hv
    cases hv
    exact g.block _ hg (by simp)
theorem RowAt.own {base : Nat} {e : TypeId} (h : w.ownsRow base e size v k cs) : RowAt w size v k cs := by
  refine ⟨h.1, ?_⟩
  rcases h.2 with h0 | ⟨g, cap, cur, hv, _, hg, _, _, _, ht⟩
  · exact .inl h0
  · refine .inr ⟨g, 0, cap, hv, (Array.getElem?_eq_some_iff.1 hg).1, fun j u hu => ?_⟩
    rw [← ht] at hu
    have hj : j < k * size := by
      have := (List.getElem?_eq_some_iff.1 hu).1
      rw [List.length_take] at this
      omega
    rw [List.getElem?_take_of_lt hj, Array.getElem?_toList] at hu
    rw [Nat.zero_add, cell_of_row _ _ _ _ _ _ hg]
    exact hu
/-- Without its first element. -/
theorem RowAt.tail {g o c : Nat} (h : RowAt w size (.slice (some ⟨g, o, none⟩) (k + 1) c) (k + 1) cs) (c' : Nat) : RowAt w size (.slice (some ⟨g, o + size, none⟩) k c') k (cs.drop size) := by
  refine ⟨by rw [List.length_drop, h.1, Nat.succ_mul]; omega, ?_⟩
  rcases h.2 with ⟨h0, _⟩ | ⟨g', o', c2, hv, hg, hc⟩
  · cases h0
  · cases hv
    refine .inr ⟨g, o + size, c', rfl, hg, fun j u hu => ?_⟩
    rw [List.getElem?_drop] at hu
    have := hc _ u hu
    rwa [← Nat.add_assoc] at this
theorem RowAt.form (h : RowAt w size v k cs) : ∃ s c, v = .slice s k c := by
  rcases h.2 with ⟨rfl, rfl⟩ | ⟨g, o, c, rfl, _⟩
  · exact ⟨_, _, rfl⟩
  · exact ⟨_, _, rfl⟩
end

/-- Elements, each by its cells. -/
theorem flat_at {α : Type} (cells : α → List Value) (size : Nat) (hsz : ∀ x, (cells x).length = size) (xs : List α) (j : Nat) (y : α) (h : xs[j]? = some y) (q : Nat) (u : Value) (hq : (cells y)[q]? = some u) : (xs.flatMap cells)[j * size + q]? = some u := by
  have hq3 : q < size := by have := (List.getElem?_eq_some_iff.1 hq).1; rw [hsz] at this; exact this
  induction xs generalizing j with
  | nil => simp at h
  | cons x xs ih =>
    cases j with
    | zero =>
      simp only [List.getElem?_cons_zero, Option.some.injEq] at h
      subst h
      rw [List.flatMap_cons, Nat.zero_mul, Nat.zero_add, List.getElem?_append_left (by rw [hsz]; exact hq3)]
      exact hq
    | succ j =>
      rw [List.getElem?_cons_succ] at h
      rw [List.flatMap_cons, List.getElem?_append_right (by rw [hsz, Nat.succ_mul]; omega)]
      have : (j + 1) * size + q - (cells x).length = j * size + q := by rw [hsz, Nat.succ_mul]; omega
      rw [this]
      exact ih j h
theorem flat_len {α : Type} (cells : α → List Value) (size : Nat) (hsz : ∀ x, (cells x).length = size) (xs : List α) : (xs.flatMap cells).length = xs.length * size := by
  induction xs with
  | nil => simp
  | cons x xs ih => rw [List.flatMap_cons, List.length_append, ih, hsz, List.length_cons, Nat.succ_mul]; omega
theorem flat_drop {α : Type} (cells : α → List Value) (size : Nat) (hsz : ∀ x, (cells x).length = size) (x : α) (xs : List α) : ((x :: xs).flatMap cells).drop size = xs.flatMap cells := by
  rw [List.flatMap_cons, List.drop_append_of_le_length (by rw [hsz]; exact Nat.le_refl _), List.drop_of_length_le (by rw [hsz]; exact Nat.le_refl _), List.nil_append]

/-- A row of such elements. -/
def RowOf {α : Type} (cells : α → List Value) (size : Nat) (w : World) (v : Value) (xs : List α) : Prop := RowAt w size v xs.length (xs.flatMap cells)
theorem RowOf.at {α : Type} {cells : α → List Value} {size : Nat} {w : World} {v : Value} {xs : List α} (hsz : ∀ x, (cells x).length = size) (h : RowOf cells size w v xs) {j : Nat} {y : α} (hy : xs[j]? = some y) :
    ∃ g o c, v = .slice (some ⟨g, o, none⟩) xs.length c ∧ ∀ (q : Nat) u, (cells y)[q]? = some u → w.cell? ⟨g, o + (j * size + q), none⟩ = some u := by
  have hj : j < xs.length := (List.getElem?_eq_some_iff.1 hy).1
  rcases h.2 with ⟨_, h0⟩ | ⟨g, o, c, hv, hg, hc⟩
  · omega
  · exact ⟨g, o, c, hv, fun q u hq => hc _ u (flat_at cells size hsz xs j y hy q u hq)⟩
end Go.Proofs.Ytlieommbomjdaaa

namespace Go.Proofs.Ytlieommbomjdaaa
open Go.ChangeShapes Go.WideShapes Go.ChangeAt Go.RowKit
set_option linter.unusedVariables false

theorem wf_ok64 {x : Int} (h : (Lit.int .i64 x).wf = true) : okI x := by
  simp [Lit.wf, IntKind.min, IntKind.max, IntKind.signed, IntKind.bits] at h
  exact ⟨by omega, by omega⟩

/-- Rows of n numbers each. -/
structure IntRows (w : World) (s : Option Addr) (l n : Nat) (zss : List (List Int)) : Prop where
  len : zss.length = l
  each : ∀ zs, zs ∈ zss → zs.length = n ∧ ∀ z, z ∈ zs → okI z
  cells : l = 0 ∨ ∃ g o, s = some ⟨g, o, none⟩ ∧ ∀ (i : Nat) zs, zss[i]? = some zs → ∀ (j : Nat) z, zs[j]? = some z → w.cell? ⟨g, o + i * n + j, none⟩ = some (.int .i64 z)

section
variable {H : Type} {enc : TypeId × Value → H} {P : Program} {w : World} {base : Nat} {spare : Nat → Bool} {held : Bool}
theorem ck_ints {n : Nat} {cs : List Value} (hl : cs.length = n) (h : ∀ (i : Nat) k v, (List.replicate n (CK.int .i64))[i]? = some k → cs[i]? = some v → CKis enc P w base spare held k v) :
    ∃ zs : List Int, zs.length = n ∧ cs = zs.map (Value.int .i64) ∧ ∀ z, z ∈ zs → okI z := by
  induction cs generalizing n with
  | nil => simp at hl; subst hl; exact ⟨[], rfl, rfl, by simp⟩
  | cons c cs ih =>
    obtain ⟨m, rfl⟩ : ∃ m, n = m + 1 := ⟨cs.length, by simp at hl; omega⟩
    obtain ⟨zs, h1, h2, h3⟩ := ih (n := m) (by simp at hl; omega) fun i k v hk hv => h (i + 1) k v (by rw [List.replicate_succ, List.getElem?_cons_succ]; exact hk) (by rw [List.getElem?_cons_succ]; exact hv)
    obtain ⟨z, rfl, hw⟩ := h 0 (CK.int .i64) c (by rw [List.replicate_succ]; rfl) rfl
    exact ⟨z :: zs, by simp [h1], by rw [h2]; rfl, fun y hy => by
      rcases List.mem_cons.1 hy with rfl | hy
      · exact wf_ok64 hw
      · exact h3 y hy⟩

theorem introws_of_trod {t e : TypeId} {d n : Nat} {fuel : Nat} {s : Option Addr} {l c : Nat} {x : DataW H × List MemPlace} (ht : P.underlying t = some (.slice e)) (hk : ckOf P d e = some (List.replicate n (.int .i64))) (hn : P.cellsOf e = n) (h0 : 0 < n)
    (h : DataW.trod enc P w base spare held fuel t [.slice s l c] = some x) : ∃ zss, IntRows w s l n zss := by
  obtain ⟨css, hr, hck⟩ := rows_of_trod ht hk (by rw [List.length_replicate]; exact hn) (by rw [List.length_replicate]; exact h0) h
  rw [List.length_replicate] at hr
  obtain ⟨zss, hl, hz⟩ := list_all l (fun i (zs : List Int) => zs.length = n ∧ css[i]? = some (zs.map (Value.int .i64)) ∧ ∀ z, z ∈ zs → okI z) fun i hi => by
    have hg : css[i]? = some (css[i]'(by rw [hr.len]; exact hi)) := List.getElem?_eq_getElem (by rw [hr.len]; exact hi)
    have hm := List.mem_of_getElem? hg
    obtain ⟨zs, h1, h2, h3⟩ := ck_ints (hr.each _ hm) (hck _ hm)
    exact ⟨zs, h1, by rw [hg, h2], h3⟩
  refine ⟨zss, ⟨hl, fun zs hzs => ?_, ?_⟩⟩
  · obtain ⟨i, hi⟩ := List.getElem?_of_mem hzs
    exact ⟨(hz i zs hi).1, (hz i zs hi).2.2⟩
  · rcases hr.cells with h1 | ⟨g, o, hs, hc⟩
    · exact .inl h1
    · refine .inr ⟨g, o, hs, fun i zs hi j z hj => hc i _ (hz i zs hi).2.1 j _ ?_⟩
      rw [List.getElem?_map, hj]
      rfl
/-- One number of a row, in a later world. -/
theorem IntRows.at {wr : World} {s : Option Addr} {l n : Nat} {zss : List (List Int)} (h : IntRows w s l n zss) (g : ∀ b, b < w.heap.size → wr.heap[b]? = w.heap[b]?) {i : Nat} {zs : List Int} (hi : zss[i]? = some zs) :
    ∃ b o, s = some ⟨b, o, none⟩ ∧ ∀ (j : Nat) z, zs[j]? = some z → wr.cell? ⟨b, o + i * n + j, none⟩ = some (.int .i64 z) := by
  have hlt := (List.getElem?_eq_some_iff.1 hi).1
  rcases h.cells with h0 | ⟨b, o, hs, hc⟩
  · have := h.len; omega
  · refine ⟨b, o, hs, fun j z hz => ?_⟩
    have h1 := hc i zs hi j z hz
    exact (World.cell?_of_block (a := ⟨b, o + i * n + j, none⟩) (g b (World.block_lt_of_cell? w _ h1))).trans h1
end
end Go.Proofs.Ytlieommbomjdaaa

namespace Go.Proofs.Ytlieommbomjdaaa
open Go.ChangeShapes Go.WideShapes Go.ChangeAt Go.RowKit
set_option linter.unusedVariables false

/-- A frame: its class, owner, index, wire, loan. -/
structure FrV where
  cl : Int
  ow : Int
  ix : Int
  wi : Int
  lo : Int
def frCells (x : FrV) : List Value := [.int .i64 x.cl, .int .i64 x.ow, .int .i64 x.ix, .int .i64 x.wi, .int .i64 x.lo]
theorem fr_len (x : FrV) : (frCells x).length = 5 := rfl
def frAgg (x : FrV) : Value := .agg #[.int .i64 x.cl, .int .i64 x.ow, .int .i64 x.ix, .int .i64 x.wi, .int .i64 x.lo]
def zeroF : FrV := ⟨0, 0, 0, 0, 0⟩

def countF (xs : List FrV) (c : Int) : Int := ((xs.filter fun x => x.cl == c).length : Int)
def isCls (c : Int) : Prop := 1 ≤ c ∧ c ≤ 4
instance (c : Int) : Decidable (isCls c) := inferInstanceAs (Decidable (_ ∧ _))
def freeAt (xs : List FrV) : Option Nat := xs.findIdx? fun x => x.cl == 0
def mayBy (n by' : Int) : Prop := -n ≤ by' ∧ by' ≤ 1000000 - n
instance (n b : Int) : Decidable (mayBy n b) := inferInstanceAs (Decidable (_ ∧ _))

/-- What a call answers and leaves: a number, an error, the frames. -/
structure AnsF where
  n : Int
  e : Int
  xs : List FrV

def takeAt (xs : List FrV) (c o i : Int) : Option Nat → AnsF
  | some k => ⟨k, 0, xs.set k ⟨c, o, i, 0, 0⟩⟩
  | none => ⟨0, 5, xs⟩
def takeF (rs : Int) (xs : List FrV) (c o i : Int) : AnsF :=
  if ¬ isCls c then ⟨0, 2, xs⟩
  else if countF xs 0 = 0 ∨ c ≠ 1 ∧ countF xs 0 ≤ rs then ⟨0, 5, xs⟩
  else takeAt xs c o i (freeAt xs)
/-- Something that is done to the frame of a number, if there is one and it isn't free. -/
def atF (xs : List FrV) (fr : Int) (f : FrV → Int × FrV) : AnsF :=
  if 0 ≤ fr ∧ fr < xs.length then
    (match xs[fr.toNat]? with
    | some x => if x.cl = 0 then ⟨0, 2, xs⟩ else ⟨0, (f x).1, xs.set fr.toNat (f x).2⟩
    | none => ⟨0, 7, xs⟩)
  else ⟨0, 7, xs⟩
def giveF (xs : List FrV) (fr : Int) : AnsF := atF xs fr fun x => if x.wi ≠ 0 ∨ x.lo ≠ 0 then (8, x) else (0, zeroF)
def ownF (xs : List FrV) (fr c o i : Int) : AnsF := atF xs fr fun x => if isCls c then (0, ⟨c, o, i, x.wi, x.lo⟩) else (2, x)
def wireF (xs : List FrV) (fr b : Int) : AnsF := atF xs fr fun x => if mayBy x.wi b then (0, ⟨x.cl, x.ow, x.ix, x.wi + b, x.lo⟩) else (2, x)
def loanF (xs : List FrV) (fr b : Int) : AnsF := atF xs fr fun x => if mayBy x.lo b then (0, ⟨x.cl, x.ow, x.ix, x.wi, x.lo + b⟩) else (2, x)
def getF (xs : List FrV) (fr : Int) : Option FrV := if 0 ≤ fr ∧ fr < xs.length then xs[fr.toNat]? else none
def getV (o : Option FrV) : Value :=
  match o with
  | some x => .tuple #[frAgg x, .bool true]
  | none => .tuple #[frAgg zeroF, .bool false]

/-- What is so of each frame, whatever was done. -/
structure GoodF (x : FrV) : Prop where
  c0 : 0 ≤ x.cl
  c1 : x.cl ≤ 4
  free : x.cl = 0 → x = zeroF
  w0 : 0 ≤ x.wi
  w1 : x.wi ≤ 1000000
  l0 : 0 ≤ x.lo
  l1 : x.lo ≤ 1000000
  ow : okI x.ow
  ix : okI x.ix
def Goods (xs : List FrV) : Prop := ∀ x, x ∈ xs → GoodF x

theorem good_zero : GoodF zeroF := ⟨by decide, by decide, fun _ => rfl, by decide, by decide, by decide, by decide, ⟨by decide, by decide⟩, ⟨by decide, by decide⟩⟩
theorem goods_new (n : Nat) : Goods (List.replicate n zeroF) := fun x hx => by rw [List.eq_of_mem_replicate hx]; exact good_zero
theorem Goods.set {xs : List FrV} (h : Goods xs) (k : Nat) {y : FrV} (hy : GoodF y) : Goods (xs.set k y) := fun x hx => by
  rcases List.mem_or_eq_of_mem_set hx with h1 | rfl
  · exact h x h1
  · exact hy

section
variable {rs : Int} {xs : List FrV} {c o i fr b : Int}
theorem count_free : countF xs 0 = 0 ↔ freeAt xs = none := by
  unfold countF freeAt
  rw [List.findIdx?_eq_none_iff]
  constructor
  · intro h x hx
    have h1 : (xs.filter fun x => x.cl == 0).length = 0 := by omega
    rw [List.length_eq_zero_iff, List.filter_eq_nil_iff] at h1
    simpa using h1 x hx
  · intro h
    have : (xs.filter fun x => x.cl == 0) = [] := List.filter_eq_nil_iff.2 fun x hx => by rw [h x hx]; simp
    rw [this]
    rfl
theorem atF_good {f : FrV → Int × FrV} (h : Goods xs) (hf : ∀ x, GoodF x → x.cl ≠ 0 → GoodF (f x).2) : Goods (atF xs fr f).xs := by
  unfold atF
  split
  · split
    · rename_i x hx
      split
      · exact h
      · rename_i hc
        exact h.set _ (hf x (h x (List.mem_of_getElem? hx)) hc)
    · exact h
  · exact h
theorem atF_len (f : FrV → Int × FrV) : (atF xs fr f).xs.length = xs.length := by
  unfold atF
  split
  · split
    · split
      · rfl
      · rw [List.length_set]
    · rfl
  · rfl
theorem takeF_good (h : Goods xs) (ho : okI o) (hi : okI i) : Goods (takeF rs xs c o i).xs := by
  unfold takeF
  split
  · exact h
  · rename_i hc
    split
    · exact h
    · cases freeAt xs with
      | some k =>
        have hc2 : isCls c := Classical.not_not.1 hc
        exact h.set _ ⟨by have := hc2.1; show (0 : Int) ≤ c; omega, hc2.2, fun e => by have := hc2.1; have : c = 0 := e; omega, by show (0 : Int) ≤ 0; omega, by show (0 : Int) ≤ 1000000; omega, by show (0 : Int) ≤ 0; omega, by show (0 : Int) ≤ 1000000; omega, ho, hi⟩
      | none => exact h
theorem takeF_len : (takeF rs xs c o i).xs.length = xs.length := by
  unfold takeF
  split
  · rfl
  · split
    · rfl
    · cases freeAt xs with
      | some k => exact List.length_set
      | none => rfl
theorem giveF_good (h : Goods xs) : Goods (giveF xs fr).xs := atF_good h fun x hx _ => by
  split
  · exact hx
  · exact good_zero
theorem ownF_good (h : Goods xs) (ho : okI o) (hi : okI i) : Goods (ownF xs fr c o i).xs := atF_good h fun x hx hc => by
  split
  · rename_i h1
    exact ⟨by have := h1.1; show (0 : Int) ≤ c; omega, h1.2, fun e => by have := h1.1; have : c = 0 := e; omega, hx.w0, hx.w1, hx.l0, hx.l1, ho, hi⟩
  · exact hx
theorem wireF_good (h : Goods xs) : Goods (wireF xs fr b).xs := atF_good h fun x hx hc => by
  split
  · rename_i h1
    exact ⟨hx.c0, hx.c1, fun e => absurd e hc, by have := h1.1; show (0 : Int) ≤ x.wi + b; omega, by have := h1.2; show x.wi + b ≤ 1000000; omega, hx.l0, hx.l1, hx.ow, hx.ix⟩
  · exact hx
theorem loanF_good (h : Goods xs) : Goods (loanF xs fr b).xs := atF_good h fun x hx hc => by
  split
  · rename_i h1
    exact ⟨hx.c0, hx.c1, fun e => absurd e hc, hx.w0, hx.w1, by have := h1.1; show (0 : Int) ≤ x.lo + b; omega, by have := h1.2; show x.lo + b ≤ 1000000; omega, hx.ow, hx.ix⟩
  · exact hx
theorem atF_out {f : FrV → Int × FrV} (h : ¬ (0 ≤ fr ∧ fr < xs.length)) : atF xs fr f = ⟨0, 7, xs⟩ := by unfold atF; rw [if_neg h]
theorem atF_free {f : FrV → Int × FrV} {k : Nat} {x : FrV} (hx : xs[k]? = some x) (h : x.cl = 0) : atF xs k f = ⟨0, 2, xs⟩ := by
  have hk := (List.getElem?_eq_some_iff.1 hx).1
  unfold atF
  rw [if_pos (by omega), Int.toNat_natCast, hx]
  simp only [h, if_pos]
theorem atF_at {f : FrV → Int × FrV} {k : Nat} {x : FrV} (hx : xs[k]? = some x) (h : x.cl ≠ 0) : atF xs k f = ⟨0, (f x).1, xs.set k (f x).2⟩ := by
  have hk := (List.getElem?_eq_some_iff.1 hx).1
  unfold atF
  rw [if_pos (by omega), Int.toNat_natCast, hx]
  simp only [if_neg h]
theorem set_self {k : Nat} {x : FrV} (hx : xs[k]? = some x) : xs.set k x = xs := by
  have hk := (List.getElem?_eq_some_iff.1 hx).1
  apply List.ext_getElem?
  intro i
  by_cases e : i = k
  · subst e; rw [List.getElem?_set_self hk, hx]
  · rw [List.getElem?_set_ne (fun h => e h.symm)]
theorem countF_le (c : Int) : 0 ≤ countF xs c ∧ countF xs c ≤ xs.length := by
  unfold countF
  have := List.length_filter_le (fun x : FrV => x.cl == c) xs
  omega
/-- All classes together are all frames. -/
theorem count_all (h : Goods xs) : countF xs 0 + countF xs 1 + countF xs 2 + countF xs 3 + countF xs 4 = xs.length := by
  induction xs with
  | nil => rfl
  | cons x xs ih =>
    have ih := ih fun y hy => h y (List.mem_cons_of_mem _ hy)
    have hx := h x List.mem_cons_self
    have h0 := hx.c0
    have h1 := hx.c1
    have key : ∀ c : Int, countF (x :: xs) c = countF xs c + if x.cl = c then 1 else 0 := fun c => by
      unfold countF
      by_cases e : x.cl = c
      · rw [List.filter_cons_of_pos (by simpa using e), if_pos e]; simp
      · rw [List.filter_cons_of_neg (by simpa using e), if_neg e]; simp
    rw [key, key, key, key, key, List.length_cons]
    rcases (show x.cl = 0 ∨ x.cl = 1 ∨ x.cl = 2 ∨ x.cl = 3 ∨ x.cl = 4 by omega) with e | e | e | e | e <;> rw [e] <;> simp <;> omega
/-- Counting as far as place j. -/
theorem count_take {j : Nat} {x : FrV} (h : xs[j]? = some x) (c : Int) : countF (xs.take (j + 1)) c = countF (xs.take j) c + if x.cl = c then 1 else 0 := by
  unfold countF
  rw [List.take_add_one, h]
  by_cases e : x.cl = c
  · rw [if_pos e, List.filter_append]; simp [e]
  · rw [if_neg e, List.filter_append]; simp [e]
end
end Go.Proofs.Ytlieommbomjdaaa

namespace Go.Proofs.Ytlieommbomjdaaa
open Go.ChangeShapes Go.WideShapes Go.ChangeAt Go.RowKit Go.Deep
set_option linter.unusedVariables false

theorem grown_drew1 (w : World) : w.grownBy w.drew none := ⟨rfl, rfl, rfl, Nat.le_refl _, fun _ _ _ => rfl⟩
theorem grown_set (W : World) (b o : Nat) (v : Value) : W.grownBy (W.setCell ⟨b, o, none⟩ v) (some b) := ⟨rfl, rfl, rfl, by simp, fun k _ hk => heap_setCell_other W _ k v (fun e => hk (by rw [e]))⟩
theorem grown_at {a b e : World} {x : Nat} (h : a.grownBy b none) (g : b.grownBy e (some x)) (hx : a.heap.size ≤ x) : a.grownBy e none :=
  ⟨g.os.trans h.os, g.tape.trans h.tape, g.output.trans h.output, Nat.le_trans h.size g.size, fun k hk _ => (g.block k (Nat.lt_of_lt_of_le hk h.size) (by intro e; have e2 := Option.some.inj e; omega)).trans (h.block k hk (by simp))⟩

/-- Two results, the first one a struct in memory. -/
theorem results_pair_tmp {P : Program} {fn : Func} {p u : Tmp} {ty : TypeId} (h : fn.results = #[.cell p ty, .tmp u]) (tmps : Array Value) (w : World) (g : Nat) (t : TypeId) (cs : Array Value) (fr : Nat × Nat) (d : TypeDesc)
    (hp : tmps.getD p undef = .pointer (some ⟨g, 0, none⟩)) (hg : w.heap[g]? = some (.cells cs t fr))
    (hu : P.underlying ty = some d) (hd : (match d with | .struct _ | .array _ _ => true | _ => false) = true) (hi : (P.info? ty).map (·.size) = some cs.size) :
    (results fn tmps).run P w = .ok (.tuple #[.agg cs, tmps.getD u undef]) w := by
  rw [results_cell_tmp h, hp]
  simp [asAddr, Result.andThen, run_loadVar_row w g t ty cs fr d hg hu hd hi]
/-- Five cells, stored into. -/
theorem heap_five (w : World) (g : Nat) {a b c d e : Value} (a' b' c' d' e' : Int) (t : TypeId) (hg : w.heap[g]? = some (.cells #[a, b, c, d, e] t (0, 0))) :
    (((((w.setCell ⟨g, 0, none⟩ (.int .i64 a')).setCell ⟨g, 1, none⟩ (.int .i64 b')).setCell ⟨g, 2, none⟩ (.int .i64 c')).setCell ⟨g, 3, none⟩ (.int .i64 d')).setCell ⟨g, 4, none⟩ (.int .i64 e')).heap[g]? = some (.cells #[.int .i64 a', .int .i64 b', .int .i64 c', .int .i64 d', .int .i64 e'] t (0, 0)) := by
  have h : w.heap[g]? = some (.cells [a, b, c, d, e].toArray t (0, 0)) := hg
  exact heap_setCells h [.int .i64 a', .int .i64 b', .int .i64 c', .int .i64 d', .int .i64 e'] (by simp) (by intro v hv; simp at hv; rcases hv with rfl | rfl | rfl | rfl | rfl <;> rfl)
theorem grown_five (w : World) (g : Nat) (a b c d e : Value) : w.grownBy (((((w.setCell ⟨g, 0, none⟩ a).setCell ⟨g, 1, none⟩ b).setCell ⟨g, 2, none⟩ c).setCell ⟨g, 3, none⟩ d).setCell ⟨g, 4, none⟩ e) (some g) := by
  have tr : ∀ {x y z : World}, x.grownBy y (some g) → y.grownBy z (some g) → x.grownBy z (some g) := fun h k => ⟨k.os.trans h.os, k.tape.trans h.tape, k.output.trans h.output, Nat.le_trans h.size k.size, fun b hb hne => (k.block b (Nat.lt_of_lt_of_le hb h.size) hne).trans (h.block b hb hne)⟩
  exact tr (tr (tr (tr (grown_set _ g 0 a) (grown_set _ g 1 b)) (grown_set _ g 2 c)) (grown_set _ g 3 d)) (grown_set _ g 4 e)

section
variable {w w' : World} {r g c : Nat} {rs : Int} {xs : List FrV}
end

/-- A boxed frame. -/
def FrB (w : World) (y : Nat) (t : TypeId) (x : FrV) : Prop := w.heap[y]? = some (.cells #[.int .i64 x.cl, .int .i64 x.ow, .int .i64 x.ix, .int .i64 x.wi, .int .i64 x.lo] t (0, 0))
section
variable {w w' : World} {y : Nat} {t : TypeId} {x : FrV}
theorem FrB.at (h : FrB w y t x) : w.cell? ⟨y, 0, none⟩ = some (.int .i64 x.cl) ∧ w.cell? ⟨y, 1, none⟩ = some (.int .i64 x.ow) ∧ w.cell? ⟨y, 2, none⟩ = some (.int .i64 x.ix) ∧ w.cell? ⟨y, 3, none⟩ = some (.int .i64 x.wi) ∧ w.cell? ⟨y, 4, none⟩ = some (.int .i64 x.lo) :=
  ⟨by rw [cell_of_row _ _ _ _ _ _ h]; rfl, by rw [cell_of_row _ _ _ _ _ _ h]; rfl, by rw [cell_of_row _ _ _ _ _ _ h]; rfl, by rw [cell_of_row _ _ _ _ _ _ h]; rfl, by rw [cell_of_row _ _ _ _ _ _ h]; rfl⟩
theorem FrB.frozen (h : FrB w y t x) : w.frozen? ⟨y, 0, none⟩ = false ∧ w.frozen? ⟨y, 1, none⟩ = false ∧ w.frozen? ⟨y, 2, none⟩ = false ∧ w.frozen? ⟨y, 3, none⟩ = false ∧ w.frozen? ⟨y, 4, none⟩ = false :=
  ⟨frozen_of_row _ _ _ _ _ h, frozen_of_row _ _ _ _ _ h, frozen_of_row _ _ _ _ _ h, frozen_of_row _ _ _ _ _ h, frozen_of_row _ _ _ _ _ h⟩
theorem FrB.lt (h : FrB w y t x) : y < w.heap.size := (Array.getElem?_eq_some_iff.1 h).1
theorem FrB.grow (h : FrB w y t x) (g : w.grownBy w' none) : FrB w' y t x := (g.block _ h.lt (by simp)).trans h
theorem FrB.turn {O : List Nat} (h : FrB w y t x) (g : Turn O w w') (ho : y ∉ O) : FrB w' y t x := (g.block _ h.lt ho).trans h
theorem FrB.new (w : World) (t : TypeId) (x : FrV) : FrB (w.alloc (.cells #[.int .i64 x.cl, .int .i64 x.ow, .int .i64 x.ix, .int .i64 x.wi, .int .i64 x.lo] t (0, 0))) w.heap.size t x := heap_alloc_new w _
end

def zeroCs : Array Value := #[.int .i64 0, .int .i64 0, .int .i64 0, .int .i64 0, .int .i64 0]
theorem made_zeroF (n : Nat) : (madeCells zeroCs (n * 5)).toList = (List.replicate n zeroF).flatMap frCells := by
  apply List.ext_getElem?
  intro o
  have hs : zeroCs.size = 5 := rfl
  by_cases ho : o < n * 5
  · have e1 : (madeCells zeroCs (n * 5)).toList[o]? = some (.int .i64 0) := by
      unfold madeCells
      rw [Array.getElem?_toList, Array.getElem?_map, Array.getElem?_range, if_pos ho]
      simp only [Option.map_some, hs]
      rcases (show o % 5 = 0 ∨ o % 5 = 1 ∨ o % 5 = 2 ∨ o % 5 = 3 ∨ o % 5 = 4 by omega) with e | e | e | e | e <;> rw [e] <;> rfl
    have hz : (List.replicate n zeroF)[o / 5]? = some zeroF := by rw [List.getElem?_replicate, if_pos (by omega)]
    have key : ∀ q, q < 5 → (frCells zeroF)[q]? = some (.int .i64 0) := fun q hq => by
      rcases (show q = 0 ∨ q = 1 ∨ q = 2 ∨ q = 3 ∨ q = 4 by omega) with rfl | rfl | rfl | rfl | rfl <;> rfl
    have h2 := flat_at frCells 5 fr_len _ (o / 5) zeroF hz (o % 5) _ (key _ (by omega))
    rw [show o / 5 * 5 + o % 5 = o by omega] at h2
    rw [e1, h2]
  · rw [List.getElem?_eq_none (by rw [Array.length_toList]; unfold madeCells; simp; omega), List.getElem?_eq_none (by rw [flat_len frCells 5 fr_len, List.length_replicate]; omega)]

section
variable {w : World} {r g c : Nat} {rs : Int} {xs : List FrV}

end
end Go.Proofs.Ytlieommbomjdaaa

namespace Go.Proofs.Ytlieommbomjdaaa
open Go.ChangeShapes Go.WideShapes Go.ChangeAt Go.RowKit Go.Deep
set_option linter.unusedVariables false

theorem frs_one (xs : List FrV) : ∀ u, u ∈ xs.flatMap frCells → u.oneCell' = true := by
  intro u hu
  obtain ⟨x, _, hx⟩ := List.mem_flatMap.1 hu
  simp [frCells] at hx
  rcases hx with rfl | rfl | rfl | rfl | rfl <;> rfl

theorem flat_set5 (xs : List FrV) (i : Nat) (y : FrV) (hi : i < xs.length) : (xs.set i y).flatMap frCells = (((((xs.flatMap frCells).set (i * 5) (.int .i64 y.cl)).set (i * 5 + 1) (.int .i64 y.ow)).set (i * 5 + 2) (.int .i64 y.ix)).set (i * 5 + 3) (.int .i64 y.wi)).set (i * 5 + 4) (.int .i64 y.lo) := by
  induction xs generalizing i with
  | nil => simp at hi
  | cons z xs ih =>
    cases i with
    | zero => simp [frCells]
    | succ i =>
      rw [List.set_cons_succ, List.flatMap_cons, ih i (by simpa using hi), List.flatMap_cons]
      have e0 : (i + 1) * 5 = (frCells z).length + i * 5 := by simp [frCells]; omega
      have e1 : (i + 1) * 5 + 1 = (frCells z).length + (i * 5 + 1) := by simp [frCells]; omega
      have e2 : (i + 1) * 5 + 2 = (frCells z).length + (i * 5 + 2) := by simp [frCells]; omega
      have e3 : (i + 1) * 5 + 3 = (frCells z).length + (i * 5 + 3) := by simp [frCells]; omega
      have e4 : (i + 1) * 5 + 4 = (frCells z).length + (i * 5 + 4) := by simp [frCells]; omega
      rw [e1, e2, e3, e4, e0, List.set_append_right _ _ (by omega), List.set_append_right _ _ (by omega), List.set_append_right _ _ (by omega), List.set_append_right _ _ (by omega), List.set_append_right _ _ (by omega)]
      simp

section
variable {w : World} {r g c : Nat} {rs : Int} {xs : List FrV}

end
end Go.Proofs.Ytlieommbomjdaaa

namespace Go.Proofs.Ytlieommbomjdaaa
open Go.ChangeShapes Go.WideShapes Go.ChangeAt Go.RowKit Go.Deep
set_option linter.unusedVariables false

section
variable {w : World} {r g c : Nat} {rs : Int} {xs : List FrV}
theorem free_at {xs : List FrV} {j : Nat} {x : FrV} (hx : xs[j]? = some x) (h0 : x.cl = 0) (hb : ∀ i z, i < j → xs[i]? = some z → z.cl ≠ 0) : freeAt xs = some j := by
  have hj := (List.getElem?_eq_some_iff.1 hx).1
  unfold freeAt
  rw [List.findIdx?_eq_some_iff_getElem]
  refine ⟨hj, ?_, fun i hi => ?_⟩
  · rw [(List.getElem?_eq_some_iff.1 hx).2]; simpa using h0
  · have := hb i (xs[i]'(by omega)) hi (List.getElem?_eq_getElem (by omega))
    simpa using this

end
end Go.Proofs.Ytlieommbomjdaaa

namespace Go.Proofs.Ytlieommbomjdaaa
open Go.ChangeShapes Go.WideShapes Go.ChangeAt Go.RowKit Go.Deep
set_option linter.unusedVariables false

/-- A pool behind a call. -/
def FLeft (P : World → Nat → Int → List FrV → List Nat → Prop) (w w' : World) (p : Nat) (rs : Int) (O : List Nat) (zs : List FrV) : Prop := ∃ O', P w' p rs zs O' ∧ Turn O w w' ∧ ∀ b, b ∈ O' → b ∈ O ∨ w.heap.size ≤ b

section
variable {P : World → Nat → Int → List FrV → List Nat → Prop} {w w' : World} {p : Nat} {rs : Int} {xs zs : List FrV} {O : List Nat}
theorem FLeft.back {w0 : World} (h : FLeft P w w' p rs O zs) (k : w0.grownBy w none) : FLeft P w0 w' p rs O zs := by
  obtain ⟨O', h1, h2, h3⟩ := h
  exact ⟨O', h1, (Turn.grown k).trans' h2, fun b hb => (h3 b hb).imp id fun q => Nat.le_trans k.size q⟩
end

theorem eql_pool_nil (w : World) (a : Addr) : (binOp .eql 26 (.pointer (some a)) (.pointer none)).run Try.prog w = .ok (.bool false) w := by
  have h1 : ∀ d : Nat, (Op.equalIn (d + 1) 26 (.pointer (some a)) (.pointer none)).run Try.prog w = .ok false w := fun d => by
    simp [Op.equalIn, run_underlying Try.underlying26]
  simp only [binOp]
  simp [Op.equal, Op.maxDepth, h1 9999]

/-! ### the example -/
def lx0 : List FrV := List.replicate 3 zeroF
def lx1 : List FrV := [⟨2, 1, 0, 0, 0⟩, zeroF, zeroF]
def lx2 : List FrV := [⟨2, 1, 0, 0, 0⟩, ⟨2, 1, 0, 0, 0⟩, zeroF]
def lx3 : List FrV := [⟨2, 1, 0, 0, 0⟩, ⟨2, 1, 0, 0, 0⟩, ⟨1, 1, 0, 0, 0⟩]
theorem lx_1 : takeF 1 lx0 2 1 0 = ⟨0, 0, lx1⟩ := rfl
theorem lx_2 : takeF 1 lx1 2 1 0 = ⟨1, 0, lx2⟩ := rfl
theorem lx_3 : takeF 1 lx2 2 1 0 = ⟨0, 5, lx2⟩ := rfl
theorem lx_4 : takeF 1 lx2 1 1 0 = ⟨2, 0, lx3⟩ := rfl
theorem ok_s {x : Int} (h0 : -1000 ≤ x) (h1 : x ≤ 1000) : okI x := ⟨by omega, by omega⟩

/-- Something that is done to a pool. -/
structure FActV where
  k : Int
  f : Int
  a : Int
  b : Int
  c : Int
def factCells (A : FActV) : List Value := [.int .i64 A.k, .int .i64 A.f, .int .i64 A.a, .int .i64 A.b, .int .i64 A.c]
structure FActV.Ok (A : FActV) : Prop where
  f : okI A.f
  a : okI A.a
  b : okI A.b
  c : okI A.c
def actF (rs : Int) (xs : List FrV) (A : FActV) : AnsF :=
  if A.k = 0 then takeF rs xs A.a A.b A.c
  else if A.k = 1 then giveF xs A.f
  else if A.k = 2 then ownF xs A.f A.a A.b A.c
  else if A.k = 3 then wireF xs A.f A.a
  else if A.k = 4 then loanF xs A.f A.a
  else ⟨0, 0, xs⟩
theorem atF_n (xs : List FrV) (fr : Int) (f : FrV → Int × FrV) : (atF xs fr f).n = 0 := by
  unfold atF
  split
  · split
    · split <;> rfl
    · rfl
  · rfl
theorem actF_good {rs : Int} {xs : List FrV} {A : FActV} (h : Goods xs) (hA : A.Ok) : Goods (actF rs xs A).xs := by
  unfold actF
  split
  · exact takeF_good h hA.b hA.c
  · split
    · exact giveF_good h
    · split
      · exact ownF_good h hA.b hA.c
      · split
        · exact wireF_good h
        · split
          · exact loanF_good h
          · exact h
theorem actF_len {rs : Int} {xs : List FrV} {A : FActV} : (actF rs xs A).xs.length = xs.length := by
  unfold actF
  split
  · exact takeF_len
  · split
    · exact atF_len _
    · split
      · exact atF_len _
      · split
        · exact atF_len _
        · split
          · exact atF_len _
          · rfl
section
variable {w w' : World} {y : Nat} {A : FActV}
end

end Go.Proofs.Ytlieommbomjdaaa
