/- What a value of a type of structs, numbers and Booleans reads as, cell by cell; slices of such. Over any program. -/
import Derived.Test.YtefiiooibbkffaaGreatOpen
import Derived.Test.YtefiiooibbkffaaGreatPBits
import Derived.DataReads
namespace Go.Proofs.YtefiiooibbkffaaGreat
open Go.ChangeShapes Go.WideShapes Go.ChangeAt Go.RowKit
set_option linter.unusedVariables false

/-- What a cell may be. -/
inductive CK
  | int (q : IntKind)
  | bool
  | slice (t : TypeId)

section
variable {H : Type} {enc : TypeId × Value → H} {P : Program} {w : World} {base : Nat} {spare : Nat → Bool} {held : Bool}

def ckRun (P : Program) (rec : TypeId → Option (List CK)) : Nat → List Field → Option (List CK)
  | _, [] => some []
  | off, f :: fs => if f.offset = off then (match rec f.type with | some ks => if ks.length = P.cellsOf f.type then (ckRun P rec (off + ks.length) fs).map (ks ++ ·) else none | none => none) else none

/-- The kinds of a type's cells. -/
def ckOf (P : Program) : Nat → TypeId → Option (List CK)
  | 0, _ => none
  | d + 1, t => match P.underlying t with
    | some (.int q) => some [.int q]
    | some .bool => some [.bool]
    | some (.slice _) => some [.slice t]
    | some (.struct fs) => (match ckRun P (ckOf P d) 0 fs.toList with | some ks => if ks.length = P.cellsOf t then some ks else none | none => none)
    | _ => none

/-- A cell is of its kind. -/
def CKis (enc : TypeId × Value → H) (P : Program) (w : World) (base : Nat) (spare : Nat → Bool) (held : Bool) : CK → Value → Prop
  | .int q, v => ∃ z, v = .int q z ∧ (Lit.int q z).wf = true
  | .bool, v => ∃ b, v = .bool b
  | .slice t, v => ∃ fuel x, DataW.trod enc P w base spare held fuel t [v] = some x

theorem ck_run (rec : TypeId → Option (List CK)) (cs : List Value) (m : Nat) : ∀ (fs : List Field) (off : Nat) (ks : List CK), ckRun P rec off fs = some ks →
    (∀ f, f ∈ fs → ∃ x, DataW.trod enc P w base spare held m f.type ((cs.drop f.offset).take (P.cellsOf f.type)) = some x) →
    (∀ t ks' cs' x, rec t = some ks' → DataW.trod enc P w base spare held m t cs' = some x → ∀ (i : Nat) k v, ks'[i]? = some k → cs'[i]? = some v → CKis enc P w base spare held k v) →
    ∀ (i : Nat) k v, ks[i]? = some k → cs[off + i]? = some v → CKis enc P w base spare held k v := by
  intro fs
  induction fs with
  | nil =>
    intro off ks h _ _ i k v hk _
    simp [ckRun] at h
    subst h
    simp at hk
  | cons f fs ih =>
    intro off ks h hf hrec i k v hk hv
    unfold ckRun at h
    split at h
    · rename_i ho
      split at h
      · rename_i k1 hk1
        split at h
        · rename_i hlen
          obtain ⟨k2, h2, rfl⟩ := Option.map_eq_some_iff.1 h
          by_cases hi : i < k1.length
          · rw [List.getElem?_append_left hi] at hk
            obtain ⟨x, hx⟩ := hf f (by simp)
            refine hrec f.type k1 _ x hk1 hx i k v hk ?_
            rw [List.getElem?_take_of_lt (by omega), List.getElem?_drop, ho]
            exact hv
          · rw [List.getElem?_append_right (by omega)] at hk
            refine ih (off + k1.length) k2 h2 (fun f' hf' => hf f' (by simp [hf'])) hrec (i - k1.length) k v hk ?_
            have : off + k1.length + (i - k1.length) = off + i := by omega
            rw [this]
            exact hv
        · cases h
      · cases h
    · cases h

theorem ck_of_trod : ∀ (d : Nat) (t : TypeId) (ks : List CK) (cs : List Value) (fuel : Nat) (x : DataW H × List MemPlace), ckOf P d t = some ks → DataW.trod enc P w base spare held fuel t cs = some x →
    cs.length = ks.length ∧ ∀ (i : Nat) k v, ks[i]? = some k → cs[i]? = some v → CKis enc P w base spare held k v := by
  intro d
  induction d with
  | zero => intro t ks cs fuel x h; simp [ckOf] at h
  | succ d ih =>
    intro t ks cs fuel x h hx
    unfold ckOf at h
    split at h
    · rename_i q hu
      injection h with h
      subst h
      obtain ⟨z, rfl, _, hw⟩ := DataW.trod_int hu hx
      refine ⟨rfl, fun i k v hk hv => ?_⟩
      cases i with
      | zero => simp at hk hv; subst hk hv; exact ⟨z, rfl, hw⟩
      | succ i => simp at hk
    · rename_i hu
      injection h with h
      subst h
      obtain ⟨b, rfl, _⟩ := DataW.trod_bool hu hx
      refine ⟨rfl, fun i k v hk hv => ?_⟩
      cases i with
      | zero => simp at hk hv; subst hk hv; exact ⟨b, rfl⟩
      | succ i => simp at hk
    · rename_i e hu
      injection h with h
      subst h
      have hcs : ∃ v0, cs = [v0] := by
        rcases DataW.trod_slice hu hx with ⟨hcs, _⟩ | ⟨a, len, cap, elems, rest, m, _, hcs, _⟩
        · exact ⟨_, hcs⟩
        · exact ⟨_, hcs⟩
      obtain ⟨v0, rfl⟩ := hcs
      refine ⟨rfl, fun i k v hk hv => ?_⟩
      cases i with
      | zero => simp at hk hv; subst hk hv; exact ⟨fuel, x, hx⟩
      | succ i => simp at hk
    · rename_i fs hu
      split at h
      · rename_i k1 hk1
        split at h
        · rename_i hlen
          injection h with h
          subst h
          obtain ⟨xs, m, _, _, hl, hxs, hf⟩ := DataW.trod_struct hu hx
          refine ⟨by rw [hl, hlen], fun i k v hk hv => ?_⟩
          refine ck_run (ckOf P d) cs m fs.toList 0 k1 hk1 (fun f hf' => ?_) (fun t' ks' cs' x' h1 h2 => (ih t' ks' cs' m x' h1 h2).2) i k v hk (by rw [Nat.zero_add]; exact hv)
          obtain ⟨j, hj⟩ := List.getElem?_of_mem hf'
          have hj' : fs[j]? = some f := by simpa using hj
          have h1 := hf j f hj'
          have hjl : j < xs.length := by rw [hxs]; exact (Array.getElem?_eq_some_iff.1 hj').1
          rw [List.getElem?_eq_getElem hjl] at h1
          exact ⟨_, h1⟩
        · cases h
      · cases h
    · cases h

/-- A slice of such values, by the cells of its elements. -/
structure RowsOf (w : World) (s : Option Addr) (l n : Nat) (css : List (List Value)) : Prop where
  len : css.length = l
  each : ∀ cs, cs ∈ css → cs.length = n
  cells : l = 0 ∨ ∃ g o, s = some ⟨g, o, none⟩ ∧ ∀ (i : Nat) cs, css[i]? = some cs → ∀ (j : Nat) v, cs[j]? = some v → w.cell? ⟨g, o + i * n + j, none⟩ = some v

theorem list_all {α : Type} (l : Nat) (Q : Nat → α → Prop) (h : ∀ i, i < l → ∃ a, Q i a) : ∃ zs : List α, zs.length = l ∧ ∀ i a, zs[i]? = some a → Q i a := by
  induction l with
  | zero => exact ⟨[], rfl, by simp⟩
  | succ l ih =>
    obtain ⟨zs, hl, ha⟩ := ih fun i hi => h i (by omega)
    obtain ⟨b, hb⟩ := h l (by omega)
    refine ⟨zs ++ [b], by simp [hl], fun i a hi => ?_⟩
    by_cases hil : i < l
    · rw [List.getElem?_append_left (by omega)] at hi
      exact ha i a hi
    · rw [List.getElem?_append_right (by omega)] at hi
      have h2 : i - zs.length = 0 := by
        have := (List.getElem?_eq_some_iff.1 hi).1
        simp at this
        omega
      rw [h2] at hi
      simp at hi
      subst hi
      have : i = l := by omega
      rw [this]
      exact hb

theorem rows_of_trod {t e : TypeId} {d : Nat} {ks : List CK} {fuel : Nat} {s : Option Addr} {l c : Nat} {x : DataW H × List MemPlace} (ht : P.underlying t = some (.slice e)) (hk : ckOf P d e = some ks) (hn : P.cellsOf e = ks.length) (h0 : 0 < ks.length)
    (h : DataW.trod enc P w base spare held fuel t [.slice s l c] = some x) : ∃ css, RowsOf w s l ks.length css ∧ ∀ cs, cs ∈ css → ∀ (i : Nat) k v, ks[i]? = some k → cs[i]? = some v → CKis enc P w base spare held k v := by
  rcases DataW.trod_slice ht h with ⟨hcs, _⟩ | ⟨a, len, cap, elems, rest, m, _, hcs, _, _, _, _, hlen, hel, _⟩
  · simp at hcs
    obtain ⟨rfl, rfl, rfl⟩ := hcs
    exact ⟨[], ⟨rfl, by simp, .inl rfl⟩, by simp⟩
  · simp at hcs
    obtain ⟨rfl, rfl, rfl⟩ := hcs
    by_cases hl0 : l = 0
    · subst hl0
      exact ⟨[], ⟨rfl, by simp, .inl rfl⟩, by simp⟩
    · have key : ∀ i, i < l → ∃ cs : List Value, cs.length = ks.length ∧ (∀ (j : Nat) v, cs[j]? = some v → w.cell? ((a.add (i * ks.length)).add j) = some v) ∧ ∀ (j : Nat) k v, ks[j]? = some k → cs[j]? = some v → CKis enc P w base spare held k v := by
        intro i hi
        have h1 := hel i hi
        have he : elems[i]? = some (elems[i]'(by omega)) := List.getElem?_eq_getElem (by omega)
        rw [he] at h1
        obtain ⟨cs, hcells, htr⟩ := Option.bind_eq_some_iff.1 h1
        obtain ⟨_, _, hat⟩ := World.cells?_some hcells
        obtain ⟨hl, hck⟩ := ck_of_trod d e ks cs m _ hk htr
        refine ⟨cs, hl, fun j v hv => ?_, hck⟩
        rw [hn] at hat
        have hj : j < ks.length := by rw [← hl]; exact (List.getElem?_eq_some_iff.1 hv).1
        have := hat j hj
        rw [this]
        exact hv
      obtain ⟨g, o, spot⟩ := a
      have hspot : spot = none := by
        obtain ⟨cs, hl, hat, _⟩ := key 0 (by omega)
        have h1 : cs[0]? = some (cs[0]'(by omega)) := List.getElem?_eq_getElem (by omega)
        have h2 := hat 0 _ h1
        exact World.cell?_spot (by simpa [Addr.add] using h2)
      subst hspot
      obtain ⟨css, hl, hcss⟩ := list_all l (fun i (cs : List Value) => cs.length = ks.length ∧ (∀ (j : Nat) v, cs[j]? = some v → w.cell? ⟨g, o + i * ks.length + j, none⟩ = some v) ∧ ∀ (j : Nat) k v, ks[j]? = some k → cs[j]? = some v → CKis enc P w base spare held k v) fun i hi => by
        obtain ⟨cs, h1, h2, h3⟩ := key i hi
        refine ⟨cs, h1, fun j v hv => ?_, h3⟩
        have := h2 j v hv
        rwa [Addr.add_mid, Addr.add_mid] at this
      refine ⟨css, ⟨hl, fun cs hcs => ?_, .inr ⟨g, o, rfl, fun i cs hi j v hv => (hcss i cs hi).2.1 j v hv⟩⟩, fun cs hcs => ?_⟩
      · obtain ⟨i, hi⟩ := List.getElem?_of_mem hcs
        exact (hcss i cs hi).1
      · obtain ⟨i, hi⟩ := List.getElem?_of_mem hcs
        exact (hcss i cs hi).2.2
end
end Go.Proofs.YtefiiooibbkffaaGreat
