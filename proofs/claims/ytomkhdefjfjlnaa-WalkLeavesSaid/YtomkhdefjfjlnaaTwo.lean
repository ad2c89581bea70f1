/- The program's memory and the document's side by side: what is asked of both is answered alike where their bytes are alike. -/
import Derived.Test.YtomkhdefjfjlnaaRefNew
namespace Go.Proofs.Ytomkhdefjfjlnaa
open Go.ChangeShapes Go.WideShapes Go.ChangeAt Go.RowKit Go.Deep
open Extern.Stop (cell)
set_option linter.unusedVariables false

theorem pageOf_noughts (n i : Nat) (hi : i < n) : pageOf (List.replicate (n * 4096) (0 : UInt8)) i = zeroPage := by
  unfold pageOf zeroPage
  rw [List.drop_replicate, List.take_replicate]
  congr 1
  omega

theorem nodup_idx {R : List Nat} (h : R.Nodup) (i j p : Nat) (hi : R[i]? = some p) (hj : R[j]? = some p) : i = j := by
  exact (List.getElem?_inj (List.getElem?_eq_some_iff.1 hi).1 h).1 (hi.trans hj.symm)

theorem NewW.rs {w0 w w' : World} {r n : Nat} {R : List Nat} {v : Value} (h : NewW w w' r n R v) (hb : Below w0.heap.size w0 w) (h1 : 1 ≤ n) (h2 : n ≤ 256) : ∃ f, RS w0 w' r f n R (List.replicate (n * 4096) 0) := by
  have hw := hb.size
  have hr := h.rge
  have hown := h.own
  have hlen := hown.1
  rcases hown.2 with ⟨_, h0⟩ | ⟨f, cap, cur, rfl, hbf, hf, hle, _, hsz, htk⟩
  · omega
  · have hfR : f ∉ R := fun e => by
      have := h.rows f e
      rw [hf] at this
      simp only [Option.some.injEq, Obj.cells.injEq] at this
      exact absurd this.2.1 (by decide)
    have hrR : r ∉ R := fun e => by
      have := h.rows r e
      rw [h.head] at this
      simp only [Option.some.injEq, Obj.cells.injEq] at this
      exact absurd this.2.1 (by decide)
    refine ⟨f, ⟨⟨⟨cap, h.head, hle⟩, ⟨cur, hf, fun i p hi => ?_⟩, fun i p hi => ?_, by simpa using hlen, by simp, nodup_idx h.nodup, by omega, hrR, hfR, h2⟩, hb.trans (h.below.mono hw), by omega, by omega, fun p hp => by have := h.Rge p hp; omega⟩⟩
    · have h3 := congrArg (fun z => z[i]?) htk
      have hin : i < n := by
        have := (List.getElem?_eq_some_iff.1 hi).1
        have := hlen
        simp at this
        omega
      rw [List.getElem?_take, if_pos (by omega), List.getElem?_map, hi, Array.getElem?_toList] at h3
      exact h3
    · have hin : i < n := by
        have := (List.getElem?_eq_some_iff.1 hi).1
        have := hlen
        simp at this
        omega
      rw [h.rows p (List.mem_of_getElem? hi), pageOf_noughts n i hin]

/-- Both memories: the program's bytes are L, the document's M. -/
structure Two (w0 w : World) (m d r f n : Nat) (R : List Nat) (L M : List UInt8) : Prop where
  st : St w0 w m d n L
  rs : RS w0 w r f n R M
  dR : d ∉ R
  mR : m ∉ R
  dr : d ≠ r
  df : d ≠ f

section
variable {w0 w w' : World} {m d r f n : Nat} {R : List Nat} {L M : List UInt8}

theorem Two.grow (h : Two w0 w m d r f n R L M) (g : w.grownBy w' none) : Two w0 w' m d r f n R L M := ⟨h.st.grow g, h.rs.grow g, h.dR, h.mR, h.dr, h.df⟩

theorem Two.grow' {x : Nat} (h : Two w0 w m d r f n R L M) (g : w.grownBy w' (some x)) (hx : w0.heap.size ≤ x) (h1 : x ≠ m) (h2 : x ≠ d) (h3 : x ≠ r) (h4 : x ≠ f) (h5 : x ∉ R) : Two w0 w' m d r f n R L M :=
  ⟨h.st.grow' g hx h1 h2, h.rs.grow' g hx h3 h4 h5, h.dR, h.mR, h.dr, h.df⟩

/-- What Byte tells. -/
def byteV (n : Nat) (L : List UInt8) (i j : Int) : Nat × Bool := if (0 ≤ i ∧ i < n) ∧ (0 ≤ j ∧ j < 4096) then ((L.getD (i.toNat * 4096 + j.toNat) 0).toNat, true) else (0, false)
/-- What Word tells. -/
def wordV (n : Nat) (L : List UInt8) (i j : Int) : Nat × Bool := if (0 ≤ i ∧ i < n) ∧ (0 ≤ j ∧ j < 512) then (wordOf ((L.drop (i.toNat * 4096 + j.toNat * 8)).take 8), true) else (0, false)
/-- What Same tells. -/
def sameV (n : Nat) (L : List UInt8) (i j : Int) : Bool := if (0 ≤ i ∧ i < n) ∧ (0 ≤ j ∧ j < n) then pageOf L i.toNat == pageOf L j.toNat else false
/-- How long what Page tells is. -/
def pageN (n : Nat) (i : Int) : Nat := if 0 ≤ i ∧ i < n then 4096 else 0

theorem word_any (h : St w0 w m d n L) (i j : Int) : Calls Try.prog 57 #[.pointer (some ⟨m, 0, none⟩), .int .i64 i, .int .i64 j] w fun e w' => e = .returned (.tuple #[.int .u64 (wordV n L i j).1, .bool (wordV n L i j).2]) ∧ w = w' := by
  unfold wordV
  by_cases hin : (0 ≤ i ∧ i < n) ∧ (0 ≤ j ∧ j < 512)
  · rw [if_pos hin]
    exact wordE h i j i.toNat j.toNat _ (by omega) (by omega) (by omega) (by omega) rfl
  · rw [if_neg hin]
    exact word_no _ i j _ (h.noWord i j hin)

theorem rword_any (h : RS w0 w r f n R M) (i j : Int) : Calls Try.prog 38 #[.pointer (some ⟨r, 0, none⟩), .int .i64 i, .int .i64 j] w fun e w' => e = .returned (.tuple #[.int .u64 (wordV n M i j).1, .bool (wordV n M i j).2]) ∧ w = w' := by
  unfold wordV
  by_cases hin : (0 ≤ i ∧ i < n) ∧ (0 ≤ j ∧ j < 512)
  · rw [if_pos hin]
    obtain ⟨a, rfl⟩ := Int.eq_ofNat_of_zero_le hin.1.1
    obtain ⟨b, rfl⟩ := Int.eq_ofNat_of_zero_le hin.2.1
    exact rword_ok h a b (by omega) (by omega)
  · rw [if_neg hin]
    exact rword_no h i j hin

/-- A page, or nothing, of that length, in new memory. -/
def Len (w : World) (l : Nat) (e : Ending) (w' : World) : Prop := ∃ s c, e = .returned (.slice s l c) ∧ w.grownBy w' none

theorem page_any (h : St w0 w m d n L) (i : Int) : Calls Try.prog 21 #[.pointer (some ⟨m, 0, none⟩), .int .i64 i] w (Len w (pageN n i)) := by
  unfold pageN
  by_cases h1 : 0 ≤ i ∧ i < n
  · rw [if_pos h1]
    exact (pageE h i i.toNat (by omega) (by omega)).mono fun e w' ⟨he, _, hg, _⟩ => ⟨_, _, he, hg⟩
  · rw [if_neg h1]
    exact (page_no _ i _ (find_out h.mem i h1)).mono fun e w' ⟨he, hw⟩ => ⟨_, _, he, hw ▸ grown_refl _ _⟩

end
end Go.Proofs.Ytomkhdefjfjlnaa
