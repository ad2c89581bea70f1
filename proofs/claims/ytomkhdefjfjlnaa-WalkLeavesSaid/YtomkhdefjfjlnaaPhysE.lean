/- Calls of package phys, as a law meets them: the state of one memory handed on from call to call. -/
import Derived.Test.YtomkhdefjfjlnaaPhysD
namespace Go.Proofs.Ytomkhdefjfjlnaa
open Go.ChangeShapes Go.WideShapes Go.ChangeAt Go.RowKit
open Extern.Stop (cell)
set_option linter.unusedVariables false

theorem getD_splice_out {L xs : List UInt8} {o j : Nat} (h : o + xs.length ≤ L.length) (h1 : j < o ∨ o + xs.length ≤ j) : (splice L o xs).getD j 0 = L.getD j 0 := by
  simp only [List.getD]
  rw [get_splice L o xs h]
  rcases h1 with h1 | h1
  · rw [if_pos h1]
  · rw [if_neg (by omega), if_neg (by omega)]

theorem pageOf_get (L : List UInt8) (i k : Nat) (hk : k < 4096) : (pageOf L i)[k]? = L[i * 4096 + k]? := by
  simp [pageOf, hk, List.getElem?_drop]

theorem pageOf_splice_other {L xs : List UInt8} {n i j o : Nat} (hl : L.length = n * 4096) (hi : i < n) (hj : j < n) (hij : i ≠ j) (ho : o + xs.length ≤ 4096) : pageOf (splice L (i * 4096 + o) xs) j = pageOf L j := by
  have hb : i * 4096 + o + xs.length ≤ L.length := by omega
  apply List.ext_getElem?
  intro k
  by_cases hk : k < 4096
  · rw [pageOf_get _ _ _ hk, pageOf_get _ _ _ hk, get_splice _ _ _ hb]
    rcases Nat.lt_or_gt_of_ne hij with h | h
    · rw [if_neg (by omega), if_neg (by omega)]
    · rw [if_pos (by omega)]
  · rw [List.getElem?_eq_none (by simp [pageOf]; omega), List.getElem?_eq_none (by simp [pageOf]; omega)]

theorem pageOf_splice_same {L xs : List UInt8} {n i o : Nat} (hl : L.length = n * 4096) (hi : i < n) (ho : o + xs.length ≤ 4096) : pageOf (splice L (i * 4096 + o) xs) i = splice (pageOf L i) o xs := by
  have hb : i * 4096 + o + xs.length ≤ L.length := by omega
  have hp := pageOf_length hl i hi
  apply List.ext_getElem?
  intro k
  by_cases hk : k < 4096
  · rw [pageOf_get _ _ _ hk, get_splice _ _ _ hb, get_splice _ _ _ (by omega), pageOf_get _ _ _ hk]
    by_cases h1 : k < o
    · rw [if_pos (by omega), if_pos h1]
    · rw [if_neg (by omega), if_neg h1]
      by_cases h2 : k < o + xs.length
      · rw [if_pos (by omega), if_pos h2]
        congr 1
        omega
      · rw [if_neg (by omega), if_neg h2]
  · rw [List.getElem?_eq_none (by simp [pageOf]; omega), List.getElem?_eq_none (by rw [length_splice _ _ _ (by omega)]; omega)]

theorem splice_all {α : Type} {L xs : List α} (h : xs.length = L.length) : splice L 0 xs = xs := by
  simp [splice, h]

theorem pageOf_whole {L xs : List UInt8} {n i : Nat} (hl : L.length = n * 4096) (hi : i < n) (ho : xs.length = 4096) : pageOf (splice L (i * 4096) xs) i = xs := by
  have := pageOf_splice_same (xs := xs) (o := 0) hl hi (by omega)
  rw [Nat.add_zero] at this
  rw [this, splice_all (by rw [ho, pageOf_length hl i hi])]

theorem pageOf_whole_other {L xs : List UInt8} {n i j : Nat} (hl : L.length = n * 4096) (hi : i < n) (hj : j < n) (hij : i ≠ j) (ho : xs.length = 4096) : pageOf (splice L (i * 4096) xs) j = pageOf L j := by
  have := pageOf_splice_other (xs := xs) (o := 0) hl hi hj hij (by omega)
  rwa [Nat.add_zero] at this

/-- The state of a memory that a law made: it lies in blocks that were not there when the law began (w0), and what was there has not turned. -/
structure St (w0 w : World) (m d n : Nat) (L : List UInt8) : Prop where
  mem : Mem w m d n L
  below : Below w0.heap.size w0 w
  dge : w0.heap.size ≤ d
  mge : w0.heap.size ≤ m

theorem St.len {w0 w : World} {m d n : Nat} {L : List UInt8} (h : St w0 w m d n L) : L.length = n * 4096 := h.mem.len

theorem St.grow {w0 w w' : World} {m d n : Nat} {L : List UInt8} (h : St w0 w m d n L) (g : w.grownBy w' none) : St w0 w' m d n L :=
  ⟨h.mem.keptNone g, h.below.grown g h.below.size (by simp), h.dge, h.mge⟩

theorem St.grow' {w0 w w' : World} {m d n : Nat} {L : List UInt8} {r : Nat} (h : St w0 w m d n L) (g : w.grownBy w' (some r)) (hr : w0.heap.size ≤ r) (h1 : r ≠ m) (h2 : r ≠ d) : St w0 w' m d n L :=
  ⟨h.mem.kept g (by simpa using h1) (by simpa using h2), h.below.grown g h.below.size (by simpa using hr), h.dge, h.mge⟩

theorem St.stored {w0 w : World} {m d n : Nat} {L : List UInt8} (h : St w0 w m d n L) (o : Nat) (xs : List UInt8) (ho : o + xs.length ≤ n * 4096) : St w0 (w.setCells d o (xs.map cell)) m d n (splice L o xs) :=
  ⟨h.mem.stored o xs ho, h.below.grown (grown_setCells w d o _) h.below.size (by simpa using h.dge), h.dge, h.mge⟩

theorem grown_drewN (w : World) (k : Nat) (r : Option Nat) : w.grownBy (w.drewN k) r := ⟨rfl, rfl, rfl, Nat.le_refl _, fun _ _ _ => rfl⟩

section
variable {w0 w : World} {m d n : Nat} {L : List UInt8}

theorem newE (w0 : World) {w : World} (hb : Below w0.heap.size w0 w) (N : Int) (n : Nat) (hN : N = n) (h1 : 1 ≤ n) (h2 : n ≤ 256) :
    Calls Try.prog 26 #[.int .i64 N] w fun e w' => e = .returned (.pointer (some ⟨w.heap.size + 1, 0, none⟩)) ∧ St w0 w' (w.heap.size + 1) w.heap.size n (List.replicate (n * 4096) 0) ∧ w.grownBy w' none := by
  subst hN
  exact (new_ok n w h1 h2).mono fun e w' ⟨he, hM, hG, hz⟩ => ⟨he, ⟨hM, hb.grown hG hb.size (by simp), hb.size, by have := hb.size; omega⟩, hG⟩

theorem framesE (h : St w0 w m d n L) : Calls Try.prog 55 #[.pointer (some ⟨m, 0, none⟩)] w fun e w' => e = .returned (.int .i64 n) ∧ w = w' := frames_ok h.mem

theorem wordE (h : St w0 w m d n L) (I J : Int) (i j : Nat) (x : Int) (hI : I = i) (hJ : J = j) (hi : i < n) (hj : j < 512) (hx : ((wordOf ((L.drop (i * 4096 + j * 8)).take 8) : Nat) : Int) = x) :
    Calls Try.prog 57 #[.pointer (some ⟨m, 0, none⟩), .int .i64 I, .int .i64 J] w fun e w' => e = .returned (.tuple #[.int .u64 x, .bool true]) ∧ w = w' := by
  subst hI hJ hx
  exact word_ok h.mem i j hi hj

theorem setWordE (h : St w0 w m d n L) (I J V : Int) (i j v : Nat) (hI : I = i) (hJ : J = j) (hV : V = v) (hi : i < n) (hj : j < 512) (hv : v < 18446744073709551616) :
    Calls Try.prog 23 #[.pointer (some ⟨m, 0, none⟩), .int .i64 I, .int .i64 J, .int .u64 V] w fun e w' =>
      e = .returned (.bool true) ∧ St w0 w' m d n (splice L (i * 4096 + j * 8) (bytesOf v)) ∧ w.grownBy w' (some d) := by
  subst hI hJ hV
  exact (setWord_ok h.mem i j v hi hj hv).mono fun e w' ⟨he, hw⟩ => ⟨he, hw ▸ h.stored _ _ (by rw [bytesOf_length]; omega), hw ▸ grown_setCells _ _ _ _⟩

theorem pageE (h : St w0 w m d n L) (I : Int) (i : Nat) (hI : I = i) (hi : i < n) :
    Calls Try.prog 21 #[.pointer (some ⟨m, 0, none⟩), .int .i64 I] w fun e w' =>
      e = .returned (.slice (some ⟨w.heap.size, 0, none⟩) 4096 4096) ∧ St w0 w' m d n L ∧ w.grownBy w' none ∧ w'.heap[w.heap.size]? = some (.cells ((pageOf L i).map cell).toArray 102 (0, 0)) := by
  subst hI
  exact (page_ok h.mem i hi).mono fun e w' ⟨he, hG, _, hp⟩ => ⟨he, h.grow hG, hG, hp⟩

end

/-- Bytes that were there when the law began read the same. -/
theorem Src.below {w w' : World} {s : Option Addr} {l : Nat} {bs : List UInt8} (h : Src w s l bs) (b : Below w.heap.size w w') : Src w' s l bs := by
  refine ⟨h.1, ?_⟩
  by_cases hl : l = 0
  · exact .inl hl
  · rcases h.2 with h0 | ⟨g, o, rfl, hr⟩
    · exact absurd h0 hl
    · refine .inr ⟨g, o, rfl, range_kept hr (b.block g ?_)⟩
      obtain ⟨x, hx⟩ : ∃ x, (bs.map cell)[0]? = some x := by
        cases bs with
        | nil => simp [← h.1] at hl
        | cons x r => exact ⟨_, rfl⟩
      exact World.block_lt_of_cell? w _ (hr 0 x hx)

/-- One byte of bytes that came in. -/
theorem Src.cell {w : World} {s : Option Addr} {l : Nat} {bs : List UInt8} (h : Src w s l bs) (q : Nat) (hq : q < l) : ∃ g o, s = some ⟨g, o, none⟩ ∧ w.cell? ⟨g, o + q, none⟩ = some (.int .u8 (bs.getD q 0).toNat) := by
  rcases h.2 with h0 | ⟨g, o, rfl, hr⟩
  · omega
  · refine ⟨g, o, rfl, hr q _ ?_⟩
    have hq' : q < bs.length := by rw [h.1]; exact hq
    simp [List.getD, List.getElem?_eq_getElem hq', Extern.Stop.cell]

theorem fillOf_getD_in (bs : List UInt8) (q : Nat) (h : q < bs.length) (h4 : q < 4096) : (fillOf bs).getD q 0 = bs.getD q 0 := by
  simp only [fillOf, List.getD]
  rw [List.getElem?_append_left (by simp; omega), List.getElem?_take, if_pos h4]

theorem fillOf_getD_out (bs : List UInt8) (q : Nat) (h : bs.length ≤ q) : (fillOf bs).getD q 0 = 0 := by
  simp only [fillOf, List.getD]
  by_cases h4 : bs.length ≤ 4096
  · rw [List.getElem?_append_right (by simp; omega), List.getElem?_replicate]
    split <;> rfl
  · rw [List.getElem?_eq_none (by simp; omega)]; rfl
end Go.Proofs.Ytomkhdefjfjlnaa
