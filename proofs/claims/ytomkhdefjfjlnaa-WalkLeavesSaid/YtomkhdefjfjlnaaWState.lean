/- What layer 4 asks of a memory of n frames whose bytes are L: places, entries, walks; as plain functions. -/
import Derived.Test.YtomkhdefjfjlnaaTwo
import Derived.Test.YtomkhdefjfjlnaaPteLives
namespace Go.Proofs.Ytomkhdefjfjlnaa
open Go.ChangeShapes Go.WideShapes Go.RowKit
set_option linter.unusedVariables false

/-- A frame's word, 0 where there is none. -/
def wordI (n : Nat) (L : List UInt8) (f i : Int) : Int := ((wordV n L f i).1 : Nat)
/-- The next table's frame. -/
def nextOf (n : Nat) (L : List UInt8) (v f l : Int) : Option Int :=
  if kindOf (flagOf (wordI n L f (indexOf v l))) = 1 ∧ 0 ≤ ppnOf (wordI n L f (indexOf v l)) ∧ ppnOf (wordI n L f (indexOf v l)) < n then some (ppnOf (wordI n L f (indexOf v l))) else none
/-- Down from a level. -/
def downOf (n : Nat) (L : List UInt8) (v : Int) : Nat → Int → Option Int
  | 0, f => some f
  | q + 1, f => (nextOf n L v f ((q + 1 : Nat) : Int)).bind (downOf n L v q)
def placeOf (n : Nat) (L : List UInt8) (r v : Int) : Option Int := if (0 ≤ r ∧ r < n) ∧ 0 ≤ v ∧ v < 134217728 then downOf n L v 2 r else none
def plV (v : Int) : Option Int → Value
  | none => .tuple #[.int .i64 0, .int .i64 0, .bool false]
  | some f => .tuple #[.int .i64 f, .int .i64 (indexOf v 0), .bool true]
def lookV (n : Nat) (L : List UInt8) (v : Int) : Option Int → Value
  | none => .tuple #[.agg #[.int .i64 0, .int .i64 0], .bool false]
  | some f => .tuple #[.agg #[.int .i64 (flagOf (wordI n L f (indexOf v 0))), .int .i64 (ppnOf (wordI n L f (indexOf v 0)))], .bool true]

/-- An entry's number, A set, and D to write. -/
def markOf (x a : Int) : Int := if a = 2 then bits .or .u64 (bits .or .u64 x 64) 128 else bits .or .u64 x 64
/-- A word stored. -/
def setL (n : Nat) (L : List UInt8) (f i v : Int) : List UInt8 := if (0 ≤ f ∧ f < n) ∧ (0 ≤ i ∧ i < 512) then splice L (f.toNat * 4096 + i.toNat * 8) (bytesOf v.toNat) else L
/-- What comes of a walk: its code; the table and the entry, if there is a place. -/
def tabOf (n : Nat) (L : List UInt8) (r va : Int) : Int := (placeOf n L r (vpnOf va)).getD 0
def entOf (n : Nat) (L : List UInt8) (r va : Int) : Int := wordI n L (tabOf n L r va) (indexOf (vpnOf va) 0)
def wayOf (n : Nat) (L : List UInt8) (r va a : Int) (u : Bool) : Int :=
  if canonOf va = false ∨ ¬ (0 ≤ r ∧ r < n) then 2
  else if placeOf n L r (vpnOf va) = none then 1
  else if ¬ (kindOf (flagOf (entOf n L r va)) = 2 ∧ 0 ≤ ppnOf (entOf n L r va) ∧ ppnOf (entOf n L r va) < n) then 1
  else if mayOf (flagOf (entOf n L r va)) a u = false then 3 else 0
def walkV (n : Nat) (L : List UInt8) (r va a : Int) (u : Bool) : Value :=
  if wayOf n L r va a u = 0 then .tuple #[.int .i64 0, .int .i64 (ppnOf (entOf n L r va)), .int .i64 (byteOf va)] else .tuple #[.int .i64 (wayOf n L r va a u), .int .i64 0, .int .i64 0]
def walkL (n : Nat) (L : List UInt8) (r va a : Int) (u : Bool) : List UInt8 :=
  if wayOf n L r va a u = 0 then setL n L (tabOf n L r va) (indexOf (vpnOf va) 0) (markOf (entOf n L r va) a) else L

theorem index_lt0 (v : Int) : 0 ≤ indexOf v 0 ∧ indexOf v 0 < 512 := by
  show 0 ≤ v % 512 ∧ v % 512 < 512
  omega

theorem okU_or (x k : Int) (hx : okU x) (hk : okU k) : okU (bits .or .u64 x k) := by
  obtain ⟨a, rfl⟩ := Int.eq_ofNat_of_zero_le hx.1
  obtain ⟨b, rfl⟩ := Int.eq_ofNat_of_zero_le hk.1
  have h1 := hx.2
  have h2 := hk.2
  rw [bits_or_u64_nat a b (by omega) (by omega)]
  have : a ||| b < 2 ^ 64 := Nat.or_lt_two_pow (by omega) (by omega)
  exact ⟨by omega, by omega⟩
theorem okU_mark (x a : Int) (hx : okU x) : okU (markOf x a) := by
  unfold markOf
  split
  · exact okU_or _ _ (okU_or _ _ hx ⟨by decide, by decide⟩) ⟨by decide, by decide⟩
  · exact okU_or _ _ hx ⟨by decide, by decide⟩

/-- An entry that is boxed, as a block. -/
def EntB (w : World) (y : Nat) (A B : Int) : Prop := w.heap[y]? = some (.cells #[.int .i64 A, .int .i64 B] 40 (0, 0))
theorem EntB.at {w : World} {y : Nat} {A B : Int} (h : EntB w y A B) : w.cell? ⟨y, 0, none⟩ = some (.int .i64 A) ∧ w.cell? ⟨y, 1, none⟩ = some (.int .i64 B) :=
  ⟨by rw [cell_of_row _ _ _ _ _ _ h]; rfl, by rw [cell_of_row _ _ _ _ _ _ h]; rfl⟩
theorem EntB.lt {w : World} {y : Nat} {A B : Int} (h : EntB w y A B) : y < w.heap.size := (Array.getElem?_eq_some_iff.1 h).1
theorem EntB.grow {w w' : World} {y : Nat} {A B : Int} (h : EntB w y A B) (g : w.grownBy w' none) : EntB w' y A B := (g.block _ h.lt (by simp)).trans h

theorem wordI_ok (n : Nat) (L : List UInt8) (f i : Int) : okU (wordI n L f i) := by
  unfold wordI wordV
  split
  · have h := wordOf_lt ((L.drop (f.toNat * 4096 + i.toNat * 8)).take 8)
    have h2 : ((L.drop (f.toNat * 4096 + i.toNat * 8)).take 8).length ≤ 8 := by simp; omega
    have h3 : 256 ^ ((L.drop (f.toNat * 4096 + i.toNat * 8)).take 8).length ≤ 256 ^ 8 := Nat.pow_le_pow_right (by decide) h2
    have h4 : (256 : Nat) ^ 8 = 18446744073709551616 := by decide
    generalize wordOf ((L.drop (f.toNat * 4096 + i.toNat * 8)).take 8) = x at *
    refine ⟨?_, ?_⟩
    · show (0 : Int) ≤ (x : Int); omega
    · show (x : Int) < 18446744073709551616; omega
  · exact ⟨by decide, by decide⟩

theorem down_some {n : Nat} {L : List UInt8} {v f g : Int} {q : Nat} (h : nextOf n L v f ((q + 1 : Nat) : Int) = some g) : downOf n L v (q + 1) f = downOf n L v q g := by
  show (nextOf n L v f ((q + 1 : Nat) : Int)).bind (downOf n L v q) = _
  rw [h]; rfl
theorem down_none {n : Nat} {L : List UInt8} {v f : Int} {q : Nat} (h : nextOf n L v f ((q + 1 : Nat) : Int) = none) : downOf n L v (q + 1) f = none := by
  show (nextOf n L v f ((q + 1 : Nat) : Int)).bind (downOf n L v q) = _
  rw [h]; rfl
theorem next_lt {n : Nat} {L : List UInt8} {v f l g : Int} (h : nextOf n L v f l = some g) : 0 ≤ g ∧ g < n := by
  unfold nextOf at h
  split at h
  · rename_i hc
    injection h with h
    subst h
    exact hc.2
  · cases h
theorem down_lt {n : Nat} {L : List UInt8} {v : Int} : ∀ {q : Nat} {f g : Int}, 0 ≤ f ∧ f < n → downOf n L v q f = some g → 0 ≤ g ∧ g < n
  | 0, f, g, hf, h => by injection h with h; subst h; exact hf
  | q + 1, f, g, hf, h => by
    cases hx : nextOf n L v f ((q + 1 : Nat) : Int) with
    | none => rw [down_none hx] at h; cases h
    | some y => rw [down_some hx] at h; exact down_lt (next_lt hx) h
theorem place_lt {n : Nat} {L : List UInt8} {r v g : Int} (h : placeOf n L r v = some g) : 0 ≤ g ∧ g < n := by
  unfold placeOf at h
  split at h
  · rename_i hc; exact down_lt hc.1 h
  · cases h

theorem grown_of_below' {a b : World} (h : Below a.heap.size a b) : a.grownBy b none := grown_of_below h none
theorem grown_drew (w : World) : w.grownBy w.drew none := grown_drewN w 1 none

section
variable {w0 w w' : World} {m d r f n : Nat} {R : List Nat} {L M : List UInt8}
/-- A word of the document's memory, by a letter. -/
theorem rword_at (h : RS w0 w r f n R L) (i j : Int) : Calls Try.prog 38 #[.pointer (some ⟨r, 0, none⟩), .int .i64 i, .int .i64 j] w fun e w' => e = .returned (.tuple #[.int .u64 (wordI n L i j), .bool (wordV n L i j).2]) ∧ w = w' := rword_any h i j
/-- A word stored into the document's memory. -/
theorem rsetWordE (h : RS w0 w r f n R L) (I J V : Int) (hI : 0 ≤ I ∧ I < n) (hJ : 0 ≤ J ∧ J < 512) (hV : okU V) :
    Calls Try.prog 28 #[.pointer (some ⟨r, 0, none⟩), .int .i64 I, .int .i64 J, .int .u64 V] w fun e w' => e = .returned (.bool true) ∧ RS w0 w' r f n R (setL n L I J V) ∧ Kept R w w' := by
  have hs : setL n L I J V = splice L (I.toNat * 4096 + J.toNat * 8) (bytesOf V.toNat) := by unfold setL; rw [if_pos ⟨hI, hJ⟩]
  rw [hs]
  obtain ⟨i, rfl⟩ := Int.eq_ofNat_of_zero_le hI.1
  obtain ⟨j, rfl⟩ := Int.eq_ofNat_of_zero_le hJ.1
  obtain ⟨v, rfl⟩ := Int.eq_ofNat_of_zero_le hV.1
  exact rsetWord_ok h i j v (by omega) (by omega)
/-- .. into the program's. -/
theorem setWordE' (h : St w0 w m d n L) (I J V : Int) (hI : 0 ≤ I ∧ I < n) (hJ : 0 ≤ J ∧ J < 512) (hV : okU V) :
    Calls Try.prog 23 #[.pointer (some ⟨m, 0, none⟩), .int .i64 I, .int .i64 J, .int .u64 V] w fun e w' => e = .returned (.bool true) ∧ St w0 w' m d n (setL n L I J V) ∧ w.grownBy w' (some d) := by
  have hs : setL n L I J V = splice L (I.toNat * 4096 + J.toNat * 8) (bytesOf V.toNat) := by unfold setL; rw [if_pos ⟨hI, hJ⟩]
  rw [hs]
  have hv2 := hV.2
  obtain ⟨i, rfl⟩ := Int.eq_ofNat_of_zero_le hI.1
  obtain ⟨j, rfl⟩ := Int.eq_ofNat_of_zero_le hJ.1
  obtain ⟨v, rfl⟩ := Int.eq_ofNat_of_zero_le hV.1
  exact setWordE h _ _ _ i j v rfl rfl rfl (by omega) (by omega) (by omega)
/-- .. at any numbers. -/
theorem rsetWordA (h : RS w0 w r f n R L) (I J V : Int) (hV : okU V) :
    Calls Try.prog 28 #[.pointer (some ⟨r, 0, none⟩), .int .i64 I, .int .i64 J, .int .u64 V] w fun e w' => (∃ b, e = .returned (.bool b)) ∧ RS w0 w' r f n R (setL n L I J V) ∧ Kept R w w' := by
  by_cases hc : (0 ≤ I ∧ I < n) ∧ (0 ≤ J ∧ J < 512)
  · exact (rsetWordE h I J V hc.1 hc.2 hV).mono fun e w' ⟨a, b, c⟩ => ⟨⟨_, a⟩, b, c⟩
  · have hs : setL n L I J V = L := by unfold setL; rw [if_neg hc]
    rw [hs]
    exact (rsetWord_no h I J V hc).mono fun e w' ⟨a, b⟩ => ⟨⟨_, a⟩, b ▸ h, b ▸ Kept.refl⟩
theorem setWordA (h : St w0 w m d n L) (I J V : Int) (hV : okU V) :
    Calls Try.prog 23 #[.pointer (some ⟨m, 0, none⟩), .int .i64 I, .int .i64 J, .int .u64 V] w fun e w' => (∃ b, e = .returned (.bool b)) ∧ St w0 w' m d n (setL n L I J V) ∧ w.grownBy w' (some d) := by
  by_cases hc : (0 ≤ I ∧ I < n) ∧ (0 ≤ J ∧ J < 512)
  · exact (setWordE' h I J V hc.1 hc.2 hV).mono fun e w' ⟨a, b, c⟩ => ⟨⟨_, a⟩, b, c⟩
  · have hs : setL n L I J V = L := by unfold setL; rw [if_neg hc]
    rw [hs]
    exact (setWord_no _ _ _ _ _ (h.noWord I J hc)).mono fun e w' ⟨a, b⟩ => ⟨⟨_, a⟩, b ▸ h, b ▸ grown_refl _ _⟩
theorem word_at (h : St w0 w m d n L) (i j : Int) : Calls Try.prog 57 #[.pointer (some ⟨m, 0, none⟩), .int .i64 i, .int .i64 j] w fun e w' => e = .returned (.tuple #[.int .u64 (wordI n L i j), .bool (wordV n L i j).2]) ∧ w = w' := word_any h i j
end
end Go.Proofs.Ytomkhdefjfjlnaa
