/- The document's layer 7: the table below an entry. Layer 7: the document's memory, pool and space together; what each call of layers 1 and 6 leaves of them. The document's layer 7: next, grow. The document's layer 7: shrink, tidy. The document's layer 7: New, Enter. The document's layer 7: Find, set. A and D of any number's bits. No program in it. The document's layer 7: set, Remove, Protect, Clear. The document's layer 7: Protect, Clear; Enter whatever it is given. (by genmref7.py) The document's layer 7: Close. -/
import Derived.Test.YtlieommbomjdaaaMB1
import Derived.Test.YtlieommbomjdaaaWB1
import Derived.Test.YtlieommbomjdaaaFB1
namespace Go.Proofs.Ytlieommbomjdaaa
open Go.ChangeShapes Go.WideShapes Go.ChangeAt Go.RowKit Go.Deep
set_option linter.unusedVariables false

section
variable {w0 w w' : World} {x rb pb fb n : Nat} {R : List Nat} {L : List UInt8} {a r N : Int}
theorem EntAt.grow' {w w' : World} {y : Nat} {A B : Int} (h : EntAt w y A B) (g : w.grownBy w' none) : EntAt w' y A B := by
  have k : ∀ (o : Nat) (v : Value), w.cell? ⟨y, o, none⟩ = some v → w'.cell? ⟨y, o, none⟩ = some v := fun o v hv => (g.cell hv (by simp))
  exact ⟨k 0 _ h.flags, k 1 _ h.ppn⟩
end
end Go.Proofs.Ytlieommbomjdaaa

namespace Go.Proofs.Ytlieommbomjdaaa
open Go.ChangeShapes Go.WideShapes Go.ChangeAt Go.RowKit Go.Deep
set_option linter.unusedVariables false

section
variable {w0 w w' : World} {rb fb n pb gb : Nat} {R : List Nat} {W : WoF} {xs : List FrV}
theorem mem_pg {b pb gb : Nat} {O : List Nat} (hb : b ∈ [pb, gb]) : b ∈ pb :: gb :: O := by
  simp only [List.mem_cons, List.not_mem_nil, or_false] at hb
  rcases hb with rfl | rfl <;> simp
theorem mem_rf {b pb gb : Nat} {O : List Nat} (hb : b ∈ O) : b ∈ pb :: gb :: O := List.mem_cons_of_mem _ (List.mem_cons_of_mem _ hb)
theorem turn_of_kept {L L' : List UInt8} (h : RS w0 w rb fb n R L) (h' : RS w0 w' rb fb n R L') (k : Kept R w w') : Turn R w w' := by
  refine ⟨h'.below.os.trans h.below.os.symm, h'.below.tape.trans h.below.tape.symm, h'.below.output.trans h.below.output.symm, ?_, fun b hb hR => k b hb hR⟩
  rcases Nat.eq_zero_or_pos w.heap.size with e | e
  · omega
  · have key : w.heap.size - 1 < w'.heap.size := by
      by_cases hR : w.heap.size - 1 ∈ R
      · exact h'.mem.Rlt _ hR
      · have h1 := k (w.heap.size - 1) (by omega) hR
        rw [Array.getElem?_eq_getElem (show w.heap.size - 1 < w.heap.size by omega)] at h1
        exact (Array.getElem?_eq_some_iff.1 h1).1
    omega
end

section
variable {w0 w w' w2 : World} {rb fb n pb gb x : Nat} {R : List Nat} {a r : Int} {s t : MS}
end
end Go.Proofs.Ytlieommbomjdaaa

namespace Go.Proofs.Ytlieommbomjdaaa
open Go.ChangeShapes Go.WideShapes Go.ChangeAt Go.RowKit Go.Deep
set_option linter.unusedVariables false

section
variable {w0 w w' w2 : World} {rb fb n pb gb x : Nat} {R : List Nat} {a r : Int} {s t : MS}
end
end Go.Proofs.Ytlieommbomjdaaa

namespace Go.Proofs.Ytlieommbomjdaaa
open Go.ChangeShapes Go.WideShapes Go.ChangeAt Go.RowKit Go.Deep
set_option linter.unusedVariables false

theorem shrinkM_none {n : Nat} {s : MS} {f i : Int} (h : nxW n s.W f i = none) : shrinkM n s f i = s := by unfold shrinkM; rw [h]
theorem shrinkM_full {n : Nat} {s : MS} {f i g : Int} (h : nxW n s.W f i = some g) (hc : ¬ clearW s.W g) : shrinkM n s f i = s := by unfold shrinkM; rw [h]; exact if_neg hc
theorem shrinkM_clear {n : Nat} {s : MS} {f i g : Int} (h : nxW n s.W f i = some g) (hc : clearW s.W g) : shrinkM n s f i = ⟨updW s.W f i 0, (giveF s.xs g).xs, s.N - 1⟩ := by unfold shrinkM; rw [h]; exact if_pos hc
theorem nx_lt {n : Nat} {W : WoF} {f i g : Int} (h : nxW n W f i = some g) : 0 ≤ g ∧ g < n := by
  unfold nxW at h
  split at h
  · rename_i hc; injection h with h; rw [← h]; exact hc.2
  · cases h

section
variable {w0 w w' w2 : World} {rb fb n pb gb x : Nat} {R : List Nat} {a r : Int} {s t : MS}

theorem shrinkM_N (n : Nat) (s : MS) (f i : Int) : s.N - 1 ≤ (shrinkM n s f i).N ∧ (shrinkM n s f i).N ≤ s.N := by
  unfold shrinkM
  split
  · exact ⟨by omega, by omega⟩
  · split
    · show s.N - 1 ≤ s.N - 1 ∧ s.N - 1 ≤ s.N
      omega
    · exact ⟨by omega, by omega⟩
theorem tidyM_none {n : Nat} {s : MS} {r v : Int} (h : nxW n s.W r (indexOf v 2) = none) : tidyM n r v s = s := by unfold tidyM; rw [h]
theorem tidyM_some {n : Nat} {s : MS} {r v m : Int} (h : nxW n s.W r (indexOf v 2) = some m) : tidyM n r v s = shrinkM n (shrinkM n s m (indexOf v 1)) r (indexOf v 2) := by unfold tidyM; rw [h]

end
end Go.Proofs.Ytlieommbomjdaaa

namespace Go.Proofs.Ytlieommbomjdaaa
open Go.ChangeShapes Go.WideShapes Go.ChangeAt Go.RowKit Go.Deep
set_option linter.unusedVariables false

theorem take_cases (xs : List FrV) (a l : Int) : takeF 0 xs 1 a l = ⟨0, 5, xs⟩ ∨ ∃ k : Nat, k < xs.length ∧ takeF 0 xs 1 a l = ⟨k, 0, xs.set k (tabF a l)⟩ := by
  have hc1 : isCls 1 := ⟨by decide, by decide⟩
  unfold takeF
  rw [if_neg (fun h => h hc1)]
  split
  · exact .inl rfl
  · cases hk : freeAt xs with
    | none => exact .inl rfl
    | some k =>
      obtain ⟨hk1, _⟩ := List.findIdx?_eq_some_iff_getElem.1 hk
      exact .inr ⟨k, hk1, rfl⟩
theorem okU_enc (F P : Int) : okU (encOf F P) := by unfold encOf okU; omega

section
variable {w0 w w' w2 : World} {rb fb n pb gb x : Nat} {R : List Nat} {a r : Int} {s t : MS} {W : WoF} {xs : List FrV}

theorem enter1_cases (n : Nat) (a r v X : Int) (s : MS) (hn : s.xs.length = n) :
    (∃ k, k ≠ 0 ∧ takeF 0 s.xs 1 a 1 = ⟨0, k, s.xs⟩ ∧ nxW n s.W r (indexOf v 2) = none ∧ enter1 n a r v X s = (k, s)) ∨
    (∃ k : Nat, k < n ∧ ∃ zs, takeF 0 s.xs 1 a 1 = ⟨k, 0, zs⟩ ∧ nxW n s.W r (indexOf v 2) = none ∧ enter1 n a r v X s = enter2 n a r v X (growM s ⟨k, 0, zs⟩ r (indexOf v 2)) k) ∨
    (∃ m, nxW n s.W r (indexOf v 2) = some m ∧ enter1 n a r v X s = enter2 n a r v X s m) := by
  cases hg : nxW n s.W r (indexOf v 2) with
  | some m => exact .inr (.inr ⟨m, rfl, by unfold enter1; rw [hg]⟩)
  | none =>
    rcases take_cases s.xs a 1 with e | ⟨k, hk, e⟩
    · refine .inl ⟨5, by decide, e, rfl, ?_⟩
      unfold enter1
      rw [hg, e]
      exact if_neg (by show ¬ ((5 : Int) = 0); decide)
    · refine .inr (.inl ⟨k, by rw [← hn]; exact hk, _, e, rfl, ?_⟩)
      unfold enter1
      rw [hg, e]
      exact if_pos rfl
theorem enter2_cases (n : Nat) (a r v X : Int) (s : MS) (m : Int) (hn : s.xs.length = n) :
    (∃ l, nxW n s.W m (indexOf v 1) = some l ∧ enter2 n a r v X s m = (0, leafM s l v X)) ∨
    (∃ k, k ≠ 0 ∧ nxW n s.W m (indexOf v 1) = none ∧ takeF 0 s.xs 1 a 2 = ⟨0, k, s.xs⟩ ∧ enter2 n a r v X s m = (k, tidyM n r v s)) ∨
    (∃ k : Nat, k < n ∧ ∃ zs, nxW n s.W m (indexOf v 1) = none ∧ takeF 0 s.xs 1 a 2 = ⟨k, 0, zs⟩ ∧ enter2 n a r v X s m = (0, leafM (growM s ⟨k, 0, zs⟩ m (indexOf v 1)) k v X)) := by
  cases hg : nxW n s.W m (indexOf v 1) with
  | some l => exact .inl ⟨l, rfl, by unfold enter2; rw [hg]⟩
  | none =>
    rcases take_cases s.xs a 2 with e | ⟨k, hk, e⟩
    · refine .inr (.inl ⟨5, by decide, rfl, e, ?_⟩)
      unfold enter2
      rw [hg, e]
      exact if_neg (by show ¬ ((5 : Int) = 0); decide)
    · refine .inr (.inr ⟨k, by rw [← hn]; exact hk, _, rfl, e, ?_⟩)
      unfold enter2
      rw [hg, e]
      exact if_pos rfl

end
end Go.Proofs.Ytlieommbomjdaaa

namespace Go.Proofs.Ytlieommbomjdaaa
open Go.ChangeShapes Go.WideShapes Go.ChangeAt Go.RowKit Go.Deep
set_option linter.unusedVariables false

section
variable {w0 w w' w2 : World} {rb fb n pb gb x : Nat} {R : List Nat} {a r : Int} {s t : MS}

theorem EntB.frozen {w : World} {y : Nat} {A B : Int} (h : EntB w y A B) : w.frozen? ⟨y, 0, none⟩ = false ∧ w.frozen? ⟨y, 1, none⟩ = false := ⟨frozen_of_row _ _ _ _ _ h, frozen_of_row _ _ _ _ _ h⟩

/-- What Find answers. -/
def findV (o : Option (Int × Int)) : Value :=
  match o with
  | none => .tuple #[.agg #[.int .i64 0, .int .i64 0], .bool false]
  | some (A, B) => .tuple #[.agg #[.int .i64 A, .int .i64 B], .bool true]

/-- Find: the leaf's entry. -/
def leafE (n : Nat) (W : WoF) (r v : Int) : Option (Int × Int) := (leafW n W r v).map fun q => (flagOf q.2, ppnOf q.2)
end
end Go.Proofs.Ytlieommbomjdaaa

namespace Go.Proofs.Ytlieommbomjdaaa
set_option linter.unusedVariables false

theorem bit_64 (x : Int) : bit x 64 = (BitVec.ofInt 64 x).toNat.testBit 6 := by
  have hx := toNat_ofInt64 x
  rw [nat_bit]
  unfold bit
  apply decide_eq_decide.2
  generalize (BitVec.ofInt 64 x).toNat = n at *
  simp
  omega
theorem bit_128 (x : Int) : bit x 128 = (BitVec.ofInt 64 x).toNat.testBit 7 := by
  have hx := toNat_ofInt64 x
  rw [nat_bit]
  unfold bit
  apply decide_eq_decide.2
  generalize (BitVec.ofInt 64 x).toNat = n at *
  simp
  omega
theorem and_def (x k : Int) : bits .and .i64 x k = IntKind.i64.wrap ((BitVec.ofInt 64 x &&& BitVec.ofInt 64 k).toNat : Nat) := rfl
theorem ofInt_wrap (n : Nat) (hn : n < 2 ^ 64) : (BitVec.ofInt 64 (IntKind.i64.wrap (n : Int))).toNat = n := by
  have h := toNat_ofInt64 (IntKind.i64.wrap (n : Int))
  rw [IntKind.wrap_i64] at h
  rw [IntKind.wrap_i64]
  omega
theorem and_toNat (x k : Int) : (BitVec.ofInt 64 (bits .and .i64 x k)).toNat = (BitVec.ofInt 64 x).toNat &&& (BitVec.ofInt 64 k).toNat := by
  rw [and_def, BitVec.toNat_and, ofInt_wrap]
  exact Nat.lt_of_le_of_lt Nat.and_le_left (BitVec.ofInt 64 x).isLt
theorem and_192 (x : Int) : bits .and .i64 x 192 = adOf x := by
  have hb : (BitVec.ofInt 64 192).toNat = 192 := by decide
  rw [and_def, BitVec.toNat_and, hb]
  unfold adOf
  rw [bit_64, bit_128]
  generalize (BitVec.ofInt 64 x).toNat = n
  have e : n &&& 192 = (if n.testBit 6 then 64 else 0) ||| (if n.testBit 7 then 128 else 0) := by
    rw [show (192 : Nat) = 2 ^ 6 ||| 2 ^ 7 by decide, Nat.and_or_distrib_left, nat_and_bit, nat_and_bit]
  rw [e]
  cases n.testBit 6 <;> cases n.testBit 7 <;> simp [one] <;> decide
theorem and_and_192 (x k : Int) : bits .and .i64 (bits .and .i64 x k) 192 = hadOf x k := by
  rw [and_192]
  unfold adOf hadOf
  rw [bit_64, bit_128, bit_64, bit_128, bit_64, bit_128, and_toNat, Nat.testBit_and, Nat.testBit_and]
end Go.Proofs.Ytlieommbomjdaaa

namespace Go.Proofs.Ytlieommbomjdaaa
open Go.ChangeShapes Go.WideShapes Go.ChangeAt Go.RowKit Go.Deep
set_option linter.unusedVariables false

section
variable {w0 w w' w2 : World} {rb fb n pb gb x : Nat} {R : List Nat} {a r : Int} {s t : MS}

theorem place_ltW {W : WoF} {r v f : Int} (h : placeW n W r v = some f) : 0 ≤ f ∧ f < n := by
  unfold placeW at h
  split at h
  · cases hm : nxW n W r (indexOf v 2) with
    | none => rw [hm] at h; cases h
    | some m => rw [hm] at h; exact nx_lt h
  · cases h

theorem leafE_none {W : WoF} {r v : Int} (h : leafW n W r v = none) : leafE n W r v = none := by unfold leafE; rw [h]; rfl
theorem leafE_some {W : WoF} {r v f y : Int} (h : leafW n W r v = some (f, y)) : leafE n W r v = some (flagOf y, ppnOf y) := by unfold leafE; rw [h]; rfl

end
end Go.Proofs.Ytlieommbomjdaaa

namespace Go.Proofs.Ytlieommbomjdaaa
open Go.ChangeShapes Go.WideShapes Go.ChangeAt Go.RowKit Go.Deep
set_option linter.unusedVariables false

theorem flags_range (p : Int) : 0 ≤ flagsOf p true ∧ flagsOf p true ≤ 31 := by
  unfold flagsOf
  split
  · omega
  · have := one_cases (bit p 1 || bit p 2) 2
    have := one_cases (bit p 2) 4
    have := one_cases (bit p 4) 8
    have := one_cases true 16
    omega
theorem flags_zero (p : Int) : flagsOf p true = 0 ↔ p % 8 = 0 := by
  constructor
  · intro h
    apply Classical.byContradiction
    intro hp
    unfold flagsOf at h
    rw [if_neg hp] at h
    have := one_cases (bit p 1 || bit p 2) 2
    have := one_cases (bit p 2) 4
    have := one_cases (bit p 4) 8
    have := one_cases true 16
    omega
  · intro h
    unfold flagsOf
    rw [if_pos h]
theorem ad_range (x : Int) : 0 ≤ adOf x ∧ adOf x ≤ 192 := by
  unfold adOf
  have := one_cases (bit x 64) 64
  have := one_cases (bit x 128) 128
  omega
theorem had_range (x k : Int) : 0 ≤ hadOf x k ∧ hadOf x k ≤ 192 := by
  unfold hadOf
  have := one_cases (bit x 64 && bit k 64) 64
  have := one_cases (bit x 128 && bit k 128) 128
  omega
theorem flag_range (y : Int) : 0 ≤ flagOf y ∧ flagOf y < 256 := by unfold flagOf; omega

section
variable {w0 w w' w2 : World} {rb fb n pb gb x : Nat} {R : List Nat} {a r : Int} {s t : MS}
end
end Go.Proofs.Ytlieommbomjdaaa

namespace Go.Proofs.Ytlieommbomjdaaa
open Go.ChangeShapes Go.WideShapes Go.ChangeAt Go.RowKit Go.Deep
set_option linter.unusedVariables false

def midTo (n : Nat) (W : WoF) (m : Int) (k : Nat) : List Int := (List.range k).flatMap fun k => (nxW n W m (k : Nat)).toList
def topTo (n : Nat) (W : WoF) (r : Int) (i : Nat) : List Int := (List.range i).flatMap (closeTop n W r)
theorem midTo_succ (n : Nat) (W : WoF) (m : Int) (k : Nat) : midTo n W m (k + 1) = midTo n W m k ++ (nxW n W m (k : Nat)).toList := by
  unfold midTo
  rw [List.range_succ, List.flatMap_append]
  simp
theorem topTo_succ (n : Nat) (W : WoF) (r : Int) (i : Nat) : topTo n W r (i + 1) = topTo n W r i ++ closeTop n W r i := by
  unfold topTo
  rw [List.range_succ, List.flatMap_append]
  simp

section
variable {w0 w w' w2 : World} {rb fb n pb gb x : Nat} {R : List Nat} {a r : Int} {s t : MS}
end
end Go.Proofs.Ytlieommbomjdaaa
