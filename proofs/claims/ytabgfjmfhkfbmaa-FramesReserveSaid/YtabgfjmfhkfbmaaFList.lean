/- Layer 6: frames, as plain lists: what each call answers and leaves. No program in it. -/
import Derived.Test.YtabgfjmfhkfbmaaTRow
import Derived.Laws.ResultCell
import Derived.Laws.StructEq
import Derived.Laws.Unary
import Derived.OwnWalk
namespace Go.Proofs.Ytabgfjmfhkfbmaa
open Go.ChangeShapes Go.WideShapes Go.ChangeAt Go.RowKit
set_option linter.unusedVariables false

/-- A frame: its class, owner, index, wire, loan. -/
structure FrV where
  cl : Int
  ow : Int
  ix : Int
  wi : Int
  lo : Int
def frCells (x : FrV) : List Value := [.int .i64 x.cl, .int .i64 x.ow, .int .i64 x.ix, .int .i64 x.wi, .int .i64 x.lo]
theorem fr_len (x : FrV) : (frCells x).length = 5 := rfl
def frAgg (x : FrV) : Value := .agg #[.int .i64 x.cl, .int .i64 x.ow, .int .i64 x.ix, .int .i64 x.wi, .int .i64 x.lo]
def zeroF : FrV := ⟨0, 0, 0, 0, 0⟩

def countF (xs : List FrV) (c : Int) : Int := ((xs.filter fun x => x.cl == c).length : Int)
def isCls (c : Int) : Prop := 1 ≤ c ∧ c ≤ 4
instance (c : Int) : Decidable (isCls c) := inferInstanceAs (Decidable (_ ∧ _))
def freeAt (xs : List FrV) : Option Nat := xs.findIdx? fun x => x.cl == 0
def mayBy (n by' : Int) : Prop := -n ≤ by' ∧ by' ≤ 1000000 - n
instance (n b : Int) : Decidable (mayBy n b) := inferInstanceAs (Decidable (_ ∧ _))

/-- What a call answers and leaves: a number, an error, the frames. -/
structure AnsF where
  n : Int
  e : Int
  xs : List FrV

def takeAt (xs : List FrV) (c o i : Int) : Option Nat → AnsF
  | some k => ⟨k, 0, xs.set k ⟨c, o, i, 0, 0⟩⟩
  | none => ⟨0, 5, xs⟩
def takeF (rs : Int) (xs : List FrV) (c o i : Int) : AnsF :=
  if ¬ isCls c then ⟨0, 2, xs⟩
  else if countF xs 0 = 0 ∨ c ≠ 1 ∧ countF xs 0 ≤ rs then ⟨0, 5, xs⟩
  else takeAt xs c o i (freeAt xs)
/-- Something that is done to the frame of a number, if there is one and it isn't free. -/
def atF (xs : List FrV) (fr : Int) (f : FrV → Int × FrV) : AnsF :=
  if 0 ≤ fr ∧ fr < xs.length then
    (match xs[fr.toNat]? with
    | some x => if x.cl = 0 then ⟨0, 2, xs⟩ else ⟨0, (f x).1, xs.set fr.toNat (f x).2⟩
    | none => ⟨0, 7, xs⟩)
  else ⟨0, 7, xs⟩
def giveF (xs : List FrV) (fr : Int) : AnsF := atF xs fr fun x => if x.wi ≠ 0 ∨ x.lo ≠ 0 then (8, x) else (0, zeroF)
def ownF (xs : List FrV) (fr c o i : Int) : AnsF := atF xs fr fun x => if isCls c then (0, ⟨c, o, i, x.wi, x.lo⟩) else (2, x)
def wireF (xs : List FrV) (fr b : Int) : AnsF := atF xs fr fun x => if mayBy x.wi b then (0, ⟨x.cl, x.ow, x.ix, x.wi + b, x.lo⟩) else (2, x)
def loanF (xs : List FrV) (fr b : Int) : AnsF := atF xs fr fun x => if mayBy x.lo b then (0, ⟨x.cl, x.ow, x.ix, x.wi, x.lo + b⟩) else (2, x)
def getF (xs : List FrV) (fr : Int) : Option FrV := if 0 ≤ fr ∧ fr < xs.length then xs[fr.toNat]? else none
def getV (o : Option FrV) : Value :=
  match o with
  | some x => .tuple #[frAgg x, .bool true]
  | none => .tuple #[frAgg zeroF, .bool false]

/-- What is so of each frame, whatever was done. -/
structure GoodF (x : FrV) : Prop where
  c0 : 0 ≤ x.cl
  c1 : x.cl ≤ 4
  free : x.cl = 0 → x = zeroF
  w0 : 0 ≤ x.wi
  w1 : x.wi ≤ 1000000
  l0 : 0 ≤ x.lo
  l1 : x.lo ≤ 1000000
  ow : okI x.ow
  ix : okI x.ix
def Goods (xs : List FrV) : Prop := ∀ x, x ∈ xs → GoodF x

theorem good_zero : GoodF zeroF := ⟨by decide, by decide, fun _ => rfl, by decide, by decide, by decide, by decide, ⟨by decide, by decide⟩, ⟨by decide, by decide⟩⟩
theorem goods_new (n : Nat) : Goods (List.replicate n zeroF) := fun x hx => by rw [List.eq_of_mem_replicate hx]; exact good_zero
theorem Goods.set {xs : List FrV} (h : Goods xs) (k : Nat) {y : FrV} (hy : GoodF y) : Goods (xs.set k y) := fun x hx => by
  rcases List.mem_or_eq_of_mem_set hx with h1 | rfl
  · exact h x h1
  · exact hy

section
variable {rs : Int} {xs : List FrV} {c o i fr b : Int}
theorem count_free : countF xs 0 = 0 ↔ freeAt xs = none := by
  unfold countF freeAt
  rw [List.findIdx?_eq_none_iff]
  constructor
  · intro h x hx
    have h1 : (xs.filter fun x => x.cl == 0).length = 0 := by omega
    rw [List.length_eq_zero_iff, List.filter_eq_nil_iff] at h1
    simpa using h1 x hx
  · intro h
    have : (xs.filter fun x => x.cl == 0) = [] := List.filter_eq_nil_iff.2 fun x hx => by rw [h x hx]; simp
    rw [this]
    rfl
theorem atF_good {f : FrV → Int × FrV} (h : Goods xs) (hf : ∀ x, GoodF x → x.cl ≠ 0 → GoodF (f x).2) : Goods (atF xs fr f).xs := by
  unfold atF
  split
  · split
    · rename_i x hx
      split
      · exact h
      · rename_i hc
        exact h.set _ (hf x (h x (List.mem_of_getElem? hx)) hc)
    · exact h
  · exact h
theorem atF_len (f : FrV → Int × FrV) : (atF xs fr f).xs.length = xs.length := by
  unfold atF
  split
  · split
    · split
      · rfl
      · rw [List.length_set]
    · rfl
  · rfl
theorem takeF_good (h : Goods xs) (ho : okI o) (hi : okI i) : Goods (takeF rs xs c o i).xs := by
  unfold takeF
  split
  · exact h
  · rename_i hc
    split
    · exact h
    · cases freeAt xs with
      | some k =>
        have hc2 : isCls c := Classical.not_not.1 hc
        exact h.set _ ⟨by have := hc2.1; show (0 : Int) ≤ c; omega, hc2.2, fun e => by have := hc2.1; have : c = 0 := e; omega, by show (0 : Int) ≤ 0; omega, by show (0 : Int) ≤ 1000000; omega, by show (0 : Int) ≤ 0; omega, by show (0 : Int) ≤ 1000000; omega, ho, hi⟩
      | none => exact h
theorem takeF_len : (takeF rs xs c o i).xs.length = xs.length := by
  unfold takeF
  split
  · rfl
  · split
    · rfl
    · cases freeAt xs with
      | some k => exact List.length_set
      | none => rfl
theorem giveF_good (h : Goods xs) : Goods (giveF xs fr).xs := atF_good h fun x hx _ => by
  split
  · exact hx
  · exact good_zero
theorem ownF_good (h : Goods xs) (ho : okI o) (hi : okI i) : Goods (ownF xs fr c o i).xs := atF_good h fun x hx hc => by
  split
  · rename_i h1
    exact ⟨by have := h1.1; show (0 : Int) ≤ c; omega, h1.2, fun e => by have := h1.1; have : c = 0 := e; omega, hx.w0, hx.w1, hx.l0, hx.l1, ho, hi⟩
  · exact hx
theorem wireF_good (h : Goods xs) : Goods (wireF xs fr b).xs := atF_good h fun x hx hc => by
  split
  · rename_i h1
    exact ⟨hx.c0, hx.c1, fun e => absurd e hc, by have := h1.1; show (0 : Int) ≤ x.wi + b; omega, by have := h1.2; show x.wi + b ≤ 1000000; omega, hx.l0, hx.l1, hx.ow, hx.ix⟩
  · exact hx
theorem loanF_good (h : Goods xs) : Goods (loanF xs fr b).xs := atF_good h fun x hx hc => by
  split
  · rename_i h1
    exact ⟨hx.c0, hx.c1, fun e => absurd e hc, hx.w0, hx.w1, by have := h1.1; show (0 : Int) ≤ x.lo + b; omega, by have := h1.2; show x.lo + b ≤ 1000000; omega, hx.ow, hx.ix⟩
  · exact hx
theorem atF_out {f : FrV → Int × FrV} (h : ¬ (0 ≤ fr ∧ fr < xs.length)) : atF xs fr f = ⟨0, 7, xs⟩ := by unfold atF; rw [if_neg h]
theorem atF_free {f : FrV → Int × FrV} {k : Nat} {x : FrV} (hx : xs[k]? = some x) (h : x.cl = 0) : atF xs k f = ⟨0, 2, xs⟩ := by
  have hk := (List.getElem?_eq_some_iff.1 hx).1
  unfold atF
  rw [if_pos (by omega), Int.toNat_natCast, hx]
  simp only [h, if_pos]
theorem atF_at {f : FrV → Int × FrV} {k : Nat} {x : FrV} (hx : xs[k]? = some x) (h : x.cl ≠ 0) : atF xs k f = ⟨0, (f x).1, xs.set k (f x).2⟩ := by
  have hk := (List.getElem?_eq_some_iff.1 hx).1
  unfold atF
  rw [if_pos (by omega), Int.toNat_natCast, hx]
  simp only [if_neg h]
theorem set_self {k : Nat} {x : FrV} (hx : xs[k]? = some x) : xs.set k x = xs := by
  have hk := (List.getElem?_eq_some_iff.1 hx).1
  apply List.ext_getElem?
  intro i
  by_cases e : i = k
  · subst e; rw [List.getElem?_set_self hk, hx]
  · rw [List.getElem?_set_ne (fun h => e h.symm)]
theorem countF_le (c : Int) : 0 ≤ countF xs c ∧ countF xs c ≤ xs.length := by
  unfold countF
  have := List.length_filter_le (fun x : FrV => x.cl == c) xs
  omega
/-- All classes together are all frames. -/
theorem count_all (h : Goods xs) : countF xs 0 + countF xs 1 + countF xs 2 + countF xs 3 + countF xs 4 = xs.length := by
  induction xs with
  | nil => rfl
  | cons x xs ih =>
    have ih := ih fun y hy => h y (List.mem_cons_of_mem _ hy)
    have hx := h x List.mem_cons_self
    have h0 := hx.c0
    have h1 := hx.c1
    have key : ∀ c : Int, countF (x :: xs) c = countF xs c + if x.cl = c then 1 else 0 := fun c => by
      unfold countF
      by_cases e : x.cl = c
      · rw [List.filter_cons_of_pos (by simpa using e), if_pos e]; simp
      · rw [List.filter_cons_of_neg (by simpa using e), if_neg e]; simp
    rw [key, key, key, key, key, List.length_cons]
    rcases (show x.cl = 0 ∨ x.cl = 1 ∨ x.cl = 2 ∨ x.cl = 3 ∨ x.cl = 4 by omega) with e | e | e | e | e <;> rw [e] <;> simp <;> omega
/-- Counting as far as place j. -/
theorem count_take {j : Nat} {x : FrV} (h : xs[j]? = some x) (c : Int) : countF (xs.take (j + 1)) c = countF (xs.take j) c + if x.cl = c then 1 else 0 := by
  unfold countF
  rw [List.take_add_one, h]
  by_cases e : x.cl = c
  · rw [if_pos e, List.filter_append]; simp [e]
  · rw [if_neg e, List.filter_append]; simp [e]
end
end Go.Proofs.Ytabgfjmfhkfbmaa
