/- The document's Leaves of layer 4: the list, as a plain function, and the row in which it grows. The document's layer 4: Place and Look by letters; table. The document's Leaves of layer 4: the row that it tells is the list of all leaves. Layer 4's laws: one, loops; words of a memory behind a store. All leaves of a memory, gone down table by table: the same list as the document's. -/
import Derived.Test.YtlieommbomjdaaaWB1
import Derived.Deep.AppendLies
import Derived.Laws.AppendOwnNone
namespace Go.Proofs.Ytlieommbomjdaaa
open Go.ChangeShapes Go.WideShapes Go.ChangeAt Go.RowKit Go.Deep
set_option linter.unusedVariables false

/-- A leaf: its vpn, its flags, its frame. -/
structure LeafV where
  v : Int
  fl : Int
  pp : Int

def leafCells (x : LeafV) : List Value := [.int .i64 x.v, .int .i64 x.fl, .int .i64 x.pp]

section
variable (n : Nat) (L : List UInt8) (r : Int)
/-- What Look tells of a page: noughts where there is no place. -/
def lookF (v : Int) : Int := match placeOf n L r v with | none => 0 | some g => flagOf (wordI n L g (indexOf v 0))
def lookP (v : Int) : Int := match placeOf n L r v with | none => 0 | some g => ppnOf (wordI n L g (indexOf v 0))
def hasPlace (v : Int) : Bool := (placeOf n L r v).isSome
/-- The entry of the root at an index is a table that there is. -/
def isTable (i : Int) : Bool := (wordV n L r i).2 && decide (kindOf (flagOf (wordI n L r i)) = 1) && decide (0 ≤ ppnOf (wordI n L r i) ∧ ppnOf (wordI n L r i) < n)
def leafK (a b c : Nat) : List LeafV := if kindOf (lookF n L r (joinOf a b c)) = 2 then [⟨joinOf a b c, lookF n L r (joinOf a b c), lookP n L r (joinOf a b c)⟩] else []
def rowJ (a b : Nat) : List LeafV := if hasPlace n L r (joinOf a b 0) = true then (List.range 512).flatMap (leafK n L r a b) else []
def rowI (a : Nat) : List LeafV := if hasPlace n L r (joinOf a 0 0) = true ∨ isTable n L r a = true then (List.range 512).flatMap (rowJ n L r a) else []
def listA (a : Nat) : List LeafV := (List.range a).flatMap (rowI n L r)
def listB (a b : Nat) : List LeafV := listA n L r a ++ (List.range b).flatMap (rowJ n L r a)
def listC (a b c : Nat) : List LeafV := listB n L r a b ++ (List.range c).flatMap (leafK n L r a b)

theorem listA_zero : listA n L r 0 = [] := rfl
theorem listB_zero (a : Nat) : listB n L r a 0 = listA n L r a := by unfold listB; simp
theorem listC_zero (a b : Nat) : listC n L r a b 0 = listB n L r a b := by unfold listC; simp
theorem listC_yes (a b c : Nat) (h : kindOf (lookF n L r (joinOf a b c)) = 2) : listC n L r a b (c + 1) = listC n L r a b c ++ [⟨joinOf a b c, lookF n L r (joinOf a b c), lookP n L r (joinOf a b c)⟩] := by
  unfold listC
  rw [List.range_succ, List.flatMap_append, ← List.append_assoc]
  congr 1
  simp [leafK, h]
theorem listC_no (a b c : Nat) (h : kindOf (lookF n L r (joinOf a b c)) ≠ 2) : listC n L r a b (c + 1) = listC n L r a b c := by
  unfold listC
  rw [List.range_succ, List.flatMap_append, ← List.append_assoc]
  simp [leafK, h]
theorem listB_yes (a b : Nat) (h : hasPlace n L r (joinOf a b 0) = true) : listB n L r a (b + 1) = listC n L r a b 512 := by
  have e : rowJ n L r a b = (List.range 512).flatMap (leafK n L r a b) := by unfold rowJ; rw [if_pos h]
  unfold listC listB
  generalize (List.range 512).flatMap (leafK n L r a b) = X at *
  rw [List.range_succ, List.flatMap_append, List.flatMap_cons, List.flatMap_nil, List.append_nil, e, ← List.append_assoc]
theorem listB_no (a b : Nat) (h : hasPlace n L r (joinOf a b 0) = false) : listB n L r a (b + 1) = listB n L r a b := by
  unfold listB
  rw [List.range_succ, List.flatMap_append, ← List.append_assoc]
  simp only [List.flatMap_cons, List.flatMap_nil, List.append_nil]
  unfold rowJ
  rw [if_neg (by simp [h]), List.append_nil]
theorem listA_yes (a : Nat) (h : hasPlace n L r (joinOf a 0 0) = true ∨ isTable n L r a = true) : listA n L r (a + 1) = listB n L r a 512 := by
  have e : rowI n L r a = (List.range 512).flatMap (rowJ n L r a) := by unfold rowI; rw [if_pos h]
  unfold listB listA
  generalize (List.range 512).flatMap (rowJ n L r a) = X at *
  rw [List.range_succ, List.flatMap_append, List.flatMap_cons, List.flatMap_nil, List.append_nil, e]
theorem listA_no (a : Nat) (h : hasPlace n L r (joinOf a 0 0) = false) (h2 : isTable n L r a = false) : listA n L r (a + 1) = listA n L r a := by
  unfold listA
  rw [List.range_succ, List.flatMap_append]
  simp only [List.flatMap_cons, List.flatMap_nil, List.append_nil]
  unfold rowI
  rw [if_neg (by simp [h, h2]), List.append_nil]
end

section
variable {w : World} {base : Nat} {v : Value} {xs : List LeafV}
end

end Go.Proofs.Ytlieommbomjdaaa

namespace Go.Proofs.Ytlieommbomjdaaa
open Go.ChangeShapes Go.WideShapes Go.ChangeAt Go.RowKit Go.Deep
set_option linter.unusedVariables false

section
variable {w0 w w' : World} {r f n : Nat} {R : List Nat} {L : List UInt8}

theorem ref_place2 (h : RS w0 w r f n R L) (root v : Int) :
    Calls Try.prog 23 #[.pointer (some ⟨r, 0, none⟩), .int .i64 root, .int .i64 v] w fun e w' => (∃ x y : Int, e = .returned (.tuple #[.int .i64 x, .int .i64 y, .bool (hasPlace n L root v)])) ∧ w.grownBy w' none := by
  refine (ref_place h root v).mono fun e w' ⟨he, hg⟩ => ⟨?_, hg⟩
  rw [he]
  unfold hasPlace
  cases placeOf n L root v with
  | none => exact ⟨0, 0, rfl⟩
  | some g => exact ⟨_, _, rfl⟩

end
end Go.Proofs.Ytlieommbomjdaaa

namespace Go.Proofs.Ytlieommbomjdaaa
open Go.ChangeShapes Go.WideShapes Go.ChangeAt Go.RowKit Go.Deep
set_option linter.unusedVariables false

section
variable {w0 w wr w2 : World} {r f n : Nat} {R : List Nat} {L : List UInt8} {v : Value} {xs : List LeafV} {bd : Nat}

theorem grown_new {a b : World} {x : Nat} (h : w.grownBy a none) (g : a.grownBy b (some x)) (hx : w.heap.size ≤ x) : w.grownBy b none :=
  ⟨g.os.trans h.os, g.tape.trans h.tape, g.output.trans h.output, Nat.le_trans h.size g.size, fun k hk _ => (g.block k (Nat.lt_of_lt_of_le hk h.size) (by intro e; have e2 := Option.some.inj e; omega)).trans (h.block k hk (by simp))⟩
end
end Go.Proofs.Ytlieommbomjdaaa

namespace Go.Proofs.Ytlieommbomjdaaa
open Go.ChangeShapes Go.WideShapes Go.ChangeAt Go.RowKit Go.Deep
open Extern.Stop (cell)
set_option linter.unusedVariables false

def oneW (i fl fr : Int) : List WordV := [⟨0, 0, 1, 1⟩, ⟨1, 0, 1, 2⟩, ⟨2, i, fl, fr⟩]

theorem words_new (w : World) (Ws : List WordV) (t : TypeId) : WordsAre (w.alloc (.cells (Ws.flatMap fun A => [Value.int .i64 A.fr, .int .i64 A.ix, .int .i64 A.fl, .int .i64 A.pp]).toArray t)) (some ⟨w.heap.size, 0, none⟩) Ws.length Ws := by
  refine ⟨rfl, .inr ⟨_, _, rfl, fun i A hi => ?_⟩⟩
  have key : ∀ (Ws : List WordV) (i j : Nat) (A : WordV), Ws[i]? = some A → j < 4 → (Ws.flatMap fun A => [Value.int .i64 A.fr, .int .i64 A.ix, .int .i64 A.fl, .int .i64 A.pp])[i * 4 + j]? = [Value.int .i64 A.fr, .int .i64 A.ix, .int .i64 A.fl, .int .i64 A.pp][j]? := by
    intro Ws
    induction Ws with
    | nil => intro i j A h; simp at h
    | cons B Ws ih =>
      intro i j A h hj
      rw [List.flatMap_cons]
      cases i with
      | zero =>
        simp at h
        subst h
        rw [List.getElem?_append_left (by simp; omega)]
        simp
      | succ i =>
        rw [List.getElem?_append_right (by simp; omega)]
        have e : (i + 1) * 4 + j - [Value.int .i64 B.fr, .int .i64 B.ix, .int .i64 B.fl, .int .i64 B.pp].length = i * 4 + j := by simp; omega
        rw [e]
        exact ih i j A (by simpa using h) hj
  have at' : ∀ j, j < 4 → (w.alloc (.cells (Ws.flatMap fun A => [Value.int .i64 A.fr, .int .i64 A.ix, .int .i64 A.fl, .int .i64 A.pp]).toArray t)).cell? ⟨w.heap.size, 0 + i * 4 + j, none⟩ = [Value.int .i64 A.fr, .int .i64 A.ix, .int .i64 A.fl, .int .i64 A.pp][j]? := fun j hj => by
    rw [cell_of_row _ w.heap.size (0 + i * 4 + j) _ t (0, 0) (heap_alloc_new w _), ← key Ws i j A hi hj]
    simp
  exact ⟨at' 0 (by omega), at' 1 (by omega), at' 2 (by omega), at' 3 (by omega)⟩

theorem setL_length (n : Nat) (L : List UInt8) (f i v : Int) (hl : L.length = n * 4096) : (setL n L f i v).length = n * 4096 := by
  unfold setL
  split
  · rw [length_splice _ _ _ (by rw [bytesOf_length]; omega), hl]
  · exact hl

theorem word_splice_same {L : List UInt8} {o v : Nat} (h : o + 8 ≤ L.length) (hv : v < 18446744073709551616) : wordOf (((splice L o (bytesOf v)).drop o).take 8) = v := by
  have e := take_splice (L := L) (xs := bytesOf v) (o := o) (by rw [bytesOf_length]; exact h)
  rw [bytesOf_length] at e
  rw [e, wordOf_bytesOf v hv]
theorem word_splice_other {L xs : List UInt8} {o p : Nat} (h : o + xs.length ≤ L.length) (hx : xs.length = 8) (hp : p + 8 ≤ L.length) (hd : p + 8 ≤ o ∨ o + 8 ≤ p) : ((splice L o xs).drop p).take 8 = (L.drop p).take 8 := by
  apply List.ext_getElem?
  intro k
  rw [List.getElem?_take, List.getElem?_take]
  split
  · rw [List.getElem?_drop, List.getElem?_drop, get_splice _ _ _ h]
    split
    · rfl
    · rw [if_neg (by omega)]
  · rfl

theorem wordI_set {n : Nat} {L : List UInt8} {f i v : Int} (hl : L.length = n * 4096) (hf : 0 ≤ f ∧ f < n) (hi : 0 ≤ i ∧ i < 512) (hv : okU v) (g j : Int) :
    wordI n (setL n L f i v) g j = if g = f ∧ j = i then v else wordI n L g j := by
  have hs : setL n L f i v = splice L (f.toNat * 4096 + i.toNat * 8) (bytesOf v.toNat) := by unfold setL; rw [if_pos ⟨hf, hi⟩]
  rw [hs]
  have hv0 := hv.1
  have hv1 := hv.2
  unfold wordI wordV
  by_cases hr : (0 ≤ g ∧ g < n) ∧ (0 ≤ j ∧ j < 512)
  · rw [if_pos hr, if_pos hr]
    by_cases he : g = f ∧ j = i
    · rw [if_pos he]
      obtain ⟨rfl, rfl⟩ := he
      have := word_splice_same (L := L) (o := g.toNat * 4096 + j.toNat * 8) (v := v.toNat) (by omega) (by omega)
      show ((wordOf (((splice L (g.toNat * 4096 + j.toNat * 8) (bytesOf v.toNat)).drop (g.toNat * 4096 + j.toNat * 8)).take 8) : Nat) : Int) = v
      rw [this]
      omega
    · rw [if_neg he]
      have := word_splice_other (L := L) (xs := bytesOf v.toNat) (o := f.toNat * 4096 + i.toNat * 8) (p := g.toNat * 4096 + j.toNat * 8) (by rw [bytesOf_length]; omega) (bytesOf_length _) (by omega) (by omega)
      show ((wordOf (((splice L (f.toNat * 4096 + i.toNat * 8) (bytesOf v.toNat)).drop (g.toNat * 4096 + j.toNat * 8)).take 8) : Nat) : Int) = _
      rw [this]
  · rw [if_neg hr, if_neg hr, if_neg (by rintro ⟨rfl, rfl⟩; exact hr ⟨hf, hi⟩)]

theorem noL_length : noL.length = 8 * 4096 := List.length_replicate
theorem wordOf_noughts : ∀ k : Nat, wordOf (List.replicate k (0 : UInt8)) = 0
  | 0 => rfl
  | k + 1 => by rw [List.replicate_succ]; show (0 : UInt8).toNat + 256 * wordOf (List.replicate k 0) = 0; rw [wordOf_noughts k]; rfl
theorem wordI_noL (g j : Int) : wordI 8 noL g j = 0 := by
  unfold wordI wordV
  split
  · show ((wordOf ((noL.drop (g.toNat * 4096 + j.toNat * 8)).take 8) : Nat) : Int) = 0
    rw [noL, List.drop_replicate, List.take_replicate, wordOf_noughts]
    rfl
  · rfl
end Go.Proofs.Ytlieommbomjdaaa

namespace Go.Proofs.Ytlieommbomjdaaa
set_option linter.unusedVariables false

section
variable (n : Nat) (L : List UInt8)
/-- The table that an entry leads to. -/
def nx (f i : Int) : Option Int := if kindOf (flagOf (wordI n L f i)) = 1 ∧ 0 ≤ ppnOf (wordI n L f i) ∧ ppnOf (wordI n L f i) < n then some (ppnOf (wordI n L f i)) else none
def dl0 (f vp : Int) (c : Nat) : List LeafV := if kindOf (flagOf (wordI n L f c)) = 2 then [⟨vp * 512 + c, flagOf (wordI n L f c), ppnOf (wordI n L f c)⟩] else []
def dl1 (f vp : Int) (b : Nat) : List LeafV := match nx n L f b with | none => [] | some g => (List.range 512).flatMap (dl0 n L g (vp * 512 + b))
def dl2 (f : Int) (a : Nat) : List LeafV := match nx n L f a with | none => [] | some g => (List.range 512).flatMap (dl1 n L g a)

theorem next_nx (v f l : Int) : nextOf n L v f l = nx n L f (indexOf v l) := rfl
theorem index_join (a b c : Nat) (ha : a < 512) (hb : b < 512) (hc : c < 512) : indexOf (joinOf a b c) 2 = a ∧ indexOf (joinOf a b c) 1 = b ∧ indexOf (joinOf a b c) 0 = c := by
  refine ⟨?_, ?_, ?_⟩
  · show joinOf a b c / 262144 % 512 = a
    unfold joinOf; omega
  · show joinOf a b c / 512 % 512 = b
    unfold joinOf; omega
  · show joinOf a b c % 512 = c
    unfold joinOf; omega
theorem place_join (r : Int) (a b c : Nat) (ha : a < 512) (hb : b < 512) (hc : c < 512) (hr : 0 ≤ r ∧ r < n) : placeOf n L r (joinOf a b c) = (nx n L r a).bind fun f => nx n L f b := by
  obtain ⟨h2, h1, h0⟩ := index_join a b c ha hb hc
  unfold placeOf
  rw [if_pos ⟨hr, by unfold joinOf; omega, by unfold joinOf; omega⟩]
  show (nextOf n L (joinOf a b c) r 2).bind (downOf n L (joinOf a b c) 1) = _
  rw [next_nx, h2]
  congr 1
  funext f
  show (nextOf n L (joinOf a b c) f 1).bind (downOf n L (joinOf a b c) 0) = _
  rw [next_nx, h1]
  cases nx n L f b <;> rfl

theorem flatMap_range_congr {α : Type} (k : Nat) (f g : Nat → List α) (h : ∀ i, i < k → f i = g i) : (List.range k).flatMap f = (List.range k).flatMap g := by
  induction k with
  | zero => rfl
  | succ k ih => rw [List.range_succ, List.flatMap_append, List.flatMap_append, ih (fun i hi => h i (by omega)), List.flatMap_cons, List.flatMap_cons, h k (by omega)]; rfl
theorem flatMap_range_nil {α : Type} (k : Nat) (f : Nat → List α) (h : ∀ i, i < k → f i = []) : (List.range k).flatMap f = [] := by
  induction k with
  | zero => rfl
  | succ k ih => rw [List.range_succ, List.flatMap_append, ih (fun i hi => h i (by omega)), List.flatMap_cons, h k (by omega)]; rfl

theorem leafK_down (r g1 g0 : Int) (a b c : Nat) (ha : a < 512) (hb : b < 512) (hc : c < 512) (hr : 0 ≤ r ∧ r < n) (h1 : nx n L r a = some g1) (h0 : nx n L g1 b = some g0) : leafK n L r a b c = dl0 n L g0 ((a : Int) * 512 + b) c := by
  have hp : placeOf n L r (joinOf a b c) = some g0 := by rw [place_join n L r a b c ha hb hc hr, h1]; exact h0
  have hF : lookF n L r (joinOf a b c) = flagOf (wordI n L g0 c) := by unfold lookF; rw [hp]; show flagOf (wordI n L g0 (indexOf (joinOf a b c) 0)) = _; rw [(index_join a b c ha hb hc).2.2]
  have hP : lookP n L r (joinOf a b c) = ppnOf (wordI n L g0 c) := by unfold lookP; rw [hp]; show ppnOf (wordI n L g0 (indexOf (joinOf a b c) 0)) = _; rw [(index_join a b c ha hb hc).2.2]
  have hj : joinOf a b c = ((a : Int) * 512 + b) * 512 + c := by unfold joinOf; omega
  unfold leafK dl0
  rw [hF, hP, hj]
theorem rowJ_down (r g1 : Int) (a b : Nat) (ha : a < 512) (hb : b < 512) (hr : 0 ≤ r ∧ r < n) (h1 : nx n L r a = some g1) : rowJ n L r a b = dl1 n L g1 a b := by
  have hp : placeOf n L r (joinOf a b 0) = nx n L g1 b := by
    have := place_join n L r a b 0 ha hb (by omega) hr
    rw [h1] at this
    exact this
  unfold rowJ dl1 hasPlace
  rw [hp]
  cases h0 : nx n L g1 b with
  | none => rw [if_neg (by simp)]
  | some g0 =>
    rw [if_pos (show (some g0).isSome = true from rfl)]
    exact flatMap_range_congr 512 _ _ fun c hc => leafK_down n L r g1 g0 a b c ha hb hc hr h1 h0
theorem rowI_down (r : Int) (a : Nat) (ha : a < 512) (hr : 0 ≤ r ∧ r < n) : rowI n L r a = dl2 n L r a := by
  have hw : (wordV n L r a).2 = true := by unfold wordV; rw [if_pos ⟨hr, by omega⟩]
  have hT : isTable n L r a = (nx n L r a).isSome := by
    unfold isTable nx
    rw [hw, Bool.true_and]
    split
    · rename_i h; simp [h]
    · rename_i h
      by_cases hk : kindOf (flagOf (wordI n L r a)) = 1
      · have : ¬ (0 ≤ ppnOf (wordI n L r a) ∧ ppnOf (wordI n L r a) < n) := fun q => h ⟨hk, q⟩
        simp [this]
      · simp [hk]
  have hp : placeOf n L r (joinOf a 0 0) = (nx n L r a).bind fun f => nx n L f 0 := place_join n L r a 0 0 ha (by omega) (by omega) hr
  unfold rowI dl2 hasPlace
  rw [hp, hT]
  cases h1 : nx n L r a with
  | none => rw [if_neg (by simp)]
  | some g1 =>
    rw [if_pos (.inr rfl)]
    exact flatMap_range_congr 512 _ _ fun b hb => rowJ_down n L r g1 a b ha hb hr h1
/-- The document's list of all leaves, table by table. -/
theorem listA_down (r : Int) (hr : 0 ≤ r ∧ r < n) : listA n L r 512 = (List.range 512).flatMap (dl2 n L r) :=
  flatMap_range_congr 512 _ _ fun a ha => rowI_down n L r a ha hr
theorem listA_none (r : Int) (hr : ¬ (0 ≤ r ∧ r < n)) : listA n L r 512 = [] := by
  refine flatMap_range_nil 512 _ fun a ha => ?_
  have hw : (wordV n L r a).2 = false := by unfold wordV; rw [if_neg (fun q => hr q.1)]
  have hT : isTable n L r a = false := by unfold isTable; rw [hw]; rfl
  have hp : placeOf n L r (joinOf a 0 0) = none := by unfold placeOf; rw [if_neg (fun q => hr q.1)]
  unfold rowI hasPlace
  rw [hT, hp, if_neg (by simp)]
end
end Go.Proofs.Ytlieommbomjdaaa
