/- The document's Leaves of layer 4: the list, as a plain function, and the row in which it grows. -/
import Derived.Test.YtomkhdefjfjlnaaWMade
import Derived.Deep.AppendLies
namespace Go.Proofs.Ytomkhdefjfjlnaa
open Go.ChangeShapes Go.WideShapes Go.ChangeAt Go.RowKit Go.Deep
set_option linter.unusedVariables false

/-- A leaf: its vpn, its flags, its frame. -/
structure LeafV where
  v : Int
  fl : Int
  pp : Int

def leafCells (x : LeafV) : List Value := [.int .i64 x.v, .int .i64 x.fl, .int .i64 x.pp]

section
variable (n : Nat) (L : List UInt8) (r : Int)
/-- What Look tells of a page: noughts where there is no place. -/
def lookF (v : Int) : Int := match placeOf n L r v with | none => 0 | some g => flagOf (wordI n L g (indexOf v 0))
def lookP (v : Int) : Int := match placeOf n L r v with | none => 0 | some g => ppnOf (wordI n L g (indexOf v 0))
def hasPlace (v : Int) : Bool := (placeOf n L r v).isSome
/-- The entry of the root at an index is a table that there is. -/
def isTable (i : Int) : Bool := (wordV n L r i).2 && decide (kindOf (flagOf (wordI n L r i)) = 1) && decide (0 ≤ ppnOf (wordI n L r i) ∧ ppnOf (wordI n L r i) < n)
def leafK (a b c : Nat) : List LeafV := if kindOf (lookF n L r (joinOf a b c)) = 2 then [⟨joinOf a b c, lookF n L r (joinOf a b c), lookP n L r (joinOf a b c)⟩] else []
def rowJ (a b : Nat) : List LeafV := if hasPlace n L r (joinOf a b 0) = true then (List.range 512).flatMap (leafK n L r a b) else []
def rowI (a : Nat) : List LeafV := if hasPlace n L r (joinOf a 0 0) = true ∨ isTable n L r a = true then (List.range 512).flatMap (rowJ n L r a) else []
def listA (a : Nat) : List LeafV := (List.range a).flatMap (rowI n L r)
def listB (a b : Nat) : List LeafV := listA n L r a ++ (List.range b).flatMap (rowJ n L r a)
def listC (a b c : Nat) : List LeafV := listB n L r a b ++ (List.range c).flatMap (leafK n L r a b)

theorem listA_zero : listA n L r 0 = [] := rfl
theorem listB_zero (a : Nat) : listB n L r a 0 = listA n L r a := by unfold listB; simp
theorem listC_zero (a b : Nat) : listC n L r a b 0 = listB n L r a b := by unfold listC; simp
theorem listC_yes (a b c : Nat) (h : kindOf (lookF n L r (joinOf a b c)) = 2) : listC n L r a b (c + 1) = listC n L r a b c ++ [⟨joinOf a b c, lookF n L r (joinOf a b c), lookP n L r (joinOf a b c)⟩] := by
  unfold listC
  rw [List.range_succ, List.flatMap_append, ← List.append_assoc]
  congr 1
  simp [leafK, h]
theorem listC_no (a b c : Nat) (h : kindOf (lookF n L r (joinOf a b c)) ≠ 2) : listC n L r a b (c + 1) = listC n L r a b c := by
  unfold listC
  rw [List.range_succ, List.flatMap_append, ← List.append_assoc]
  simp [leafK, h]
theorem listB_yes (a b : Nat) (h : hasPlace n L r (joinOf a b 0) = true) : listB n L r a (b + 1) = listC n L r a b 512 := by
  have e : rowJ n L r a b = (List.range 512).flatMap (leafK n L r a b) := by unfold rowJ; rw [if_pos h]
  unfold listC listB
  generalize (List.range 512).flatMap (leafK n L r a b) = X at *
  rw [List.range_succ, List.flatMap_append, List.flatMap_cons, List.flatMap_nil, List.append_nil, e, ← List.append_assoc]
theorem listB_no (a b : Nat) (h : hasPlace n L r (joinOf a b 0) = false) : listB n L r a (b + 1) = listB n L r a b := by
  unfold listB
  rw [List.range_succ, List.flatMap_append, ← List.append_assoc]
  simp only [List.flatMap_cons, List.flatMap_nil, List.append_nil]
  unfold rowJ
  rw [if_neg (by simp [h]), List.append_nil]
theorem listA_yes (a : Nat) (h : hasPlace n L r (joinOf a 0 0) = true ∨ isTable n L r a = true) : listA n L r (a + 1) = listB n L r a 512 := by
  have e : rowI n L r a = (List.range 512).flatMap (rowJ n L r a) := by unfold rowI; rw [if_pos h]
  unfold listB listA
  generalize (List.range 512).flatMap (rowJ n L r a) = X at *
  rw [List.range_succ, List.flatMap_append, List.flatMap_cons, List.flatMap_nil, List.append_nil, e]
theorem listA_no (a : Nat) (h : hasPlace n L r (joinOf a 0 0) = false) (h2 : isTable n L r a = false) : listA n L r (a + 1) = listA n L r a := by
  unfold listA
  rw [List.range_succ, List.flatMap_append]
  simp only [List.flatMap_cons, List.flatMap_nil, List.append_nil]
  unfold rowI
  rw [if_neg (by simp [h, h2]), List.append_nil]
end

/-- A row of leaves that a call has made. -/
def LeafsOwn (w : World) (base : Nat) (v : Value) (xs : List LeafV) : Prop := w.ownsRow base 52 3 v xs.length (xs.flatMap leafCells)

section
variable {w : World} {base : Nat} {v : Value} {xs : List LeafV}
theorem LeafsOwn.nil (w : World) (base : Nat) : LeafsOwn w base (.slice none 0 0) [] := World.ownsRow_nil _ _ _ _
theorem LeafsOwn.form (h : LeafsOwn w base v xs) : ∃ a c, v = .slice a xs.length c := by
  rcases h.2 with ⟨rfl, h0⟩ | ⟨g, cap, cur, rfl, _⟩
  · exact ⟨none, 0, by rw [h0]⟩
  · exact ⟨_, _, rfl⟩
theorem LeafsOwn.lt (h : LeafsOwn w base v xs) {g : Nat} (hg : v.ownBlock = some g) : base ≤ g ∧ g < w.heap.size := World.ownsRow.lt h g hg
theorem LeafsOwn.kept {w' : World} (h : LeafsOwn w base v xs) (hb : ∀ g, v.ownBlock = some g → w'.heap[g]? = w.heap[g]?) : LeafsOwn w' base v xs := by
  refine ⟨h.1, ?_⟩
  rcases h.2 with hn | ⟨g, cap, cur, rfl, hb2, hgg, rest⟩
  · exact .inl hn
  · exact .inr ⟨g, cap, cur, rfl, hb2, (hb g rfl).trans hgg, rest⟩
theorem LeafsOwn.grow {w' : World} (h : LeafsOwn w base v xs) (g : w.grownBy w' none) : LeafsOwn w' base v xs := h.kept fun b hb => g.block b (h.lt hb).2 (by simp)
end

theorem info_leaf : (Try.prog.info? 52).map (fun i => (i.zero, i.size, i.bytes)) = some (some (.agg #[.int .i64 0, .int .i64 0, .int .i64 0]), 3, 24) := by kernel_rfl

/-- 'append(s, x)', behind the block in which x is laid. -/
theorem wpList_leaf {ops : Array Oper} {rest : List Oper} {o : Oper} {a : Act} {Q : Exit → Act → World → Prop} (w : World) (hgd : o.guard = none) (s x : Operand)
    (ho : o.op = .call { callee := .builtin .append, args := #[s, x], argTypes := #[46, 46] }) (base : Nat) (v : Value) (xs : List LeafV) (y : LeafV) (hs : a.eval s = v) (h : LeafsOwn w base v xs) (H c : Nat)
    (hx : a.eval x = .slice (some ⟨H, 0, none⟩) 1 c) (hH : w.heap.size = H) (hl : xs.length ≤ 134217728) (hbase : base ≤ H)
    (hK : ∀ g cap w', LeafsOwn w' base (.slice (some ⟨g, 0, none⟩) (xs.length + 1) cap) (xs ++ [y]) → (w.alloc (.cells #[.int .i64 y.v, .int .i64 y.fl, .int .i64 y.pp] 52)).grownBy w' v.ownBlock → wpList Try.prog ops Q rest (a.put o.dst (.slice (some ⟨g, 0, none⟩) (xs.length + 1) cap)) w') :
    wpList Try.prog ops Q (o :: rest) a (w.alloc (.cells #[.int .i64 y.v, .int .i64 y.fl, .int .i64 y.pp] 52)) := by
  obtain ⟨i0, hi, hz0, hz1, hz2⟩ := info_parts info_leaf
  subst hH
  refine wpList_append_lies _ hgd s x 46 ho base 52 i0 (.agg #[.int .i64 0, .int .i64 0, .int .i64 0]) 3 24 Try.underlying46 hi hz0 hz1 hz2 rfl (by decide) v xs.length (xs.flatMap leafCells) hs (World.ownsRow.alloc h _) ⟨w.heap.size, 0, none⟩ 1 c (leafCells y) hx rfl ?_ ?_ (by omega) (by unfold maxLen; omega) (by omega) (by simp; omega) (w.heap.size + 1) (by simp) ?_
  · exact World.news_of_block (heap_alloc_new w _)
  · intro u hu; simp [leafCells] at hu; rcases hu with rfl | rfl | rfl <;> rfl
  · intro g cap w' hown hgrow hat hlt
    refine hK g cap w' ?_ hgrow
    unfold LeafsOwn
    simp only [List.length_append, List.length_cons, List.length_nil, List.flatMap_append, List.flatMap_cons, List.flatMap_nil, List.append_nil]
    exact hown
end Go.Proofs.Ytomkhdefjfjlnaa
