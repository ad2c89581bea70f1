/- All leaves of a memory, gone down table by table: the same list as the document's. -/
import Derived.Test.YtomkhdefjfjlnaaWLeafs
namespace Go.Proofs.Ytomkhdefjfjlnaa
set_option linter.unusedVariables false

section
variable (n : Nat) (L : List UInt8)
/-- The table that an entry leads to. -/
def nx (f i : Int) : Option Int := if kindOf (flagOf (wordI n L f i)) = 1 ∧ 0 ≤ ppnOf (wordI n L f i) ∧ ppnOf (wordI n L f i) < n then some (ppnOf (wordI n L f i)) else none
def dl0 (f vp : Int) (c : Nat) : List LeafV := if kindOf (flagOf (wordI n L f c)) = 2 then [⟨vp * 512 + c, flagOf (wordI n L f c), ppnOf (wordI n L f c)⟩] else []
def dl1 (f vp : Int) (b : Nat) : List LeafV := match nx n L f b with | none => [] | some g => (List.range 512).flatMap (dl0 n L g (vp * 512 + b))
def dl2 (f : Int) (a : Nat) : List LeafV := match nx n L f a with | none => [] | some g => (List.range 512).flatMap (dl1 n L g a)

theorem next_nx (v f l : Int) : nextOf n L v f l = nx n L f (indexOf v l) := rfl
theorem index_join (a b c : Nat) (ha : a < 512) (hb : b < 512) (hc : c < 512) : indexOf (joinOf a b c) 2 = a ∧ indexOf (joinOf a b c) 1 = b ∧ indexOf (joinOf a b c) 0 = c := by
  refine ⟨?_, ?_, ?_⟩
  · show joinOf a b c / 262144 % 512 = a
    unfold joinOf; omega
  · show joinOf a b c / 512 % 512 = b
    unfold joinOf; omega
  · show joinOf a b c % 512 = c
    unfold joinOf; omega
theorem place_join (r : Int) (a b c : Nat) (ha : a < 512) (hb : b < 512) (hc : c < 512) (hr : 0 ≤ r ∧ r < n) : placeOf n L r (joinOf a b c) = (nx n L r a).bind fun f => nx n L f b := by
  obtain ⟨h2, h1, h0⟩ := index_join a b c ha hb hc
  unfold placeOf
  rw [if_pos ⟨hr, by unfold joinOf; omega, by unfold joinOf; omega⟩]
  show (nextOf n L (joinOf a b c) r 2).bind (downOf n L (joinOf a b c) 1) = _
  rw [next_nx, h2]
  congr 1
  funext f
  show (nextOf n L (joinOf a b c) f 1).bind (downOf n L (joinOf a b c) 0) = _
  rw [next_nx, h1]
  cases nx n L f b <;> rfl

theorem flatMap_range_congr {α : Type} (k : Nat) (f g : Nat → List α) (h : ∀ i, i < k → f i = g i) : (List.range k).flatMap f = (List.range k).flatMap g := by
  induction k with
  | zero => rfl
  | succ k ih => rw [List.range_succ, List.flatMap_append, List.flatMap_append, ih (fun i hi => h i (by omega)), List.flatMap_cons, List.flatMap_cons, h k (by omega)]; rfl
theorem flatMap_range_nil {α : Type} (k : Nat) (f : Nat → List α) (h : ∀ i, i < k → f i = []) : (List.range k).flatMap f = [] := by
  induction k with
  | zero => rfl
  | succ k ih => rw [List.range_succ, List.flatMap_append, ih (fun i hi => h i (by omega)), List.flatMap_cons, h k (by omega)]; rfl

theorem leafK_down (r g1 g0 : Int) (a b c : Nat) (ha : a < 512) (hb : b < 512) (hc : c < 512) (hr : 0 ≤ r ∧ r < n) (h1 : nx n L r a = some g1) (h0 : nx n L g1 b = some g0) : leafK n L r a b c = dl0 n L g0 ((a : Int) * 512 + b) c := by
  have hp : placeOf n L r (joinOf a b c) = some g0 := by rw [place_join n L r a b c ha hb hc hr, h1]; exact h0
  have hF : lookF n L r (joinOf a b c) = flagOf (wordI n L g0 c) := by unfold lookF; rw [hp]; show flagOf (wordI n L g0 (indexOf (joinOf a b c) 0)) = _; rw [(index_join a b c ha hb hc).2.2]
  have hP : lookP n L r (joinOf a b c) = ppnOf (wordI n L g0 c) := by unfold lookP; rw [hp]; show ppnOf (wordI n L g0 (indexOf (joinOf a b c) 0)) = _; rw [(index_join a b c ha hb hc).2.2]
  have hj : joinOf a b c = ((a : Int) * 512 + b) * 512 + c := by unfold joinOf; omega
  unfold leafK dl0
  rw [hF, hP, hj]
theorem rowJ_down (r g1 : Int) (a b : Nat) (ha : a < 512) (hb : b < 512) (hr : 0 ≤ r ∧ r < n) (h1 : nx n L r a = some g1) : rowJ n L r a b = dl1 n L g1 a b := by
  have hp : placeOf n L r (joinOf a b 0) = nx n L g1 b := by
    have := place_join n L r a b 0 ha hb (by omega) hr
    rw [h1] at this
    exact this
  unfold rowJ dl1 hasPlace
  rw [hp]
  cases h0 : nx n L g1 b with
  | none => rw [if_neg (by simp)]
  | some g0 =>
    rw [if_pos (show (some g0).isSome = true from rfl)]
    exact flatMap_range_congr 512 _ _ fun c hc => leafK_down n L r g1 g0 a b c ha hb hc hr h1 h0
theorem rowI_down (r : Int) (a : Nat) (ha : a < 512) (hr : 0 ≤ r ∧ r < n) : rowI n L r a = dl2 n L r a := by
  have hw : (wordV n L r a).2 = true := by unfold wordV; rw [if_pos ⟨hr, by omega⟩]
  have hT : isTable n L r a = (nx n L r a).isSome := by
    unfold isTable nx
    rw [hw, Bool.true_and]
    split
    · rename_i h; simp [h]
    · rename_i h
      by_cases hk : kindOf (flagOf (wordI n L r a)) = 1
      · have : ¬ (0 ≤ ppnOf (wordI n L r a) ∧ ppnOf (wordI n L r a) < n) := fun q => h ⟨hk, q⟩
        simp [this]
      · simp [hk]
  have hp : placeOf n L r (joinOf a 0 0) = (nx n L r a).bind fun f => nx n L f 0 := place_join n L r a 0 0 ha (by omega) (by omega) hr
  unfold rowI dl2 hasPlace
  rw [hp, hT]
  cases h1 : nx n L r a with
  | none => rw [if_neg (by simp)]
  | some g1 =>
    rw [if_pos (.inr rfl)]
    exact flatMap_range_congr 512 _ _ fun b hb => rowJ_down n L r g1 a b ha hb hr h1
/-- The document's list of all leaves, table by table. -/
theorem listA_down (r : Int) (hr : 0 ≤ r ∧ r < n) : listA n L r 512 = (List.range 512).flatMap (dl2 n L r) :=
  flatMap_range_congr 512 _ _ fun a ha => rowI_down n L r a ha hr
theorem listA_none (r : Int) (hr : ¬ (0 ≤ r ∧ r < n)) : listA n L r 512 = [] := by
  refine flatMap_range_nil 512 _ fun a ha => ?_
  have hw : (wordV n L r a).2 = false := by unfold wordV; rw [if_neg (fun q => hr q.1)]
  have hT : isTable n L r a = false := by unfold isTable; rw [hw]; rfl
  have hp : placeOf n L r (joinOf a 0 0) = none := by unfold placeOf; rw [if_neg (fun q => hr q.1)]
  unfold rowI hasPlace
  rw [hT, hp, if_neg (by simp)]
end
end Go.Proofs.Ytomkhdefjfjlnaa
