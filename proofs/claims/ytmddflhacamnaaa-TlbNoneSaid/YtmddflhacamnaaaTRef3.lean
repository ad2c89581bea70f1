/- The document's layer 5: Flush, FlushAsid, FlushAll; facts on Put. -/
import Derived.Test.YtmddflhacamnaaaTRef2
namespace Go.Proofs.Ytmddflhacamnaaa
open Go.ChangeShapes Go.WideShapes Go.ChangeAt Go.RowKit
set_option linter.unusedVariables false

/-- A table behind a call. -/
def Left (w w' : World) (r : Nat) (sz : Int) (xs : List KeptV) : Prop := ∃ v', RT w' r sz xs v' ∧ Turn [r] w w' ∧ ∀ b, b ∈ RTO r v' → b = r ∨ w.heap.size ≤ b

theorem ref_flush_ok {w : World} {r : Nat} {sz : Int} {xs : List KeptV} {v : Value} (h : RT w r sz xs v) (a q : Int) :
    Calls Try.prog 14 #[.pointer (some ⟨r, 0, none⟩), .agg #[.int .i64 a, .int .i64 q]] w fun e w' => e = .returned (.bool (decide ((dropK (sameK a q) xs).length < xs.length))) ∧ Left w w' r sz (dropK (sameK a q) xs) := by
  have HD := Lib.hid (ref_drop_key (h.grow (World.grownBy_alloc w (.cells #[.int .i64 a, .int .i64 q] 34) none)) a q)
  obtain ⟨z0, z1⟩ := (TwoB.new w 34 (.int .i64 a) (.int .i64 q)).at
  clear h
  obtain ⟨N, hN⟩ : ∃ N, dropK (sameK a q) xs = N := ⟨_, rfl⟩
  rw [hN] at HD ⊢
  clear hN
  go_enter Try.func14, Try.ntmps14
  go_wp2_with fail
  refine HD.out.mono ?_
  rintro e w2 ⟨v', rfl, h2, g2, o2⟩
  have H2 := Lib.hid h2
  have G2 := Lib.hid ((Turn.grown (World.grownBy_alloc w (.cells #[.int .i64 a, .int .i64 q] 34) none)).trans' g2)
  have O2 := Lib.hid (show ∀ b, b ∈ RTO r v' → b = r ∨ w.heap.size ≤ b from fun b hb => (o2 b hb).imp_right fun h => by simp at h; omega)
  clear h2 g2 o2
  go_wp2_with fail
  go_ret
  exact ⟨rfl, v', H2.out, G2.out, O2.out⟩

theorem ref_flushAsid_ok {w : World} {r : Nat} {sz : Int} {xs : List KeptV} {v : Value} (h : RT w r sz xs v) (asid : Int) :
    Calls Try.prog 16 #[.pointer (some ⟨r, 0, none⟩), .int .i64 asid] w fun e w' => e = .returned (.int .i64 ((xs.length : Int) - ((dropK (fun x => x.a == asid) xs).length : Int))) ∧ Left w w' r sz (dropK (fun x => x.a == asid) xs) := by
  have HD := Lib.hid (ref_drop_asid h asid 0 0)
  clear h
  obtain ⟨N, hN⟩ : ∃ N, dropK (fun x => x.a == asid) xs = N := ⟨_, rfl⟩
  rw [hN] at HD ⊢
  clear hN
  go_enter Try.func16, Try.ntmps16
  go_wp2_with fail
  refine HD.out.mono ?_
  rintro e w2 ⟨v', rfl, h2⟩
  have H2 := Lib.hid h2
  clear h2
  go_wp2_with fail
  go_ret
  exact ⟨rfl, v', H2.out⟩

theorem ref_flushAll_ok {w : World} {r : Nat} {sz : Int} {xs : List KeptV} {v : Value} (h : RT w r sz xs v) :
    Calls Try.prog 18 #[.pointer (some ⟨r, 0, none⟩)] w fun e w' => e = .returned (.int .i64 (xs.length : Int)) ∧ Left w w' r sz [] := by
  have hd := ref_drop_all h 0 0 0
  have hN : dropK (fun _ => true) xs = [] := by simp [dropK]
  rw [hN] at hd
  rw [show ((xs.length : Int) - (([] : List KeptV).length : Int)) = (xs.length : Int) by simp] at hd
  have HD := Lib.hid hd
  clear h hd hN
  go_enter Try.func18, Try.ntmps18
  go_wp2_with fail
  refine HD.out.mono ?_
  rintro e w2 ⟨v', rfl, h2⟩
  have H2 := Lib.hid h2
  clear h2
  go_wp2_with fail
  go_ret
  exact ⟨rfl, v', H2.out⟩

theorem put_at {sz : Int} {xs : List KeptV} {y : KeptV} {j : Nat} {x : KeptV} (hx : xs[j]? = some x) (h : sameK y.a y.v x = true) (hb : ∀ i z, i < j → xs[i]? = some z → sameK y.a y.v z = false) : putL sz xs y = xs.set j y := by
  have hj := (List.getElem?_eq_some_iff.1 hx).1
  have hf : xs.findIdx? (sameK y.a y.v) = some j := by
    rw [List.findIdx?_eq_some_iff_getElem]
    refine ⟨hj, ?_, fun i hi => ?_⟩
    · rw [(List.getElem?_eq_some_iff.1 hx).2]; exact h
    · have := hb i (xs[i]'(by omega)) hi (List.getElem?_eq_getElem (by omega))
      simp [this]
  unfold putL
  rw [hf]
theorem put_new {sz : Int} {xs : List KeptV} {y : KeptV} (hb : ∀ i z, i < xs.length → xs[i]? = some z → sameK y.a y.v z = false) : putL sz xs y = if ((xs.length : Int) + 1) > sz then (xs ++ [y]).drop 1 else xs ++ [y] := by
  have hf : xs.findIdx? (sameK y.a y.v) = none := by
    rw [List.findIdx?_eq_none_iff]
    intro x hx
    obtain ⟨i, hi⟩ := List.getElem?_of_mem hx
    exact hb i x (List.getElem?_eq_some_iff.1 hi).1 hi
  unfold putL
  rw [hf]
theorem put_len {sz : Int} {xs : List KeptV} (y : KeptV) (h : (xs.length : Int) ≤ sz) : ((putL sz xs y).length : Int) ≤ sz := by
  unfold putL
  split
  · rw [List.length_set]; exact h
  · split
    · rw [List.length_drop, List.length_append, List.length_singleton]; omega
    · rw [List.length_append, List.length_singleton]; omega

theorem flat_set (xs : List KeptV) (i : Nat) (x y : KeptV) (hx : xs[i]? = some x) (ha : x.a = y.a) (hv : x.v = y.v) : (xs.set i y).flatMap keptCells = ((xs.flatMap keptCells).set (i * 4 + 2) (.int .i64 y.fl)).set (i * 4 + 3) (.int .i64 y.pp) := by
  induction xs generalizing i with
  | nil => simp at hx
  | cons z xs ih =>
    cases i with
    | zero =>
      simp only [List.getElem?_cons_zero, Option.some.injEq] at hx
      subst hx
      simp [keptCells, ha, hv]
    | succ i =>
      rw [List.getElem?_cons_succ] at hx
      rw [List.set_cons_succ, List.flatMap_cons, ih i hx, List.flatMap_cons]
      have e1 : (i + 1) * 4 + 2 = (keptCells z).length + (i * 4 + 2) := by simp [keptCells]; omega
      have e2 : (i + 1) * 4 + 3 = (keptCells z).length + (i * 4 + 3) := by simp [keptCells]; omega
      rw [e1, e2, List.set_append_right _ _ (by omega), List.set_append_right _ _ (by omega)]
      simp
/-- An entry of the row is turned. -/
theorem KOwn.set {w : World} {base g c : Nat} {xs : List KeptV} {i : Nat} {x y : KeptV} (h : KOwn w base (.slice (some ⟨g, 0, none⟩) xs.length c) xs) (hx : xs[i]? = some x) (ha : x.a = y.a) (hv : x.v = y.v) :
    KOwn ((w.setCell ⟨g, i * 4 + 2, none⟩ (.int .i64 y.fl)).setCell ⟨g, i * 4 + 3, none⟩ (.int .i64 y.pp)) base (.slice (some ⟨g, 0, none⟩) xs.length c) (xs.set i y) := by
  have hi := (List.getElem?_eq_some_iff.1 hx).1
  have hl := flat_len keptCells 4 kept_len (xs.set i y)
  rw [List.length_set] at hl
  rcases h.2 with ⟨_, h0⟩ | ⟨g', cap, cur, hsl, hb, hg, h1, h2, h3, ht⟩
  · omega
  · cases hsl
    have g1 := heap_setCell_same w g (i * 4 + 2) _ _ (.int .i64 y.fl) hg
    have g2 := heap_setCell_same _ g (i * 4 + 3) _ _ (.int .i64 y.pp) g1
    refine ⟨by rw [List.length_set]; exact hl, .inr ⟨g, c, _, by rw [List.length_set], hb, g2, by rw [List.length_set]; exact h1, h2, by simp [h3], ?_⟩⟩
    rw [flat_set xs i x y hx ha hv, ← ht, List.length_set]
    simp only [Array.toList_setIfInBounds, List.take_set]
theorem KOwn.frozen {w : World} {base g c k : Nat} {xs : List KeptV} (h : KOwn w base (.slice (some ⟨g, 0, none⟩) k c) xs) (j : Nat) : w.frozen? ⟨g, j, none⟩ = false := by
  rcases h.2 with ⟨h0, _⟩ | ⟨g', cap, cur, hsl, hb, hg, _⟩
  · cases h0
  · cases hsl
    exact frozen_of_row w g j _ _ hg
end Go.Proofs.Ytmddflhacamnaaa
