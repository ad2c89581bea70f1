/- Rows beside a loop over an iterator: what the loop's own records ask of calls in its body. -/
import Derived.Test.YtnjpdcoahojgbaaRSieve
namespace Go.Proofs.Ytnjpdcoahojgbaa.RInt
open Go.ChangeShapes Go.WideShapes Go.ChangeAt Go.RowKit
set_option linter.unusedVariables false

/-- Blocks of the rows from B on are cells. -/
theorem Is.fromB {w w' : World} {b B : Nat} {S : List (List Int)} {O : List Nat} (h : Is w b S O) (hM : ∀ m, O[2]? = some m → m < B) (hk : Kept O w w') : KeepsFrom B w w' := by
  obtain ⟨F, L, M, cap, T, hA, rfl, rfl⟩ := h
  refine ⟨hk.size, fun k o hB ho hc => ?_⟩
  have hlt : k < w.heap.size := (Array.getElem?_eq_some_iff.1 ho).1
  by_cases hm : k ∈ own b L M T
  · exfalso
    rcases hA.cellBlock hm with rfl | ⟨y, v, hv⟩
    · have := hM k rfl
      omega
    · obtain ⟨cs, ty, hz⟩ := hA.holds.zero _ _ _ hv
      rw [ho] at hz
      cases hz
      cases hc
  · exact (hk.block k hlt hm).trans ho

/-- Rows that were made since w0 and ahead of B. -/
def LiveB (w0 w : World) (b : Nat) (S : List (List Int)) (R : List Nat) (B : Nat) : Prop :=
  ∃ O, Is w b S O ∧ (∀ g, g ∈ O → w0.heap.size ≤ g) ∧ Below w0.heap.size w0 w ∧ (∀ g, g ∈ R → w0.heap.size ≤ g ∧ g < w.heap.size ∧ g ∉ O) ∧ ∀ m, O[2]? = some m → m < B

section
variable {w0 w : World} {b B : Nat} {S : List (List Int)} {R : List Nat}

theorem LiveR.toB (h : LiveR w0 w b S R) (hB : w.heap.size ≤ B) : LiveB w0 w b S R B := by
  obtain ⟨O, hI, hO, hb, hR⟩ := h
  exact ⟨O, hI, hO, hb, hR, fun m hm => Nat.lt_of_lt_of_le (hI.lt (List.mem_of_getElem? hm)) hB⟩

theorem LiveB.toR (h : LiveB w0 w b S R B) : LiveR w0 w b S R := by
  obtain ⟨O, hI, hO, hb, hR, hM⟩ := h
  exact ⟨O, hI, hO, hb, hR⟩

theorem LiveB.now {O : List Nat} {S' : List (List Int)} {v : Value} {e : Ending} {w' : World} (hI : Is w b S O) (hO : ∀ g, g ∈ O → w0.heap.size ≤ g) (hb : Below w0.heap.size w0 w) (hR : ∀ g, g ∈ R → w0.heap.size ≤ g ∧ g < w.heap.size ∧ g ∉ O) (hM : ∀ m, O[2]? = some m → m < B) (h : Now w b O S' v e w') :
    e = .returned v ∧ LiveB w0 w' b S' R B ∧ Stay R w w' ∧ KeepsFrom B w w' := by
  obtain ⟨he, ⟨O1, h1, h2, h3, h4⟩, h5⟩ := LiveR.now hO hb hR h
  obtain ⟨he, O', hI', hK, hO', hm⟩ := h
  refine ⟨he, ⟨O', hI', fun g hg => ?_, h3, fun g hg => ⟨(hR g hg).1, Nat.lt_of_lt_of_le (hR g hg).2.1 hK.size, fun hg2 => ?_⟩, fun m hmm => hM m (hm ▸ hmm)⟩, h5, hI.fromB hM hK⟩
  · rcases hO' g hg with q | q
    · exact hO g q
    · exact Nat.le_trans hb.size q
  · rcases hO' g hg2 with q | q
    · exact (hR g hg).2.2 q
    · have := (hR g hg).2.1; omega

theorem LiveB.push (h : LiveB w0 w b S R B) (r : Int) {x : Int} (hx : okK x) :
    Calls Try.prog 13 #[.pointer (some ⟨b, 0, none⟩), .int .i64 r, .int .i64 x] w fun e w' => e = .returned (.bool (decide (fits r x S))) ∧ LiveB w0 w' b (pushS r x S) R B ∧ Stay R w w' ∧ KeepsFrom B w w' := by
  obtain ⟨O, hI, hO, hb, hR, hM⟩ := h
  exact (push_any hI r hx).mono fun e w' hn => LiveB.now hI hO hb hR hM hn
theorem LiveB.remove (h : LiveB w0 w b S R B) {x : Int} (hx : okK x) :
    Calls Try.prog 19 #[.pointer (some ⟨b, 0, none⟩), .int .i64 x] w fun e w' => e = .returned (.bool (decide (x ∈ S.flatten))) ∧ LiveB w0 w' b (rmv x S) R B ∧ Stay R w w' ∧ KeepsFrom B w w' := by
  obtain ⟨O, hI, hO, hb, hR, hM⟩ := h
  exact (remove_any hI hx).mono fun e w' hn => LiveB.now hI hO hb hR hM hn

theorem LiveB.own {w' : World} {R' : List Nat} (h : LiveB w0 w b S R B) (hk : Kept R w w') (hR' : ∀ g, g ∈ R' → g ∈ R ∨ (w.heap.size ≤ g ∧ g < w'.heap.size)) : LiveB w0 w' b S R' B := by
  obtain ⟨O, hI, hO, hb, hR, hM⟩ := h
  refine ⟨O, hI.past hk fun g hg hg2 => (hR g hg2).2.2 hg, hO, hb.trans (hk.below _ hb.size fun g hg => (hR g hg).1), fun g hg => ?_, hM⟩
  rcases hR' g hg with q | q
  · exact ⟨(hR g q).1, Nat.lt_of_lt_of_le (hR g q).2.1 hk.size, (hR g q).2.2⟩
  · refine ⟨Nat.le_trans hb.size q.1, q.2, fun hg2 => ?_⟩
    have := hI.lt hg2
    omega

theorem LiveB.below (h : LiveB w0 w b S R B) : Below w0.heap.size w0 w := h.toR.below
theorem LiveB.lt (h : LiveB w0 w b S R B) {g : Nat} (hg : g ∈ R) : g < w.heap.size := h.toR.lt hg

theorem LiveB.past {w' : World} (h : LiveB w0 w b S R B) (hb : Below w.heap.size w w') : LiveB w0 w' b S R B := h.own (Kept.of_below hb) fun g hg => .inl hg

/-- It abides the turn of a block from B on that is no cells. -/
theorem liveB_abides {w' : World} {row : Option Nat} (h : LiveB w0 w b S R B) (hB : w0.heap.size ≤ B) (hg : w.grownBy w' row) (hr : ∀ r, row = some r → B ≤ r ∧ ∃ o : Obj, w.heap[r]? = some o ∧ o.isCells = false) : LiveB w0 w' b S R B := by
  obtain ⟨O, hI, hO, hb, hR, hM⟩ := h
  have hno : ∀ g, g ∈ O → row ≠ some g := by
    intro g hg2 e
    obtain ⟨h1, o, ho, hc⟩ := hr g e
    obtain ⟨F, L, M, cap, T, hA, rfl, rfl⟩ := hI
    rcases hA.cellBlock hg2 with rfl | ⟨y, v, hv⟩
    · have := hM g rfl
      omega
    · obtain ⟨cs, ty, hz⟩ := hA.holds.zero _ _ _ hv
      rw [ho] at hz
      cases hz
      cases hc
  have hI' : Is w' b S O := by
    obtain ⟨F, L, M, cap, T, hA, rfl, rfl⟩ := hI
    exact ⟨_, L, M, cap, T, hA.kept fun g hg2 => hg.block g (hA.lt hg2) (fun e => hno g hg2 e.symm), rfl, rfl⟩
  refine ⟨O, hI', hO, hb.grown hg hb.size (fun k e => Nat.le_trans hB (hr k e).1), fun g hg2 => ⟨(hR g hg2).1, Nat.lt_of_lt_of_le (hR g hg2).2.1 hg.size, (hR g hg2).2.2⟩, hM⟩
end

/-- All, at rows of one's own. -/
theorem LiveR.all {w0 w : World} {b : Nat} {S : List (List Int)} {R : List Nat} (h : LiveR w0 w b S R) (r : Int) : Calls Try.prog 32 #[.pointer (some ⟨b, 0, none⟩), .int .i64 r] w (Told w (rowS r S)) := by
  obtain ⟨O, hI, hO, hB, hR⟩ := h
  exact tells_is hI r

/-! ### the two rows of the law -/
theorem fits_two {A B : List Int} {r x : Int} (h0 : 0 ≤ r) (h1 : r < 2) (hl : A.length + B.length < 4096) : fits r x [A, B] := ⟨h0, by simpa using h1, .inr (by simp; omega)⟩

theorem push_first {W : List Int} {n : Int} (hl : W.length < 4096) : pushS 0 n [W, []] = [sieve n W ++ [n], []] := by
  unfold pushS
  rw [if_pos (fits_two (by omega) (by omega) (by simpa using hl))]
  rfl

theorem push_second {A B : List Int} {n : Int} (hl : A.length + B.length < 4096) : pushS 1 n [A, B] = [sieve n A, sieve n B ++ [n]] := by
  unfold pushS
  rw [if_pos (fits_two (by omega) (by omega) hl)]
  rfl

theorem rmv_two (A B : List Int) (m : Int) : rmv m [A, B] = [sieve m A, sieve m B] := rfl

theorem mem_sieve {n y : Int} {W : List Int} : y ∈ sieve n W ↔ y ∈ W ∧ y ≠ n := by unfold sieve; simp

theorem turn_two (x : Int) (l B : List Int) : turnS 0 [x :: l, B] = [l ++ [x], B] := rfl

theorem rot_step {W : List Int} {t : Nat} (h : t < W.length) : ∃ x l, W.drop t ++ W.take t = x :: l ∧ l ++ [x] = W.drop (t + 1) ++ W.take (t + 1) := by
  refine ⟨W[t], W.drop (t + 1) ++ W.take t, ?_, ?_⟩
  · rw [List.drop_eq_getElem_cons h]
    rfl
  · rw [List.append_assoc, List.take_succ_eq_append_getElem h]
end Go.Proofs.Ytnjpdcoahojgbaa.RInt
