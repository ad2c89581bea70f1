/- Rows of numbers that a law has made for itself: what each call makes of them. -/
import Derived.Test.YtnjpdcoahojgbaaROps2
import Derived.Test.YtnjpdcoahojgbaaRLives
namespace Go.Proofs.Ytnjpdcoahojgbaa.RInt
open Go.ChangeShapes Go.WideShapes Go.ChangeAt Go.RowKit
set_option linter.unusedVariables false

theorem ok_of {x : Int} (h : -9223372036854775808 ≤ x ∧ x ≤ 9223372036854775807) : okK x := by
  unfold okK
  exact WalkArith.wf_i64 h

theorem ok_bound {x : Int} (h : okK x) : -9223372036854775808 ≤ x ∧ x ≤ 9223372036854775807 := by
  unfold okK at h
  simp [Lit.wf, IntKind.min, IntKind.max, IntKind.signed, IntKind.bits] at h
  omega

section
variable {w0 w : World} {b : Nat} {S : List (List K)}

theorem Live.front (h : Live w0 w b S) (r : Int) {x : K} (hx : okK x) :
    Calls Try.prog 15 #[.pointer (some ⟨b, 0, none⟩), .int .i64 r, .int .i64 x] w fun e w' => e = .returned (.bool (decide (fits r x S))) ∧ Live w0 w' b (frontS r x S) := by
  obtain ⟨O, hI, hO, hB⟩ := h
  exact (front_any hI r hx).mono fun e w' hn => Live.now hO hB hn

theorem Live.shift (h : Live w0 w b S) (r : Int) :
    Calls Try.prog 17 #[.pointer (some ⟨b, 0, none⟩), .int .i64 r] w fun e w' => e = .returned (firstV (rowS r S)) ∧ Live w0 w' b (shiftS r S) := by
  obtain ⟨O, hI, hO, hB⟩ := h
  exact (shift_any hI r).mono fun e w' hn => Live.now hO hB hn

theorem Live.turn (h : Live w0 w b S) (r : Int) :
    Calls Try.prog 21 #[.pointer (some ⟨b, 0, none⟩), .int .i64 r] w fun e w' => e = .returned (.bool (!(rowS r S).isEmpty)) ∧ Live w0 w' b (turnS r S) := by
  obtain ⟨O, hI, hO, hB⟩ := h
  exact (turn_any hI r).mono fun e w' hn => Live.now hO hB hn

theorem Live.remove (h : Live w0 w b S) {x : K} (hx : okK x) :
    Calls Try.prog 19 #[.pointer (some ⟨b, 0, none⟩), .int .i64 x] w fun e w' => e = .returned (.bool (decide (x ∈ S.flatten))) ∧ Live w0 w' b (rmv x S) := by
  obtain ⟨O, hI, hO, hB⟩ := h
  exact (remove_any hI hx).mono fun e w' hn => Live.now hO hB hn

theorem Live.alloc (h : Live w0 w b S) (o : Obj) : Live w0 (w.alloc o) b S := by
  obtain ⟨O, hI, hO, hB⟩ := h
  exact ⟨O, hI.below ((Below.refl _ _).alloc (Nat.le_refl _) _), hO, hB.alloc hB.size _⟩

theorem Live.past (h : Live w0 w b S) {w' : World} (hb : Below w.heap.size w w') : Live w0 w' b S := by
  obtain ⟨O, hI, hO, hB⟩ := h
  exact ⟨O, hI.below hb, hO, hB.trans (hb.mono hB.size)⟩

theorem Live.nodup (h : Live w0 w b S) : S.flatten.Nodup := by
  obtain ⟨O, hI, hO, hB⟩ := h
  exact hI.nodup
end

/-- RingFronts' row, the i first of which have left, after t turns. -/
def turned (m t i : Nat) : List Int := (List.range' i (m - i)).map fun (j : Nat) => (m : Int) - 1 - (((t + j) % m : Nat) : Int)

def fronted (i : Nat) : List Int := (List.range i).map fun (j : Nat) => (i : Int) - 1 - (j : Int)

theorem fronted_succ (i : Nat) : (i : Int) :: fronted i = fronted (i + 1) := by
  unfold fronted
  rw [List.range_succ_eq_map, List.map_cons, List.map_map]
  congr 1
  · simp
  · refine List.map_congr_left fun j hj => ?_
    simp
    omega

theorem mem_fronted {i : Nat} {x : Int} (h : x ∈ fronted i) : 0 ≤ x ∧ x < i := by
  unfold fronted at h
  obtain ⟨j, hj, rfl⟩ := List.mem_map.1 h
  have := List.mem_range.1 hj
  omega

theorem fronted_length (i : Nat) : (fronted i).length = i := by simp [fronted]

theorem front_step (i : Nat) (h : i < 50) : fits 0 (i : Int) [fronted i] ∧ frontS 0 (i : Int) [fronted i] = [fronted (i + 1)] := by
  have hno : (i : Int) ∉ [fronted i].flatten := by
    intro hm
    simp at hm
    have := mem_fronted hm
    omega
  have hf : fits 0 (i : Int) [fronted i] := ⟨by omega, by simp, .inr (by simp [fronted_length]; omega)⟩
  refine ⟨hf, ?_⟩
  unfold frontS
  rw [if_pos hf, rmv_absent hno]
  simp [fronted_succ]

theorem turned_start (m : Nat) : fronted m = turned m 0 0 := by
  unfold fronted turned
  rw [List.range_eq_range', Nat.sub_zero]
  refine List.map_congr_left fun j hj => ?_
  have := List.mem_range'_1.1 hj
  rw [Nat.zero_add, Nat.mod_eq_of_lt (by omega)]

theorem turned_cons (m t i : Nat) (h : i < m) : turned m t i = ((m : Int) - 1 - (((t + i) % m : Nat) : Int)) :: turned m t (i + 1) := by
  unfold turned
  rw [show m - i = (m - (i + 1)) + 1 by omega, List.range'_succ, List.map_cons]

theorem turned_turn (m t : Nat) (h : 0 < m) : turned m t 1 ++ [(m : Int) - 1 - (((t + 0) % m : Nat) : Int)] = turned m (t + 1) 0 := by
  unfold turned
  have e1 : (m : Int) - 1 - (((t + 0) % m : Nat) : Int) = (m : Int) - 1 - (((t + m) % m : Nat) : Int) := by simp
  rw [e1, Nat.sub_zero]
  have e2 : List.range' 0 m = (List.range' 0 (m - 1)) ++ [m - 1] := by
    conv => lhs; rw [show m = (m - 1) + 1 by omega]
    rw [List.range'_concat]
    simp
  rw [e2, List.map_append]
  congr 1
  · rw [show List.range' 1 (m - 1) = (List.range' 0 (m - 1)).map (fun x => 1 + x) by rw [List.map_add_range']]
    rw [List.map_map]
    refine List.map_congr_left fun j hj => ?_
    simp only [Function.comp]
    rw [show t + (1 + j) = t + 1 + j by omega]
  · simp only [List.map_cons, List.map_nil]
    rw [show t + 1 + (m - 1) = t + m by omega]

theorem row_one (l : List Int) : rowS 0 [l] = l := by simp [rowS]
theorem turn_step (m t : Nat) : turnS 0 [turned m t 0] = [turned m (t + 1) 0] := by
  by_cases h : 0 < m
  · have := turnS_mid [] [] ((m : Int) - 1 - (((t + 0) % m : Nat) : Int)) (turned m t 1)
    rw [turned_cons m t 0 h]
    simp only [List.nil_append, List.length_nil, Int.ofNat_zero] at this
    exact this.trans (by rw [turned_turn m t h])
  · obtain rfl : m = 0 := by omega
    rfl
theorem turned_empty (m t : Nat) : (!(turned m t 0).isEmpty) = decide (0 < m) := by
  by_cases h : 0 < m
  · rw [turned_cons m t 0 h, decide_eq_true h]
    rfl
  · obtain rfl : m = 0 := by omega
    rfl
theorem shift_step (m t i : Nat) (h : i < m) : shiftS 0 [turned m t i] = [turned m t (i + 1)] := by
  rw [turned_cons m t i h]
  simp [shiftS]
end Go.Proofs.Ytnjpdcoahojgbaa.RInt
