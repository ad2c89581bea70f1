/- The law on as many items as may stand, walked: it answers true, and nothing that was there has turned. -/
import Derived.Test.YtnjpdcoahojgbaaRFronts
namespace Go.Proofs.Ytnjpdcoahojgbaa.RInt
open Go.ChangeShapes Go.WideShapes Go.ChangeAt Go.RowKit
set_option linter.unusedVariables false

theorem flat_modify {S : List (List Int)} {r : Nat} (hr : r < S.length) (x : Int) : (S.modify r (· ++ [x])).flatten.length = S.flatten.length + 1 ∧ ∀ y, y ∈ (S.modify r (· ++ [x])).flatten ↔ y ∈ S.flatten ∨ y = x := by
  obtain ⟨S1, S2, e, h1⟩ := at_split (S := S) (r := r) (List.getElem?_eq_getElem hr)
  generalize S[r] = l at e
  subst e h1
  rw [modify_mid]
  constructor
  · simp; omega
  · intro y
    simp only [List.flatten_append, List.flatten_cons, List.mem_append, List.mem_cons, List.not_mem_nil, or_false]
    grind

/-- After i items, each in the row that its number says. -/
def filled : Nat → List (List Int)
  | 0 => List.replicate 4 []
  | i + 1 => (filled i).modify (i % 4) (· ++ [(i : Int)])

theorem filled_len : ∀ i, (filled i).length = 4
  | 0 => rfl
  | i + 1 => by unfold filled; rw [List.length_modify, filled_len i]

theorem filled_is : ∀ i, (filled i).flatten.length = i ∧ ∀ y : Int, y ∈ (filled i).flatten ↔ 0 ≤ y ∧ y < i
  | 0 => ⟨rfl, fun y => ⟨fun h => by simp [filled] at h, fun h => by omega⟩⟩
  | i + 1 => by
    have ih := filled_is i
    have := flat_modify (S := filled i) (r := i % 4) (by rw [filled_len]; omega) (i : Int)
    unfold filled
    refine ⟨by rw [this.1, ih.1], fun y => ?_⟩
    rw [this.2 y, ih.2 y]
    omega

theorem filled_step (i : Nat) (h : i < 4096) : fits ((i : Int) % 4) (i : Int) (filled i) ∧ pushS ((i : Int) % 4) (i : Int) (filled i) = filled (i + 1) := by
  have ih := filled_is i
  have hf : fits ((i : Int) % 4) (i : Int) (filled i) := ⟨by omega, by rw [filled_len]; omega, .inr (by rw [ih.1]; omega)⟩
  refine ⟨hf, ?_⟩
  unfold pushS
  rw [if_pos hf, rmv_absent (fun hm => by have := (ih.2 _).1 hm; omega)]
  rw [show ((i : Int) % 4).toNat = i % 4 by omega]
  rfl

theorem rmv_count {S : List (List Int)} (hn : S.flatten.Nodup) {x : Int} (hx : x ∈ S.flatten) : (rmv x S).flatten.length + 1 = S.flatten.length := by
  rw [rmv_flat]
  obtain ⟨l1, l2, e⟩ := List.append_of_mem hx
  rw [e] at hn ⊢
  rw [filter_one hn]
  simp
  omega

theorem rmv_mem {S : List (List Int)} {x y : Int} : y ∈ (rmv x S).flatten ↔ y ∈ S.flatten ∧ y ≠ x := by
  rw [rmv_flat, List.mem_filter]
  simp only [decide_eq_true_eq]

/-- An item that stands already moves to a row's end. -/
theorem push_old {S : List (List Int)} (hn : S.flatten.Nodup) {r : Nat} (hr : r < S.length) {x : Int} (hx : x ∈ S.flatten) :
    fits (r : Int) x S ∧ (pushS (r : Int) x S).length = S.length ∧ (pushS (r : Int) x S).flatten.length = S.flatten.length ∧ ∀ y, y ∈ (pushS (r : Int) x S).flatten ↔ y ∈ S.flatten := by
  have hf : fits (r : Int) x S := ⟨by omega, by omega, .inl hx⟩
  have e : pushS (r : Int) x S = (rmv x S).modify r (· ++ [x]) := by unfold pushS; rw [if_pos hf, Int.toNat_natCast]
  have h1 := flat_modify (S := rmv x S) (r := r) (by rw [rmv_length]; exact hr) x
  have h2 := rmv_count hn hx
  refine ⟨hf, by rw [e, List.length_modify, rmv_length], by rw [e, h1.1]; omega, fun y => ?_⟩
  rw [e, h1.2, rmv_mem]
  constructor
  · rintro (⟨h, _⟩ | rfl)
    · exact h
    · exact hx
  · intro h
    by_cases e : y = x
    · exact .inr e
    · exact .inl ⟨h, e⟩

/-- A new one comes. -/
theorem push_fresh {S : List (List Int)} {r : Nat} (hr : r < S.length) {x : Int} (hx : x ∉ S.flatten) (hlt : S.flatten.length < 4096) :
    fits (r : Int) x S ∧ (pushS (r : Int) x S).length = S.length ∧ (pushS (r : Int) x S).flatten.length = S.flatten.length + 1 ∧ ∀ y, y ∈ (pushS (r : Int) x S).flatten ↔ y ∈ S.flatten ∨ y = x := by
  have hf : fits (r : Int) x S := ⟨by omega, by omega, .inr hlt⟩
  have e : pushS (r : Int) x S = S.modify r (· ++ [x]) := by unfold pushS; rw [if_pos hf, Int.toNat_natCast, rmv_absent hx]
  have h1 := flat_modify hr x
  exact ⟨hf, by rw [e, List.length_modify], by rw [e, h1.1], fun y => by rw [e, h1.2]⟩

/-- No room. -/
theorem push_full {S : List (List Int)} (r : Int) {x : Int} (hx : x ∉ S.flatten) (hlt : ¬ S.flatten.length < 4096) : ¬ fits r x S := fun h => by
  rcases h.2.2 with q | q
  · exact hx q
  · exact hlt q

theorem four_rows {S : List (List Int)} (h : S.length = 4) : (rowS 0 S).length + (rowS 1 S).length + (rowS 2 S).length + (rowS 3 S).length = S.flatten.length ∧ ∀ r, (rowS r S).length ≤ S.flatten.length := by
  obtain ⟨a, b, c, d, rfl⟩ : ∃ a b c d, S = [a, b, c, d] := by
    match S, h with
    | [a, b, c, d], _ => exact ⟨a, b, c, d, rfl⟩
  constructor
  · simp [rowS]; omega
  · intro r
    unfold rowS
    by_cases h0 : 0 ≤ r
    · rw [if_pos h0]
      rcases hq : r.toNat with _ | _ | _ | _ | q <;> simp <;> omega
    · simp [h0]

def room : Nat := 4096
theorem room_is : room = 4096 := rfl

theorem full_walk (w : World) (n : Int) (hn : (Lit.int .u64 n).wf = true) :
    Calls Try.prog 6 #[.int .u64 n] w fun e w' => e = .returned (.bool true) ∧ Below w.heap.size w w' := by
  obtain ⟨k, hk, ek⟩ := rem_nat hn 4096 (by omega) (by omega)
  have EK := Lib.hid ek
  clear ek hn
  go_enter Try.func6, Try.ntmps6
  go_wp2_with fail
  refine (Live.start (w0 := w) 4 (by omega) (by omega)).mono ?_
  rintro e w1 ⟨b, rfl, h1⟩
  have H1 := Lib.hid h1
  clear h1
  go_wp2_with fail
  go_loopw [4] (fun i wr => ∃ j : Nat, j ≤ room ∧ i = .int .i64 j ∧ Hid (Live w wr b (filled j))) (fun i _ => room - (intOf i).toNat)
  case atStart => exact ⟨0, Nat.zero_le _, rfl, H1⟩
  case round =>
    obtain ⟨j, hj, rfl, HL⟩ := hrel
    have hj2 : (j : Int) ≤ 4096 := by have := room_is; omega
    clear hj
    by_cases hlt : (j : Int) < 4096
    · go_wp2_with fail
      refine ((HL.out.push ((j : Int) % 4) (x := (j : Int)) (ok_of (by omega))).mono ?_)
      obtain ⟨f1, f2⟩ := filled_step j (by omega)
      rw [decide_eq_true f1, f2]
      clear f1 f2
      rintro e w2 ⟨rfl, h2⟩
      have H2 := Lib.hid h2
      clear h2
      go_wp2
      go_roundw
      case rel => exact ⟨j + 1, by have := room_is; omega, by go_num, H2⟩
      case measure => simp [intOf]; have := room_is; omega
    · have HLEN := Lib.hid (filled_len j)
      have HALL := Lib.hid (filled_is j)
      generalize filled j = S at *
      have hj3 : j = 4096 := by omega
      rw [hj3] at HALL
      clear hj2 hlt
      go_wp2_with fail
      have ek : wrap64 (n.tmod 4096) = (k : Int) := EK.out
      simp only [ek]
      clear ek
      -- Push(0, 4096): there is no room
      have hno : (4096 : Int) ∉ S.flatten := fun hm => by have := (HALL.out.2 _).1 hm; omega
      have hnf := push_full 0 hno (by rw [HALL.out.1]; omega)
      refine ((HL.out.push 0 (x := (4096 : Int)) (ok_of (by omega))).mono ?_)
      unfold pushS
      rw [decide_eq_false hnf, if_neg hnf]
      clear hno hnf HL
      rintro e w2 ⟨rfl, h2⟩
      have H2 := Lib.hid h2
      clear h2
      go_wp2_with fail
      have hno : (-1 : Int) ∉ S.flatten := fun hm => by have := (HALL.out.2 _).1 hm; omega
      have hnf := push_full 1 hno (by rw [HALL.out.1]; omega)
      refine ((H2.out.front 1 (x := (-1 : Int)) (ok_of (by omega))).mono ?_)
      unfold frontS
      rw [decide_eq_false hnf, if_neg hnf]
      clear hno hnf H2
      rintro e w3 ⟨rfl, h3⟩
      have H3 := Lib.hid h3
      clear h3
      go_wp2_with fail
      obtain ⟨f1, f2, f3, f4⟩ := push_old H3.out.nodup (r := 2) (by rw [HLEN.out]; omega) (x := (k : Int)) ((HALL.out.2 _).2 (by omega))
      refine ((H3.out.push 2 (x := (k : Int)) (ok_of (by omega))).mono ?_)
      rw [show ((2 : Int)) = ((2 : Nat) : Int) from rfl, decide_eq_true f1]
      have F2 := Lib.hid (f2.trans HLEN.out)
      have F3 := Lib.hid (f3.trans HALL.out.1)
      have F4 := Lib.hid (fun y => (f4 y).trans (HALL.out.2 y))
      clear f1 f2 f3 f4 H3
      generalize pushS ((2 : Nat) : Int) (k : Int) S = S2 at *
      rintro e w4 ⟨rfl, h4⟩
      have H4 := Lib.hid h4
      clear h4
      go_wp2_with fail
      have hin : (k : Int) ∈ S2.flatten := (F4.out _).2 (by omega)
      refine ((H4.out.remove (x := (k : Int)) (ok_of (by omega))).mono ?_)
      rw [decide_eq_true hin]
      have G3 := Lib.hid (rmv_count H4.out.nodup hin)
      have G2 := Lib.hid ((rmv_length (k : Int) S2).trans F2.out)
      have G4 := Lib.hid (fun y => (rmv_mem (S := S2) (x := (k : Int)) (y := y)))
      clear hin H4
      generalize rmv (k : Int) S2 = S3 at *
      rintro e w5 ⟨rfl, h5⟩
      have H5 := Lib.hid h5
      clear h5
      go_wp2_with fail
      have hno : (9999 : Int) ∉ S3.flatten := fun hm => by have := (F4.out _).1 ((G4.out _).1 hm).1; omega
      obtain ⟨f1, f2, f3, f4⟩ := push_fresh (r := 3) (by rw [G2.out]; omega) hno (by have := G3.out; have := F3.out; omega)
      refine ((H5.out.push 3 (x := (9999 : Int)) (ok_of (by omega))).mono ?_)
      rw [show ((3 : Int)) = ((3 : Nat) : Int) from rfl, decide_eq_true f1]
      have K2 := Lib.hid (f2.trans G2.out)
      have K3 := Lib.hid (show (pushS ((3 : Nat) : Int) 9999 S3).flatten.length = 4096 by have := G3.out; have := F3.out; omega)
      have K4 := Lib.hid (show (k : Int) ∉ (pushS ((3 : Nat) : Int) 9999 S3).flatten by
        intro hm
        rcases (f4 _).1 hm with q | q
        · exact ((G4.out _).1 q).2 rfl
        · omega)
      clear f1 f2 f3 f4 hno H5
      generalize pushS ((3 : Nat) : Int) 9999 S3 = S4 at *
      rintro e w6 ⟨rfl, h6⟩
      have H6 := Lib.hid h6
      clear h6
      go_wp2_with fail
      have hnf := push_full 3 K4.out (by rw [K3.out]; omega)
      refine ((H6.out.push 3 (x := (k : Int)) (ok_of (by omega))).mono ?_)
      unfold pushS
      rw [decide_eq_false hnf, if_neg hnf]
      clear hnf H6
      rintro e w7 ⟨rfl, h7⟩
      have H7 := Lib.hid h7
      clear h7
      have hf := four_rows K2.out
      rw [K3.out] at hf
      have HB := hf.2
      have b0 := HB 0
      have b1 := HB 1
      have b2 := HB 2
      have b3 := HB 3
      have hs := hf.1
      clear hf HB
      generalize ha0 : (rowS 0 S4).length = a0 at *
      generalize ha1 : (rowS 1 S4).length = a1 at *
      generalize ha2 : (rowS 2 S4).length = a2 at *
      generalize ha3 : (rowS 3 S4).length = a3 at *
      have A0 := Lib.hid ha0
      have A1 := Lib.hid ha1
      have A2 := Lib.hid ha2
      have A3 := Lib.hid ha3
      have HS := Lib.hid hs
      clear ha0 ha1 ha2 ha3 hs
      go_wp2_with fail
      refine ((H7.out.len 0).mono ?_)
      rw [A0.out]
      rintro e w8 ⟨rfl, rfl⟩
      go_wp2_with fail
      refine ((H7.out.len 1).mono ?_)
      rw [A1.out]
      rintro e w8 ⟨rfl, rfl⟩
      go_wp2_with fail
      refine ((H7.out.len 2).mono ?_)
      rw [A2.out]
      rintro e w8 ⟨rfl, rfl⟩
      go_wp2_with fail
      refine ((H7.out.len 3).mono ?_)
      rw [A3.out]
      rintro e w8 ⟨rfl, rfl⟩
      have hq : (((a0 : Int) + (a1 : Int) + (a2 : Int) + (a3 : Int)) == 4096) = true := by
        have := HS.out
        simp
        omega
      go_wp2_with fail
      refine ((lives_ok _).mono ?_)
      rintro e w9 ⟨rfl, hb⟩
      have HB := Lib.hid hb
      clear hb
      go_wp2
      go_ret
      exact ⟨rfl, H7.out.below.trans (HB.out.mono H7.out.below.size)⟩
end Go.Proofs.Ytnjpdcoahojgbaa.RInt
