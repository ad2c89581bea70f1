/- The document's own memory of layer 1: words. -/
import Derived.Test.YtomkhdefjfjlnaaRefA

namespace Go.Proofs.Ytomkhdefjfjlnaa
open Go.ChangeShapes Go.WideShapes Go.ChangeAt Go.RowKit Go.Deep
open Extern.Stop (cell)
set_option linter.unusedVariables false

theorem splice_snoc {α : Type} {L xs : List α} {o : Nat} {y : α} (h : o + xs.length + 1 ≤ L.length) : splice (splice L o xs) (o + xs.length) [y] = splice L o (xs ++ [y]) := by
  apply List.ext_getElem?
  intro k
  rw [get_splice _ _ _ (by rw [length_splice _ _ _ (by omega)]; simp; omega), get_splice _ _ _ (by omega), get_splice _ _ _ (by simp; omega)]
  simp only [List.length_append, List.length_singleton]
  by_cases h1 : k < o
  · rw [if_pos (by omega), if_pos h1, if_pos h1]
  · rw [if_neg h1, if_neg h1]
    by_cases h2 : k < o + xs.length
    · rw [if_pos h2, if_pos h2, if_pos (by omega), List.getElem?_append_left (by omega)]
    · rw [if_neg h2, if_neg h2]
      by_cases h3 : k < o + xs.length + 1
      · rw [if_pos h3, if_pos (by omega), List.getElem?_append_right (by omega)]
        congr 1
        omega
      · rw [if_neg h3, if_neg (by omega)]

theorem splice_over {α : Type} {L : List α} {o : Nat} {y z : α} (h : o + 1 ≤ L.length) : splice (splice L o [y]) o [z] = splice L o [z] := by
  apply List.ext_getElem?
  intro k
  rw [get_splice _ _ _ (by rw [length_splice _ _ _ (by simp; omega)]; simp; omega), get_splice _ _ _ (by simp; omega), get_splice _ _ _ (by simp; omega)]
  simp only [List.length_singleton]
  by_cases h1 : k < o
  · rw [if_pos h1, if_pos h1, if_pos h1]
  · rw [if_neg h1, if_neg h1, if_neg h1]
    by_cases h2 : k < o + 1
    · rw [if_pos h2, if_pos h2]
    · rw [if_neg h2, if_neg h2, if_neg h2]

/-- The number of the bytes from q on. -/
def restv (xs : List UInt8) (q : Nat) : Int := (wordOf (xs.drop q) : Nat)
theorem restv_end (xs : List UInt8) (h : xs.length = 8) : restv xs 8 = 0 := by
  rw [restv, List.drop_of_length_le (by omega)]; rfl
theorem restv_zero (xs : List UInt8) : restv xs 0 = (wordOf xs : Nat) := by simp [restv]
theorem restv_step (xs : List UInt8) (t : Nat) (h : xs.length = 8) (ht : t < 8) : IntKind.u64.wrap (IntKind.u64.wrap (restv xs (t + 1) * 256) + ((xs.getD t 0).toNat : Int)) = restv xs t := by
  have hd : xs.drop t = xs.getD t 0 :: xs.drop (t + 1) := by
    rw [List.drop_eq_getElem_cons (by omega)]
    simp [List.getD, List.getElem?_eq_getElem (show t < xs.length by omega)]
  have e : wordOf (xs.drop t) = (xs.getD t 0).toNat + 256 * wordOf (xs.drop (t + 1)) := by rw [hd]; rfl
  have hlt := wordOf_lt (xs.drop t)
  have hl : (xs.drop t).length ≤ 8 := by simp; omega
  have hp : 256 ^ (xs.drop t).length ≤ 256 ^ 8 := Nat.pow_le_pow_right (by omega) hl
  have h64 : (256 : Nat) ^ 8 = 18446744073709551616 := by decide
  rw [h64] at hp
  unfold restv
  rw [e]
  rw [e] at hlt
  generalize (xs.getD t 0).toNat = x at *
  generalize wordOf (xs.drop (t + 1)) = y at *
  generalize 256 ^ (xs.drop t).length = P at *
  simp [IntKind.wrap, IntKind.signed, IntKind.bits]
  omega

section
variable {w0 w w' : World} {r f n : Nat} {R : List Nat} {L : List UInt8}

theorem rword_no (h : RS w0 w r f n R L) (i j : Int) (hij : ¬ ((0 ≤ i ∧ i < n) ∧ (0 ≤ j ∧ j < 512))) :
    Calls Try.prog 38 #[.pointer (some ⟨r, 0, none⟩), .int .i64 i, .int .i64 j] w fun e w' => e = .returned (.tuple #[.int .u64 0, .bool false]) ∧ w = w' := by
  have H := Lib.hid h
  clear h
  by_cases h1 : 0 ≤ i ∧ i < n
  · have HI := Lib.hid (is_any H.out i true (by simpa using h1))
    by_cases h2 : j < 0
    · clear hij h1
      go_enter Try.func38, Try.ntmps38
      go_wp2_with (go_at_call 36; refine (Calls.mono HI.out ?_); rintro e w' ⟨rfl, rfl⟩)
      go_ret2
      exact ⟨rfl, rfl⟩
    · have d0 : decide (j < 0) = false := by simpa using h2
      have h3 : 512 ≤ j := by omega
      clear hij h1
      go_enter Try.func38, Try.ntmps38
      go_wp2_with (go_at_call 36; refine (Calls.mono HI.out ?_); rintro e w' ⟨rfl, rfl⟩)
      go_ret2
      exact ⟨rfl, rfl⟩
  · have HI := Lib.hid (is_any H.out i false (by simpa using h1))
    clear hij h1
    go_enter Try.func38, Try.ntmps38
    go_wp2_with (go_at_call 36; refine (Calls.mono HI.out ?_); rintro e w' ⟨rfl, rfl⟩)
    go_ret2
    exact ⟨rfl, rfl⟩

set_option maxHeartbeats 1000000 in
theorem rword_ok (h : RS w0 w r f n R L) (i j : Nat) (hi : i < n) (hj : j < 512) :
    Calls Try.prog 38 #[.pointer (some ⟨r, 0, none⟩), .int .i64 i, .int .i64 j] w fun e w' => e = .returned (.tuple #[.int .u64 (wordOf ((L.drop (i * 4096 + j * 8)).take 8)), .bool true]) ∧ w = w' := by
  have HI := Lib.hid (is_any h i true (by simp; omega))
  obtain ⟨cap, hc, hcap⟩ := h.mem.cellR
  obtain ⟨p, hp, hpc, hrow⟩ := h.mem.row i hi
  have hle := h.mem.le
  have HC : Hid (∀ t, t < 8 → w.cell? ⟨p, 8 * j + t, none⟩ = some (.int .u8 (((L.drop (i * 4096 + j * 8)).take 8).getD t 0).toNat)) := by
    intro t ht
    rw [cell_of_bytes hrow (8 * j + t) (by rw [pageOf_length h.mem.len i hi]; omega)]
    simp only [List.getD]
    rw [pageOf_get _ _ _ (by omega), List.getElem?_take, if_pos ht, List.getElem?_drop, show i * 4096 + j * 8 + t = i * 4096 + (8 * j + t) by omega]
  have HL : Hid (((L.drop (i * 4096 + j * 8)).take 8).length = 8) := by show _ = _; simp; have := h.mem.len; omega
  generalize (L.drop (i * 4096 + j * 8)).take 8 = xs at *
  have d0 : decide ((j : Int) < 0) = false := by simp
  have d1 : decide ((j : Int) ≥ 512) = false := by simp; omega
  clear h hrow hp
  go_enter Try.func38, Try.ntmps38
  go_wp2_with (go_at_call 36; refine (Calls.mono HI.out ?_); rintro e w' ⟨rfl, rfl⟩)
  go_loop [8, 9] (fun s k => ∃ q : Nat, q ≤ 8 ∧ k = .int .i64 ((q : Int) - 1) ∧ s = .int .u64 (restv xs q)) (fun _ k => (intOf k + 1).toNat)
  case atStart => exact ⟨8, by omega, rfl, by rw [restv_end _ HL.out]⟩
  case round =>
    obtain ⟨q, hq, rfl, rfl⟩ := hrel
    by_cases hlt : 0 < q
    · obtain ⟨t, rfl⟩ : ∃ t, q = t + 1 := ⟨q - 1, by omega⟩
      clear hlt
      have hx := HC.out t (by omega)
      obtain ⟨x, hxx⟩ : ∃ x : Nat, x = (xs.getD t 0).toNat := ⟨_, rfl⟩
      have hx2 : x < 256 := by rw [hxx]; exact (xs.getD t 0).toNat_lt
      rw [← hxx] at hx
      have HX := Lib.hid hxx
      clear hxx
      go_wp2
      go_round
      case rel =>
        refine ⟨t, by omega, by go_num, ?_⟩
        rw [← restv_step xs t HL.out (by omega), HX.out]
      case measure => simp [intOf]
    · obtain rfl : q = 0 := by omega
      have HZ := Lib.hid (restv_zero xs)
      go_wp2
      go_ret2
      refine ⟨?_, rfl⟩
      rw [← HZ.out]
      rfl

theorem rsetWord_no (h : RS w0 w r f n R L) (i j v : Int) (hij : ¬ ((0 ≤ i ∧ i < n) ∧ (0 ≤ j ∧ j < 512))) :
    Calls Try.prog 28 #[.pointer (some ⟨r, 0, none⟩), .int .i64 i, .int .i64 j, .int .u64 v] w fun e w' => e = .returned (.bool false) ∧ w = w' := by
  have HW := Lib.hid (rword_no h i j hij)
  clear h hij
  go_enter Try.func28, Try.ntmps28
  go_wp2_with (go_at_call 38; refine (Calls.mono HW.out ?_); rintro e w' ⟨rfl, rfl⟩)
  go_loop [11] (fun k => k = .int .i64 0) (fun _ => 0)
  case atStart => rfl
  case round =>
    subst hrel
    go_wp2
    go_ret
    exact ⟨rfl, rfl⟩

set_option maxHeartbeats 1000000 in
theorem rsetWord_ok (h : RS w0 w r f n R L) (i j v : Nat) (hi : i < n) (hj : j < 512) :
    Calls Try.prog 28 #[.pointer (some ⟨r, 0, none⟩), .int .i64 i, .int .i64 j, .int .u64 v] w fun e w' =>
      e = .returned (.bool true) ∧ RS w0 w' r f n R (splice L (i * 4096 + j * 8) (bytesOf v)) ∧ Kept R w w' := by
  have HW := Lib.hid (rword_ok h i j hi hj)
  have H := Lib.hid h
  have HL := Lib.hid h.mem.len
  have hle := h.mem.le
  generalize ((wordOf ((L.drop (i * 4096 + j * 8)).take 8) : Nat) : Int) = y at *
  clear h
  go_enter Try.func28, Try.ntmps28
  go_wp2_with (go_at_call 38; refine (Calls.mono HW.out ?_); rintro e w' ⟨rfl, rfl⟩)
  go_loopw [11] (fun k wr => ∃ q : Nat, q ≤ 8 ∧ k = .int .i64 q ∧ RS w0 wr r f n R (splice L (i * 4096 + j * 8) ((bytesOf v).take q)) ∧ Kept R w wr ∧ w.heap.size ≤ wr.heap.size) (fun k _ => 8 - (intOf k).toNat)
  case atStart => exact ⟨0, by omega, rfl, by rw [List.take_zero, splice_nil]; exact H.out, Kept.refl, Nat.le_refl _⟩
  case round =>
    obtain ⟨q, hq, rfl, hS, hK, hsz⟩ := hrel
    have HS := Lib.hid hS
    have HK := Lib.hid hK
    by_cases hlt : q < 8
    · obtain ⟨cap, hc, hcap⟩ := hS.mem.cellR
      obtain ⟨p, hp, hpc, hrow⟩ := hS.mem.row i hi
      have hcx := cell_of_bytes hrow (8 * j + q) (by rw [pageOf_length hS.mem.len i hi]; omega)
      have hf := frozen_of_row wr p (8 * j + q) _ _ hrow
      have hlen : ((bytesOf v).take q).length = q := by simp [bytesOf_length]; omega
      have HF : Hid (RS w0 (wr.setCells p (8 * j + q) [.int .u8 ((v : Int) / 2 ^ (8 * q) % 256)]) r f n R (splice L (i * 4096 + j * 8) ((bytesOf v).take (q + 1))) ∧ Kept R w (wr.setCells p (8 * j + q) [.int .u8 ((v : Int) / 2 ^ (8 * q) % 256)]) ∧ w.heap.size ≤ (wr.setCells p (8 * j + q) [.int .u8 ((v : Int) / 2 ^ (8 * q) % 256)]).heap.size) := by
        have h1 := hS.stored i (8 * j + q) p [UInt8.ofNat (v / 256 ^ q)] hi hp (by simp; omega)
        have e1 : [UInt8.ofNat (v / 256 ^ q)].map cell = [.int .u8 ((v : Int) / 2 ^ (8 * q) % 256)] := by rw [shr_byte]; rfl
        have hs : (bytesOf v).take (q + 1) = (bytesOf v).take q ++ [UInt8.ofNat (v / 256 ^ q)] := by
          rw [List.take_add_one, bytesOf_get v q hlt]; rfl
        have e2 := splice_snoc (L := L) (xs := (bytesOf v).take q) (o := i * 4096 + j * 8) (y := UInt8.ofNat (v / 256 ^ q)) (by rw [hlen, HL.out]; omega)
        rw [hlen] at e2
        rw [e1, show i * 4096 + (8 * j + q) = i * 4096 + j * 8 + q by omega, e2, ← hs] at h1
        refine ⟨h1, hK.trans (Kept.grown (List.mem_of_getElem? hp) (grown_setCells _ _ _ _)) hsz, by rw [size_setCells]; exact hsz⟩
      generalize (((pageOf (splice L (i * 4096 + j * 8) ((bytesOf v).take q)) i).getD (8 * j + q) 0).toNat : Int) = z at *
      clear hS hK hrow hp hlen
      go_wp2
      go_roundw
      case rel => exact ⟨q + 1, by omega, by go_num, HF.out.1, HF.out.2.1, HF.out.2.2⟩
      case measure => simp [intOf]; omega
    · have hx : (bytesOf v).take q = bytesOf v := List.take_of_length_le (by rw [bytesOf_length]; omega)
      rw [hx] at HS
      clear hS hK hx
      go_wp2
      go_ret
      exact ⟨rfl, HS.out, HK.out⟩
end
end Go.Proofs.Ytomkhdefjfjlnaa
