/- Calls of package phys at a memory that New made: words. -/
import Derived.Test.YtomkhdefjfjlnaaPhysA
import Derived.Laws.BitsAllLaws
namespace Go.Proofs.Ytomkhdefjfjlnaa
open Go.ChangeShapes Go.WideShapes Go.ChangeAt Go.RowKit
open Extern.Stop (cell)
set_option linter.unusedVariables false

/-- The number of some bytes, the lowest first. -/
def wordOf : List UInt8 → Nat
  | [] => 0
  | b :: r => b.toNat + 256 * wordOf r

theorem wordOf_lt : ∀ xs : List UInt8, wordOf xs < 256 ^ xs.length
  | [] => by simp [wordOf]
  | b :: r => by
    have h := wordOf_lt r
    have hb := b.toNat_lt
    simp only [wordOf, List.length_cons, Nat.pow_succ]
    omega

theorem wordOf_snoc (b : UInt8) : ∀ xs : List UInt8, wordOf (xs ++ [b]) = wordOf xs + 256 ^ xs.length * b.toNat
  | [] => by simp [wordOf]
  | c :: r => by
    simp only [List.cons_append, wordOf, wordOf_snoc b r, List.length_cons, Nat.pow_succ]
    rw [Nat.mul_add, ← Nat.mul_assoc, Nat.mul_comm 256 (256 ^ r.length)]
    omega

theorem pow256 (q : Nat) : 256 ^ q = 2 ^ (8 * q) := by rw [Nat.pow_mul]

theorem or_word (a B q : Nat) (ha : a < 256 ^ q) (hB : B < 256) (hq : q < 8) : bits BinOp.or IntKind.u64 (a : Int) (IntKind.u64.wrap ((B : Int) * 2 ^ (8 * q))) = ((a + 256 ^ q * B : Nat) : Int) := by
  have hp : 256 ^ q * 256 ≤ 18446744073709551616 := by
    rw [← Nat.pow_succ, show 18446744073709551616 = 256 ^ 8 from rfl]
    exact Nat.pow_le_pow_right (by omega) (by omega)
  have hm : 256 ^ q * B + 256 ^ q ≤ 256 ^ q * 256 := by
    rw [← Nat.mul_succ]
    exact Nat.mul_le_mul_left _ hB
  have hlt : 256 ^ q * B < 18446744073709551616 := by
    have : 0 < 256 ^ q := Nat.pow_pos (by omega)
    omega
  have e1 : IntKind.u64.wrap ((B : Int) * 2 ^ (8 * q)) = ((256 ^ q * B : Nat) : Int) := by
    have e2 : (B : Int) * 2 ^ (8 * q) = ((256 ^ q * B : Nat) : Int) := by
      rw [pow256, Nat.mul_comm]
      simp [Int.mul_comm]
    rw [e2]
    generalize 256 ^ q * B = z at *
    simp [IntKind.wrap, IntKind.signed, IntKind.bits]
    omega
  rw [e1, u64_or_nat _ _ (by omega) hlt, Nat.or_comm]
  congr 1
  rw [Nat.add_comm, pow256, Nat.two_pow_add_eq_or_of_lt (by rw [← pow256]; exact ha)]

theorem word_ok {w : World} {m d n : Nat} {L : List UInt8} (h : Mem w m d n L) (i j : Nat) (hi : i < n) (hj : j < 512) :
    Calls Try.prog 57 #[.pointer (some ⟨m, 0, none⟩), .int .i64 i, .int .i64 j] w fun e w' => e = .returned (.tuple #[.int .u64 (wordOf ((L.drop (i * 4096 + j * 8)).take 8)), .bool true]) ∧ w = w' := by
  obtain ⟨c, hc8, hF⟩ := findWord_ok h i j hi hj
  have HF := Lib.hid hF
  have hcs : ∀ k, k < 8 → w.cell? ⟨d, i * 4096 + j * 8 + k, none⟩ = some (.int .u8 (((L.drop (i * 4096 + j * 8)).take 8).getD k 0).toNat) := by
    intro k hk
    have := cell_of_bytes h.body (i * 4096 + j * 8 + k) (by have := h.len; omega)
    rw [this]
    simp [List.getD, hk, List.getElem?_drop]
  have hl : ((L.drop (i * 4096 + j * 8)).take 8).length = 8 := by simp; have := h.len; omega
  generalize (L.drop (i * 4096 + j * 8)).take 8 = xs at *
  generalize i * 4096 + j * 8 = o at *
  have HC := Lib.hid hcs
  have HL := Lib.hid hl
  clear h hF hcs hl
  go_enter Try.func57, Try.ntmps57
  go_wp2_with (go_at_call 53; refine (Calls.mono HF.out ?_); rintro e w' ⟨rfl, rfl⟩)
  go_loop [9, 20] (fun t k => ∃ q : Nat, q ≤ 8 ∧ k = .int .i64 q ∧ t = .int .u64 (wordOf (xs.take q))) (fun _ k => 8 - (intOf k).toNat)
  case atStart => exact ⟨0, by omega, rfl, rfl⟩
  case round =>
    obtain ⟨q, hq, rfl, rfl⟩ := hrel
    by_cases hlt : q < 8
    · have hc := HC.out q hlt
      have hb := (xs.getD q 0).toNat_lt
      generalize hB : (xs.getD q 0).toNat = B at *
      have HB := Lib.hid hB
      clear hB
      go_wp2
      go_round
      case rel =>
        refine ⟨q + 1, by omega, by go_num, ?_⟩
        have hlen : (xs.take q).length = q := by simp; have := HL.out; omega
        have hlt2 := wordOf_lt (xs.take q)
        rw [hlen] at hlt2
        have hs : xs.take (q + 1) = xs.take q ++ [xs.getD q 0] := by
          rw [List.take_succ_eq_append_getElem (by rw [HL.out]; exact hlt)]
          simp [List.getD, List.getElem?_eq_getElem (show q < xs.length by rw [HL.out]; exact hlt)]
        rw [or_word _ B q hlt2 hb hlt, hs, wordOf_snoc, hlen, HB.out]
      case measure => simp [intOf]; omega
    · have hq8 : q = 8 := by omega
      have hx : xs.take q = xs := List.take_of_length_le (by rw [HL.out]; omega)
      have HX := Lib.hid hx
      clear hx hq8
      go_wp2
      go_ret2
      refine ⟨?_, rfl⟩
      simp only [HX.out]
      rfl

/-- The eight bytes of a number, the lowest first. -/
def bytesOf (v : Nat) : List UInt8 := (List.range 8).map fun k => UInt8.ofNat (v / 256 ^ k)

theorem shr_byte (v q : Nat) : Value.int .u8 ((v : Int) / 2 ^ (8 * q) % 256) = cell (UInt8.ofNat (v / 256 ^ q)) := by
  have e : (v : Int) / 2 ^ (8 * q) = ((v / 256 ^ q : Nat) : Int) := by rw [pow256]; simp
  rw [e, cell]
  simp

theorem bytesOf_get (v q : Nat) (hq : q < 8) : (bytesOf v)[q]? = some (UInt8.ofNat (v / 256 ^ q)) := by
  simp [bytesOf, hq]
theorem bytesOf_length (v : Nat) : (bytesOf v).length = 8 := by simp [bytesOf]

theorem setWord_ok {w : World} {m d n : Nat} {L : List UInt8} (h : Mem w m d n L) (i j : Nat) (v : Nat) (hi : i < n) (hj : j < 512) (hv : v < 18446744073709551616) :
    Calls Try.prog 23 #[.pointer (some ⟨m, 0, none⟩), .int .i64 i, .int .i64 j, .int .u64 v] w fun e w' =>
      e = .returned (.bool true) ∧ w' = w.setCells d (i * 4096 + j * 8) ((bytesOf v).map cell) := by
  obtain ⟨c, hc8, hF⟩ := findWord_ok h i j hi hj
  have HF := Lib.hid hF
  have ht : w.there d (i * 4096 + j * 8) 8 := there_of_bytes h.body _ _ (by have := h.len; omega)
  generalize i * 4096 + j * 8 = o at *
  have HT := Lib.hid ht
  have HV := Lib.hid hv
  clear h hF ht hv
  go_enter Try.func23, Try.ntmps23
  go_wp2_with (go_at_call 53; refine (Calls.mono HF.out ?_); rintro e w' ⟨rfl, rfl⟩)
  go_loopw [19] (fun k wr => ∃ q : Nat, q ≤ 8 ∧ k = .int .i64 q ∧ wr = w.setCells d o (((bytesOf v).take q).map cell)) (fun k wr => 8 - (intOf k).toNat)
  case atStart => exact ⟨0, by omega, rfl, rfl⟩
  case round =>
    obtain ⟨q, hq, rfl, hw⟩ := hrel
    by_cases hlt : q < 8
    · have ht2 := World.there_setCells HT.out d o (((bytesOf v).take q).map cell)
      rw [← hw] at ht2
      have ht3 := ht2 q hlt
      obtain ⟨u, hc⟩ := Option.isSome_iff_exists.1 ht3.1
      have hf := ht3.2
      have HW := Lib.hid hw
      clear ht2 ht3 hw
      go_wp2
      go_roundw
      case rel =>
        refine ⟨q + 1, by omega, by go_num, ?_⟩
        have hs : (bytesOf v).take (q + 1) = (bytesOf v).take q ++ [UInt8.ofNat (v / 256 ^ q)] := by
          rw [List.take_add_one, bytesOf_get v q hlt]; rfl
        have hlen : (((bytesOf v).take q).map cell).length = q := by simp [bytesOf_length]; omega
        rw [hs, List.map_append, List.map_singleton, setCells_snoc, hlen, ← HW.out, shr_byte]
      case measure => simp [intOf]; omega
    · have hx : (bytesOf v).take q = bytesOf v := List.take_of_length_le (by rw [bytesOf_length]; omega)
      rw [hx] at hw
      have HW := Lib.hid hw
      clear hw hx
      go_wp2
      go_ret
      exact ⟨rfl, HW.out⟩
end Go.Proofs.Ytomkhdefjfjlnaa
