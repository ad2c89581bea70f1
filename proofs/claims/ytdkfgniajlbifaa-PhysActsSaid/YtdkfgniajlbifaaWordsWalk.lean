/- PhysWords answers true, whatever the word and its place, and changes nothing that was there. -/
import Derived.Test.YtdkfgniajlbifaaPhysE
import Derived.Test.YtdkfgniajlbifaaActs
namespace Go.Proofs.Ytdkfgniajlbifaa
open Go.ChangeShapes Go.WideShapes Go.ChangeAt Go.RowKit
open Extern.Stop (cell)
set_option linter.unusedVariables false

theorem wordOf_bytes (n v : Nat) : wordOf ((List.range n).map fun k => UInt8.ofNat (v / 256 ^ k)) = v % 256 ^ n := by
  induction n with
  | zero => simp [wordOf, Nat.mod_one]
  | succ n ih =>
    rw [List.range_succ, List.map_append, List.map_singleton, wordOf_snoc, ih, List.length_map, List.length_range, Nat.pow_succ]
    have e : (UInt8.ofNat (v / 256 ^ n)).toNat = v / 256 ^ n % 256 := by simp
    rw [e, Nat.mod_mul]

theorem wordOf_bytesOf (v : Nat) (hv : v < 18446744073709551616) : wordOf (bytesOf v) = v := by
  rw [bytesOf, wordOf_bytes, Nat.mod_eq_of_lt (by simpa using hv)]

theorem take_splice {α : Type} {L xs : List α} {o : Nat} (h : o + xs.length ≤ L.length) : ((splice L o xs).drop o).take xs.length = xs := by
  apply List.ext_getElem?
  intro k
  rw [List.getElem?_take]
  split
  · rw [List.getElem?_drop, get_splice _ _ _ h, if_neg (by omega), if_pos (by omega)]
    congr 1
    omega
  · rw [List.getElem?_eq_none (by omega)]

/-- One step of the sum: the bytes from the highest on. -/
theorem sum_step (v q : Nat) (hv : v < 18446744073709551616) : IntKind.u64.wrap (IntKind.u64.wrap (((v / 256 ^ (q + 1) : Nat) : Int) * 256) + ((UInt8.ofNat (v / 256 ^ q)).toNat : Int)) = ((v / 256 ^ q : Nat) : Int) := by
  have e1 : v / 256 ^ (q + 1) = v / 256 ^ q / 256 := by rw [Nat.pow_succ, Nat.div_div_eq_div_mul]
  have e2 : (UInt8.ofNat (v / 256 ^ q)).toNat = v / 256 ^ q % 256 := by simp
  have e3 : v / 256 ^ q ≤ v := Nat.div_le_self _ _
  rw [e1, e2]
  generalize v / 256 ^ q = y at *
  simp [IntKind.wrap, IntKind.signed, IntKind.bits]
  omega

theorem bytesOf_getD (v q : Nat) (hq : q < 8) : (bytesOf v).getD q 0 = UInt8.ofNat (v / 256 ^ q) := by
  rw [List.getD, bytesOf_get v q hq]; rfl

theorem byte_next (x : UInt8) : b8 (((x.toNat : Int) + 1) % 256) ≠ x := by
  intro h
  have h2 : (b8 (((x.toNat : Int) + 1) % 256)).toNat = x.toNat := by rw [h]
  have hx := x.toNat_lt
  simp [b8] at h2
  omega

/-- What has been summed when the bytes from q on are in. -/
def sumv (v q : Nat) : Int := ((v / 256 ^ q : Nat) : Int)
theorem sumv_zero (v : Nat) : sumv v 0 = (v : Int) := by simp [sumv]
theorem sumv_step (v q : Nat) (hv : v < 18446744073709551616) : IntKind.u64.wrap (IntKind.u64.wrap (sumv v (q + 1) * 256) + ((UInt8.ofNat (v / 256 ^ q)).toNat : Int)) = sumv v q := sum_step v q hv

set_option maxHeartbeats 1000000 in
set_option maxRecDepth 100000 in
theorem words_walk0 (i v : Nat) (hv : v < 18446744073709551616) (w : World) :
    Calls Try.prog 5 #[.int .u64 i, .int .u64 v] w fun e w' => e = .returned (.bool true) ∧ Below w.heap.size w w' := by
  have HV := Lib.hid hv
  clear hv
  obtain ⟨k, hk⟩ : ∃ k, k = i % 512 := ⟨_, rfl⟩
  have hik : (i : Int) % 512 = (k : Int) := by omega
  have hk5 : k < 512 := by omega
  clear hk
  go_enter Try.func5, Try.ntmps5
  go_wp2_with fail
  refine (newE w (Below.refl _ _) _ 2 rfl (by omega) (by omega)).mono ?_
  rintro e w1 ⟨rfl, h1, -⟩
  generalize w.heap.size + 1 = m at *
  have HL0 : Hid ((List.replicate (2 * 4096) (0 : UInt8)).length = 2 * 4096) := List.length_replicate
  generalize List.replicate (2 * 4096) (0 : UInt8) = L0 at *
  have H1 := Lib.hid h1
  clear h1
  go_wp2_with fail
  refine (setWordE H1.out _ _ _ 0 k v rfl rfl rfl (by omega) (by omega) HV.out).mono ?_
  rintro e w2 ⟨rfl, h2, -⟩
  have hfit : 0 * 4096 + k * 8 + (bytesOf v).length ≤ L0.length := by rw [bytesOf_length, HL0.out]; omega
  have HW : Hid (((wordOf (((splice L0 (0 * 4096 + k * 8) (bytesOf v)).drop (0 * 4096 + k * 8)).take 8) : Nat) : Int) = (v : Int)) := by
    have := take_splice hfit
    rw [bytesOf_length] at this
    show _ = _
    rw [this, wordOf_bytesOf v HV.out]
  have HB : Hid (∀ q, q < 8 → (splice L0 (0 * 4096 + k * 8) (bytesOf v)).getD (0 * 4096 + (8 * k + q)) 0 = UInt8.ofNat (v / 256 ^ q)) := by
    intro q hq
    rw [getD_splice_in hfit (by omega) (by rw [bytesOf_length]; omega), show 0 * 4096 + (8 * k + q) - (0 * 4096 + k * 8) = q by omega, bytesOf_getD v q hq]
  generalize splice L0 (0 * 4096 + k * 8) (bytesOf v) = L1 at *
  have HL1 := Lib.hid h2.len
  have H2 := Lib.hid h2
  clear h2 hfit
  go_wp2_with fail
  refine (wordE H2.out _ _ 0 k v rfl rfl (by omega) (by omega) HW.out).mono ?_
  rintro e w3 ⟨rfl, rfl⟩
  go_wp2_with fail
  go_loop [9, 10] (fun s n => ∃ q : Nat, q ≤ 8 ∧ n = .int .i64 ((q : Int) - 1) ∧ s = .int .u64 (sumv v q)) (fun _ n => (intOf n + 1).toNat)
  case atStart => exact ⟨8, by omega, rfl, by rw [sumv, Nat.div_eq_of_lt (by have := HV.out; exact this)]; rfl⟩
  case round =>
    obtain ⟨q, hq, rfl, rfl⟩ := hrel
    by_cases hlt : 0 < q
    · obtain ⟨r, rfl⟩ : ∃ r, q = r + 1 := ⟨q - 1, by omega⟩
      clear hlt
      obtain ⟨x, hx⟩ : ∃ x : Nat, x = (UInt8.ofNat (v / 256 ^ r)).toNat := ⟨_, rfl⟩
      have hx2 : x < 256 := by rw [hx]; exact (UInt8.ofNat (v / 256 ^ r)).toNat_lt
      have HX := Lib.hid hx
      clear hx
      go_wp2_with fail
      refine (byteE H2.out _ _ 0 (8 * k + r) x rfl (by omega) (by omega) (by omega) (by rw [HB.out r (by omega), HX.out])).mono ?_
      rintro e w3 ⟨rfl, rfl⟩
      go_wp2_with fail
      go_round
      case rel =>
        refine ⟨r, by omega, by go_num, ?_⟩
        rw [← sumv_step v r HV.out, HX.out]
      case measure => simp [intOf]; try omega
    · obtain rfl : q = 0 := by omega
      have hs := sumv_zero v
      go_wp2_with fail
      refine (copyE H2.out _ _ 1 0 rfl rfl (by omega) (by omega)).mono ?_
      rintro e w3 ⟨rfl, h3, -⟩
      have hp := pageOf_length HL1.out 0 (by omega)
      have HS0 : Hid (pageOf (splice L1 (1 * 4096) (pageOf L1 0)) 0 = pageOf L1 0) := pageOf_whole_other HL1.out (by omega) (by omega) (by omega) hp
      have HS1 : Hid (pageOf (splice L1 (1 * 4096) (pageOf L1 0)) 1 = pageOf L1 0) := pageOf_whole HL1.out (by omega) hp
      generalize pageOf L1 0 = P0 at *
      have HP := Lib.hid hp
      have HL2 := Lib.hid h3.len
      generalize splice L1 (1 * 4096) P0 = L2 at *
      have H3 := Lib.hid h3
      clear h3 hp
      go_wp2_with fail
      refine (sameE H3.out _ _ 0 1 true rfl rfl (by omega) (by omega) (by rw [HS0.out, HS1.out]; simp)).mono ?_
      rintro e w4 ⟨rfl, h4, -⟩
      have H4 := Lib.hid h4
      clear h4
      obtain ⟨y, hy⟩ : ∃ y : UInt8, y = L2.getD (1 * 4096 + 8 * k) 0 := ⟨_, rfl⟩
      have HY := Lib.hid hy
      obtain ⟨x, hx⟩ : ∃ x : Nat, x = y.toNat := ⟨_, rfl⟩
      have hx2 : x < 256 := by rw [hx]; exact y.toNat_lt
      have HX := Lib.hid hx
      clear hx hy
      go_wp2_with fail
      refine (byteE H4.out _ _ 1 (8 * k) x rfl (by omega) (by omega) (by omega) (by rw [← HY.out, HX.out])).mono ?_
      rintro e w5 ⟨rfl, rfl⟩
      go_wp2_with fail
      refine (setByteE H4.out _ _ 1 (8 * k) _ rfl (by omega) (by omega) (by omega) (by omega) (by omega)).mono ?_
      rintro e w5 ⟨rfl, h5, -⟩
      have HD : Hid ((pageOf (splice L2 (1 * 4096 + 8 * k) [b8 (((x : Int) + 1) % 256)]) 0 == pageOf (splice L2 (1 * 4096 + 8 * k) [b8 (((x : Int) + 1) % 256)]) 1) = false) := by
        show _ = _
        rw [pageOf_splice_other HL2.out (by omega) (by omega) (by omega) (by simp; omega), pageOf_splice_same HL2.out (by omega) (by simp; omega), HS0.out, HS1.out, beq_eq_false_iff_ne]
        intro h
        have h2 := congrArg (fun z => z[8 * k]?) h
        rw [get_splice _ _ _ (by simp; rw [HP.out]; omega), if_neg (by omega), if_pos (by simp)] at h2
        have h3 : P0[8 * k]? = L2[1 * 4096 + 8 * k]? := by rw [← HS1.out, pageOf_get _ _ _ (by omega)]
        have h4 : L2[1 * 4096 + 8 * k]? = some y := by
          rw [HY.out, List.getD, List.getElem?_eq_getElem (by rw [HL2.out]; omega)]; rfl
        rw [h3, h4, HX.out] at h2
        simp at h2
        exact byte_next y (by simpa using h2.symm)
      have HL3 := Lib.hid h5.len
      generalize splice L2 (1 * 4096 + 8 * k) [b8 (((x : Int) + 1) % 256)] = L3 at *
      have H5 := Lib.hid h5
      clear h5
      go_wp2_with fail
      refine (sameE H5.out _ _ 0 1 false rfl rfl (by omega) (by omega) HD.out).mono ?_
      rintro e w6 ⟨rfl, h6, -⟩
      have H6 := Lib.hid h6
      clear h6
      go_wp2_with fail
      refine (zeroE H6.out _ 1 rfl (by omega)).mono ?_
      rintro e w7 ⟨rfl, h7, -⟩
      have HL4 := Lib.hid h7.len
      have HZ4 : Hid (pageOf (splice L3 (1 * 4096) zeroPage) 1 = zeroPage) := pageOf_whole HL3.out (by omega) zeroPage_length
      generalize splice L3 (1 * 4096) zeroPage = L4 at *
      have H7 := Lib.hid h7
      clear h7
      go_wp2_with fail
      refine (zeroE H7.out _ 0 rfl (by omega)).mono ?_
      rintro e w8 ⟨rfl, h8, -⟩
      have HE : Hid ((pageOf (splice L4 (0 * 4096) zeroPage) 1 == pageOf (splice L4 (0 * 4096) zeroPage) 0) = true) := by
        show _ = _
        rw [pageOf_whole_other HL4.out (by omega) (by omega) (by omega) zeroPage_length, pageOf_whole HL4.out (by omega) zeroPage_length, HZ4.out]
        simp
      generalize splice L4 (0 * 4096) zeroPage = L5 at *
      have H8 := Lib.hid h8
      clear h8
      go_wp2_with fail
      refine (sameE H8.out _ _ 1 0 true rfl rfl (by omega) (by omega) HE.out).mono ?_
      rintro e w9 ⟨rfl, h9, -⟩
      have H9 := Lib.hid h9
      clear h9
      go_wp2_with fail
      refine (livesE H9.out).mono ?_
      rintro e w10 ⟨rfl, h10, -⟩
      have H10 := Lib.hid h10
      clear h10
      go_wp2_with fail
      go_ret
      exact ⟨rfl, H10.out.below⟩

theorem words_walk (w : World) (i : Int) (wi : (Lit.int .u64 i).wf = true) (v : Int) (wv : (Lit.int .u64 v).wf = true) :
    Calls Try.prog 5 #[.int .u64 i, .int .u64 v] w fun e w' => e = .returned (.bool true) ∧ Below w.heap.size w w' := by
  have hi := u64_of_wf wi
  have hv := u64_of_wf wv
  obtain ⟨a, rfl⟩ := Int.eq_ofNat_of_zero_le hi.1
  obtain ⟨b, rfl⟩ := Int.eq_ofNat_of_zero_le hv.1
  exact words_walk0 a b (by omega) w
end Go.Proofs.Ytdkfgniajlbifaa
