/- FileMany, walked out of what package file says. -/
import Derived.Test.YtlaniifbfgcfaaaIOk
namespace Go.Proofs.Ytlaniifbfgcfaaa
open Go.ChangeShapes Go.WideShapes Go.ChangeAt Go.RowKit Go.Deep
set_option linter.unusedVariables false

def manyI (c j : Nat) : IS := ⟨List.replicate j (c : Int), zerosI, 0⟩
theorem many_0 (c : Nat) : newI = manyI c 0 := rfl
theorem many_len (c j : Nat) : (manyI c j).Z.length = j := List.length_replicate
theorem many_make {c j : Nat} (hc : c ≤ 4096) (hj : j < 16) : makeI (manyI c j) c = ((j : Int) + 1, 0, manyI c (j + 1)) := by
  unfold makeI
  rw [if_pos ⟨by omega, by omega⟩, if_neg (by rw [many_len]; omega), many_len]
  unfold manyI
  simp only
  rw [← List.replicate_succ']
theorem many_full {c : Nat} (hc : c ≤ 4096) : makeI (manyI c 16) c = (0, 5, manyI c 16) := by
  unfold makeI
  rw [if_pos ⟨by omega, by omega⟩, if_pos (by rw [many_len]; omega)]
theorem many_size (c : Nat) : sizeI (manyI c 16) 16 = ((c : Int), true) := by
  unfold sizeI
  rw [if_pos ⟨by decide, by rw [many_len]; decide⟩]
  rfl
theorem many_ids (c : Nat) : (idsI (manyI c 16)).length = 16 := by
  unfold idsI
  rw [List.length_map, List.length_range, many_len]
theorem many_ok {c : Nat} (hc : c ≤ 4096) : ∀ {j : Nat}, j ≤ 16 → (manyI c j).Ok := by
  intro j
  induction j with
  | zero => intro _; exact newI_ok
  | succ j ih =>
    intro hj
    have h := (ih (by omega)).make (n := c)
    rw [many_make hc (by omega)] at h
    exact h

set_option maxRecDepth 100000 in
set_option maxHeartbeats 2000000 in
theorem many_walk10 {D : World → Nat → IS → List Nat → Nat → Prop} (H : FlOk D) (w : World) (n0 : Int) (hn : okU n0) :
    Calls Try.prog 6 #[.int .u64 n0] w fun e w' => e = .returned (.bool true) ∧ w.grownBy w' none := by
  have HLv := Lib.hid (fun wx => lives10 H wx)
  have HT := Lib.hid H
  obtain ⟨c, hc⟩ : ∃ c : Nat, n0 % 4097 = c := Int.eq_ofNat_of_zero_le (by omega)
  have c1 : c ≤ 4096 := by omega
  have n1 := hn.1
  have n2 := hn.2
  have HN := Lib.hid (H.new w)
  clear H hn
  go_enter Try.func6, Try.ntmps6
  go_wp2_with fail
  refine HN.out.mono ?_
  rintro e w1 ⟨p, O, rfl, h1, g1, o1⟩
  have H1 := Lib.hid (show LI D w w1 p (manyI c 0) O 0 from ⟨h1, o1, g1, newI_ok⟩)
  clear h1 g1 o1 HN
  go_wp2_with fail
  simp only [hc]
  go_loopw [5] (fun iv wr => ∃ (j : Nat) (O : List Nat), j ≤ 16 ∧ iv = .int .i64 ((j : Int) + 1) ∧ Hid (LI D w wr p (manyI c j) O 0)) (fun iv _ => 17 - (intOf iv).toNat)
  case atStart => exact ⟨0, O, by omega, rfl, H1.out⟩
  case round =>
    clear H1
    obtain ⟨j, O4, hj, rfl, HJ⟩ := hrel
    by_cases hlt : j < 16
    · have e0 : decide ((j : Int) + 1 ≤ 16) = true := by simp; omega
      have hk := HT.out.make HJ.out.d HJ.out.ok (c : Int) (okS (by omega) (by omega))
      rw [many_make c1 hlt] at hk
      have HK := Lib.hid hk
      clear hk
      go_wp2_with fail
      refine HK.out.mono ?_
      rintro e w5 ⟨rfl, h5⟩
      obtain ⟨O5, h5, -, -⟩ := HJ.out.left h5 (many_ok c1 (by omega))
      have H5 := Lib.hid h5
      clear h5 HK HJ
      go_wp2_with fail
      go_roundw
      case rel => exact ⟨j + 1, O5, by omega, by go_num, H5⟩
      case measure => simp [intOf]; omega
    · obtain rfl : j = 16 := by omega
      have hk := HT.out.make HJ.out.d HJ.out.ok (c : Int) (okS (by omega) (by omega))
      rw [many_full c1] at hk
      have HK := Lib.hid hk
      clear hk
      go_wp2_with fail
      refine HK.out.mono ?_
      rintro e w5 ⟨rfl, h5⟩
      obtain ⟨O5, h5, -, -⟩ := HJ.out.left h5 (many_ok c1 (by omega))
      have hk := HT.out.size h5.d h5.ok 16 (okS (by decide) (by decide))
      rw [many_size] at hk
      have HK := Lib.hid hk
      have H5 := Lib.hid h5
      clear h5 HJ hk
      go_wp2_with fail
      refine HK.out.mono ?_
      rintro e w6 ⟨rfl, g6⟩
      have h6 := H5.out.grow HT.out g6
      have HI := Lib.hid (HT.out.ids h6.d h6.ok)
      have H6 := Lib.hid h6
      clear h6 g6 HK H5
      go_wp2_with fail
      refine HI.out.mono ?_
      rintro e w7 ⟨u, rfl, r7, g7⟩
      obtain ⟨us, uc, rfl⟩ := r7.form
      rw [many_ids]
      have HG := Lib.hid (grown_trans H6.out.grown g7)
      clear r7 g7 HI
      go_wp2_with fail
      refine (HLv.out _).mono ?_
      rintro e w8 ⟨rfl, g8⟩
      have HG8 := Lib.hid (grown_trans HG.out g8)
      clear g8
      go_wp2_with fail
      go_ret
      exact ⟨rfl, HG8.out⟩
end Go.Proofs.Ytlaniifbfgcfaaa
