/- FramesReserve, walked out of what package frames says. -/
import Derived.Test.YtabgfjmfhkfbmaaFHolds
namespace Go.Proofs.Ytabgfjmfhkfbmaa
open Go.ChangeShapes Go.WideShapes Go.ChangeAt Go.RowKit Go.Deep
set_option linter.unusedVariables false

/-- Frames of which the first ones are taken. -/
structure Taken (A : List FrV) : Prop where
  cl : ∀ x, x ∈ A → x.cl ≠ 0
  wi : ∀ x, x ∈ A → x.wi = 0
  lo : ∀ x, x ∈ A → x.lo = 0
def half (A : List FrV) (m : Nat) : List FrV := A ++ List.replicate m zeroF
theorem half_len (A : List FrV) (m : Nat) : (half A m).length = A.length + m := by unfold half; rw [List.length_append, List.length_replicate]
theorem half_count {A : List FrV} (h : Taken A) (m : Nat) : countF (half A m) 0 = m := by
  unfold countF half
  rw [List.filter_append, List.filter_eq_nil_iff.2 (by intro x hx; simpa using h.cl x hx), List.nil_append, List.filter_replicate]
  simp [zeroF]
theorem half_free {A : List FrV} (h : Taken A) (m : Nat) : freeAt (half A (m + 1)) = some A.length := by
  refine free_at (x := zeroF) ?_ rfl fun i z hi hz => ?_
  · unfold half
    rw [List.getElem?_append_right (Nat.le_refl _), Nat.sub_self, List.replicate_succ]
    rfl
  · unfold half at hz
    rw [List.getElem?_append_left hi] at hz
    exact h.cl z (List.mem_of_getElem? hz)
theorem half_take {A : List FrV} (h : Taken A) {rs c o i : Int} {m : Nat} (hc : isCls c) (hm : c = 1 ∨ rs < m + 1) : takeF rs (half A (m + 1)) c o i = ⟨A.length, 0, half (A ++ [⟨c, o, i, 0, 0⟩]) m⟩ := by
  unfold takeF
  rw [if_neg (not_not_intro hc), half_count h, if_neg (by push_cast; omega), half_free h]
  show (⟨A.length, 0, (half A (m + 1)).set A.length ⟨c, o, i, 0, 0⟩⟩ : AnsF) = _
  congr 1
  unfold half
  rw [List.set_append_right _ _ (Nat.le_refl _), Nat.sub_self, List.replicate_succ, List.set_cons_zero, List.append_assoc]
  rfl
theorem half_none {A : List FrV} (h : Taken A) {rs c o i : Int} {m : Nat} (hc : isCls c) (hm : (m : Int) = 0 ∨ c ≠ 1 ∧ (m : Int) ≤ rs) : takeF rs (half A m) c o i = ⟨0, 5, half A m⟩ := by
  unfold takeF
  rw [if_neg (not_not_intro hc), half_count h, if_pos hm]
theorem Taken.snoc {A : List FrV} (h : Taken A) {c o i : Int} (hc : c ≠ 0) : Taken (A ++ [⟨c, o, i, 0, 0⟩]) := by
  refine ⟨fun x hx => ?_, fun x hx => ?_, fun x hx => ?_⟩ <;> rcases List.mem_append.1 hx with hx | hx
  · exact h.cl x hx
  · obtain rfl : x = _ := by simpa using hx
    exact hc
  · exact h.wi x hx
  · obtain rfl : x = _ := by simpa using hx
    rfl
  · exact h.lo x hx
  · obtain rfl : x = _ := by simpa using hx
    rfl
theorem taken_nil : Taken [] := ⟨by simp, by simp, by simp⟩
theorem half_nil (m : Nat) : half [] m = List.replicate m zeroF := rfl

/-- What comes behind: one is given back, and taken again. -/
theorem give_one {A : List FrV} (h : Taken A) {k : Nat} (hk : k < A.length) : giveF A k = ⟨0, 0, A.set k zeroF⟩ := by
  obtain ⟨x, hx⟩ : ∃ x, A[k]? = some x := ⟨_, List.getElem?_eq_getElem hk⟩
  have hm := List.mem_of_getElem? hx
  unfold giveF
  rw [atF_at hx (h.cl x hm), if_neg (by rw [h.wi x hm, h.lo x hm]; simp)]
theorem give_two {A : List FrV} {k : Nat} (hk : k < A.length) : giveF (A.set k zeroF) k = ⟨0, 2, A.set k zeroF⟩ := atF_free (x := zeroF) (by rw [List.getElem?_set_self hk]) rfl
theorem take_one {A : List FrV} (h : Taken A) {k : Nat} (hk : k < A.length) {rs : Int} : takeF rs (A.set k zeroF) 1 1 2 = ⟨k, 0, A.set k ⟨1, 1, 2, 0, 0⟩⟩ := by
  have hf : freeAt (A.set k zeroF) = some k := free_at (x := zeroF) (by rw [List.getElem?_set_self hk]) rfl fun i z hi hz => by
    rw [List.getElem?_set_ne (by omega)] at hz
    exact h.cl z (List.mem_of_getElem? hz)
  have hc : countF (A.set k zeroF) 0 ≠ 0 := fun e => by rw [count_free.1 e] at hf; cases hf
  unfold takeF
  rw [if_neg (by unfold isCls; omega), if_neg (by rintro (e | e); exact hc e; exact e.1 rfl), hf]
  show (⟨k, 0, (A.set k zeroF).set k ⟨1, 1, 2, 0, 0⟩⟩ : AnsF) = _
  rw [List.set_set]
theorem get_one {A : List FrV} {k : Nat} (hk : k < A.length) (x : FrV) : getV (getF (A.set k x) k) = .tuple #[frAgg x, .bool true] := by
  unfold getF
  rw [if_pos (by rw [List.length_set]; omega), Int.toNat_natCast, List.getElem?_set_self hk]
  rfl

set_option maxRecDepth 100000 in
set_option maxHeartbeats 4000000 in
theorem reserve_walk {P : World → Nat → Int → List FrV → List Nat → Prop} (H : FrOk P) (w : World) (n0 rs0 gv : Int) (hn : okU n0) (hr : okU rs0) (hg : okU gv) :
    Calls Try.prog 5 #[.int .u64 n0, .int .u64 rs0, .int .u64 gv] w fun e w' => e = .returned (.bool true) ∧ w.grownBy w' none := by
  obtain ⟨n, hnn⟩ : ∃ n : Nat, n0 % 30 = (n : Int) := Int.eq_ofNat_of_zero_le (by omega)
  have hn30 : n < 30 := by omega
  obtain ⟨m, hmm⟩ : ∃ m : Nat, rs0 % ((n : Int) + 1 + 1) = (m : Int) := Int.eq_ofNat_of_zero_le (Int.emod_nonneg _ (by omega))
  have hm0 : m ≤ n + 1 := by have := Int.emod_lt_of_pos rs0 (show (0 : Int) < (n : Int) + 1 + 1 by omega); omega
  obtain ⟨q, hq⟩ : ∃ q : Nat, gv % ((n : Int) + 1) = (q : Int) := Int.eq_ofNat_of_zero_le (Int.emod_nonneg _ (by omega))
  have hq0 : q < n + 1 := by have := Int.emod_lt_of_pos gv (show (0 : Int) < (n : Int) + 1 by omega); omega
  have n00 := hn.1
  have n01 := hn.2
  have r00 := hr.1
  have r01 := hr.2
  have g00 := hg.1
  have g01 := hg.2
  have HLv := Lib.hid (lives6 H)
  have hnew := H.new w (n + 1) m (by omega) (by omega) (by omega) (by omega)
  rw [show ((n + 1 : Nat) : Int) = (n : Int) + 1 by omega] at hnew
  have HN := Lib.hid hnew
  have HT := Lib.hid H
  have hqn := eql_pool_nil
  have hc1 : (1 + (n : Int)) = (n : Int) + 1 := by omega
  clear H hnew
  go_enter Try.func5, Try.ntmps5
  go_wp2_with fail
  refine HN.out.mono ?_
  rintro e w1 ⟨p, O, rfl, h1, g1, o1⟩
  have HI := Lib.hid (show FS P w w1 p m (half [] (n + 1)) O from ⟨h1, o1, g1⟩)
  clear h1 g1 o1 HN
  go_wp2_with fail
  go_loopw [10] (fun iv wr => ∃ (i j : Nat) (A : List FrV) (O' : List Nat), i + j = n + 1 ∧ m ≤ j ∧ iv = .int .i64 i ∧ Hid (FS P w wr p m (half A j) O') ∧ Hid (Taken A) ∧ Hid (A.length = i)) (fun iv _ => n + 1 - (intOf iv).toNat)
  case atStart => exact ⟨0, n + 1, [], O, by omega, by omega, rfl, HI, taken_nil, rfl⟩
  case round =>
    obtain ⟨i, j, A, O', hij, hmj, rfl, HIr, HTk, HL⟩ := hrel
    by_cases hlt : m < j
    · obtain ⟨j', rfl⟩ : ∃ j', j = j' + 1 := ⟨j - 1, by omega⟩
      have hk := HT.out.take HIr.out.pp 3 7 i (ok_s (by decide) (by decide)) (ok_s (by decide) (by decide)) (ok_s (by omega) (by omega))
      rw [half_take HTk.out (by unfold isCls; omega) (by right; omega), HL.out] at hk
      have HK := Lib.hid hk
      have hlt2 : (i : Int) < (n : Int) + 1 - m := by omega
      clear hk
      go_wp2_with fail
      refine HK.out.mono ?_
      rintro e w2 ⟨rfl, h2⟩
      obtain ⟨O2, h2, -, -⟩ := HIr.out.left HT.out h2
      have H2 := Lib.hid h2
      clear h2
      go_wp2_with fail
      go_roundw
      case rel => exact ⟨i + 1, j', _, O2, by omega, by omega, by go_num, H2, HTk.out.snoc (by decide), by show (A ++ _).length = i + 1; rw [List.length_append, HL.out]; rfl⟩
      case measure => simp [intOf]; omega
    · obtain rfl : j = m := by omega
      have hk := HT.out.take HIr.out.pp 4 0 0 (ok_s (by decide) (by decide)) (ok_s (by decide) (by decide)) (ok_s (by decide) (by decide))
      rw [half_none HTk.out (by unfold isCls; omega) (by right; exact ⟨by decide, Int.le_refl _⟩)] at hk
      have HK := Lib.hid hk
      have hge : ¬ ((i : Int) < (n : Int) + 1 - j) := by omega
      have hkj : (n : Int) + 1 - j = i := by omega
      clear hk
      go_wp2_with fail
      refine HK.out.mono ?_
      rintro e w2 ⟨rfl, h2⟩
      obtain ⟨O2, h2, -, -⟩ := HIr.out.left HT.out h2
      have H2 := Lib.hid h2
      clear h2 HK
      go_wp2_with fail
      go_loopw [15] (fun iv wx => ∃ (i2 j2 : Nat) (A2 : List FrV) (O3 : List Nat), i2 + j2 = n + 1 ∧ iv = .int .i64 i2 ∧ Hid (FS P w wx p j (half A2 j2) O3) ∧ Hid (Taken A2) ∧ Hid (A2.length = i2)) (fun iv _ => n + 1 - (intOf iv).toNat)
      case atStart => exact ⟨i, j, A, O2, by omega, by go_num, H2, HTk, HL⟩
      case round =>
        obtain ⟨i2, j2, A2, O3, hij2, rfl, HIx, HTx, HLx⟩ := hrel
        cases j2 with
        | succ j3 =>
          have hk := HT.out.take HIx.out.pp 1 7 i2 (ok_s (by decide) (by decide)) (ok_s (by decide) (by decide)) (ok_s (by omega) (by omega))
          rw [half_take HTx.out (by unfold isCls; omega) (by left; rfl), HLx.out] at hk
          have HK := Lib.hid hk
          have hlt2 : (i2 : Int) < (n : Int) + 1 := by omega
          clear hk
          go_wp2_with fail
          refine HK.out.mono ?_
          rintro e w3 ⟨rfl, h3⟩
          obtain ⟨O4, h3, -, -⟩ := HIx.out.left HT.out h3
          have H3 := Lib.hid h3
          clear h3
          go_wp2_with fail
          go_roundw
          case rel => exact ⟨i2 + 1, j3, _, O4, by omega, by go_num, H3, HTx.out.snoc (by decide), by show (A2 ++ _).length = i2 + 1; rw [List.length_append, HLx.out]; rfl⟩
          case measure => simp [intOf]; omega
        | zero =>
          have hk := HT.out.take HIx.out.pp 1 0 0 (ok_s (by decide) (by decide)) (ok_s (by decide) (by decide)) (ok_s (by decide) (by decide))
          rw [half_none HTx.out (by unfold isCls; omega) (by left; rfl)] at hk
          have HK := Lib.hid hk
          have hge2 : ¬ ((i2 : Int) < (n : Int) + 1) := by omega
          have hqA : q < A2.length := by rw [HLx.out]; omega
          have HQ := Lib.hid hqA
          clear hk hqA
          go_wp2_with fail
          refine HK.out.mono ?_
          rintro e w3 ⟨rfl, h3⟩
          obtain ⟨O4, h3, -, -⟩ := HIx.out.left HT.out h3
          rw [show half A2 0 = A2 by unfold half; simp] at h3
          have H3 := Lib.hid h3
          have hk := HT.out.give h3.pp q (ok_s (by omega) (by omega))
          rw [give_one HTx.out HQ.out] at hk
          have HK3 := Lib.hid hk
          clear h3 hk HK
          go_wp2_with fail
          refine HK3.out.mono ?_
          rintro e w4 ⟨rfl, h4⟩
          obtain ⟨O5, h4, -, -⟩ := H3.out.left HT.out h4
          have H4 := Lib.hid h4
          have hk := HT.out.give h4.pp q (ok_s (by omega) (by omega))
          rw [give_two HQ.out] at hk
          have HK4 := Lib.hid hk
          clear h4 hk HK3
          go_wp2_with fail
          refine HK4.out.mono ?_
          rintro e w5 ⟨rfl, h5⟩
          obtain ⟨O6, h5, -, -⟩ := H4.out.left HT.out h5
          have H5 := Lib.hid h5
          have hk := HT.out.take h5.pp 1 1 2 (ok_s (by decide) (by decide)) (ok_s (by decide) (by decide)) (ok_s (by decide) (by decide))
          rw [take_one HTx.out HQ.out] at hk
          have HK5 := Lib.hid hk
          clear h5 hk HK4
          go_wp2_with fail
          refine HK5.out.mono ?_
          rintro e w6 ⟨rfl, h6⟩
          obtain ⟨O7, h6, -, -⟩ := H5.out.left HT.out h6
          have H6 := Lib.hid h6
          have hk := HT.out.get h6.pp q (ok_s (by omega) (by omega))
          rw [get_one HQ.out] at hk
          unfold frAgg at hk
          simp only at hk
          have HK6 := Lib.hid hk
          clear h6 hk HK5
          go_wp2_with fail
          refine HK6.out.mono ?_
          rintro e w7 ⟨rfl, g7⟩
          have H7 := Lib.hid ((H6.out.grow HT.out g7).grow HT.out (World.grownBy_alloc w7 (.cells #[.int .i64 1, .int .i64 1, .int .i64 2, .int .i64 0, .int .i64 0] 36 (0, 0)) none))
          obtain ⟨y0, y1, y2, y3, y4⟩ := (FrB.new w7 36 ⟨1, 1, 2, 0, 0⟩).at
          simp only at y0 y1 y2 y3 y4
          clear g7
          go_wp2_with fail
          refine (HLv.out _).mono ?_
          rintro e w8 ⟨rfl, g8⟩
          have G8 := Lib.hid (grown_trans H7.out.grown g8)
          clear g8
          go_wp2_with fail
          go_ret
          exact ⟨rfl, G8.out⟩
end Go.Proofs.Ytabgfjmfhkfbmaa
