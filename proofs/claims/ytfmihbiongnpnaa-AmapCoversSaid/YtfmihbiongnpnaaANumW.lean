/- AmapNumbers, walked out of what package amap says. -/
import Derived.Test.YtfmihbiongnpnaaAListC
import Derived.Test.YtfmihbiongnpnaaAOk
import Derived.OwnWalk
namespace Go.Proofs.Ytfmihbiongnpnaa
open Go.ChangeShapes Go.WideShapes Go.ChangeAt Go.RowKit Go.Deep
set_option linter.unusedVariables false

theorem eqlA_ptr_nil (w : World) (a : Addr) : (binOp .eql 26 (.pointer (some a)) (.pointer none)).run Try.prog w = .ok (.bool false) w := by go_simp
/-- Amaps of three slots each, an anon in the middle one. -/
def amN (i : Nat) : AmV := ⟨[1, 1, 1], [0, 10 + ((i : Int) + 1), 0]⟩
def numL (n : Nat) : AmL := (List.range n).map fun i => some (amN i)
section
variable {n m i k : Nat} {L : AmL} {x : AmV}
theorem numL_len : (numL n).length = n := by unfold numL; rw [List.length_map, List.length_range]
theorem numL_at (h : i < n) : (numL n)[i]? = some (some (amN i)) := by unfold numL; rw [List.getElem?_map, List.getElem?_range h]; rfl
theorem numL_live (h : i < n) : liveA (numL n) i = true := liveA_some (numL_at h)
theorem numL_first : firstA (numL n) = n := first_eq (fun j hj => numL_live hj) (liveA_out (by rw [numL_len]; exact Nat.le_refl _)) (by rw [numL_len]; exact Nat.le_refl _)
theorem numL_ids : (idsA (numL n)).length = n := by rw [ids_full fun j hj => numL_live (by rwa [numL_len] at hj), numL_len]
theorem numL_succ : numL (n + 1) = numL n ++ [some (amN n)] := by unfold numL; rw [List.range_succ, List.map_append]; rfl
theorem new3 : newA 3 = ⟨[1, 1, 1], [0, 0, 0]⟩ := rfl
theorem new2 : newA 2 = ⟨[1, 1], [0, 0]⟩ := rfl
theorem num_make (h : n < m) : makeA m (numL n) 3 = ⟨(n : Int) + 1, [], 0, numL n ++ [some (newA 3)]⟩ := by
  unfold makeA
  rw [if_neg (by decide), if_neg (by rw [numL_ids]; omega), numL_first]
  unfold putA
  rw [if_neg (by rw [numL_len]; omega)]
  rfl
theorem num_full : makeA n (numL n) 3 = ⟨0, [], 5, numL n⟩ := by
  unfold makeA
  rw [if_neg (by decide), if_pos (by rw [numL_ids]; exact Nat.le_refl _)]
theorem num_set : setA (numL n ++ [some (newA 3)]) ((n : Int) + 1) 1 (10 + ((n : Int) + 1)) = ⟨0, [], 0, numL (n + 1)⟩ := by
  have h : (numL n ++ [some (newA 3)])[n]? = some (some (newA 3)) := by
    have := List.getElem?_concat_length (l := numL n) (a := some (newA 3))
    rwa [numL_len] at this
  unfold setA
  rw [ofA_at h]
  simp only
  rw [if_neg (by
    rw [show covA (newA 3) 1 = 1 from rfl]
    rintro (h1 | h1)
    · cases h1
    · omega), show anA (newA 3) 1 = 0 from rfl, new3]
  unfold turnA
  rw [show ((n : Int) + 1 - 1).toNat = n by omega, numL_succ]
  have e : (numL n ++ [some (newA 3)]).set n (some (amN n)) = numL n ++ [some (amN n)] := by
    rw [List.set_append_right _ _ (by rw [numL_len]; exact Nat.le_refl _), numL_len, Nat.sub_self]
    rfl
  rw [new3] at e
  exact congrArg (AR.mk 0 [] 0) e
theorem num_drop (h : k < n) : dropA (numL n) ((k : Int) + 1) 0 3 = ⟨0, [10 + ((k : Int) + 1)], 0, (numL n).set k none⟩ := by
  have hs : spanA (amN k) 0 3 := ⟨by decide, by decide, by show (3 : Int) ≤ ((3 : Nat) : Int); decide⟩
  have hm : mayJ (amN k).cs 0 3 (-1) := by show mayJ [1, 1, 1] 0 3 (-1); decide
  rw [drop_eq (numL_at h) hs hm]
  have e1 : goneJ (amN k).cs 0 3 (-1) = [0, 1, 2] := by show goneJ [1, 1, 1] 0 3 (-1) = _; decide
  have e2 : sumJ (moreJ (amN k).cs 0 3 (-1)) = 0 := by show sumJ (moreJ [1, 1, 1] 0 3 (-1)) = 0; decide
  rw [e1, if_pos e2]
  have e3 : outA (amN k).as [0, 1, 2] = [10 + ((k : Int) + 1)] := by
    show ([0, 10 + ((k : Int) + 1), 0] : List Int).filter (fun x => x != 0) = _
    have : (10 + ((k : Int) + 1) != 0) = true := by simp; omega
    rw [List.filter_cons_of_neg (by decide), List.filter_cons_of_pos (p := fun x : Int => x != 0) this, List.filter_cons_of_neg (by decide)]
    rfl
  rw [e3]
theorem num_gone (h : k < n) : slotsA ((numL n).set k none) ((k : Int) + 1) = 0 := by
  have h1 : ofA ((numL n).set k none) ((k : Int) + 1) = none := by
    rw [← turnA_nat]
    exact ofA_gone (ofA_at (numL_at h))
  unfold slotsA
  rw [h1]
theorem num_again (h : k < n) : makeA n ((numL n).set k none) 2 = ⟨(k : Int) + 1, [], 0, (numL n).set k (some (newA 2))⟩ := by
  have hl : ((numL n).set k none).length = n := by rw [List.length_set, numL_len]
  have hd : liveA ((numL n).set k none) k = false := by
    refine liveA_none ?_
    rw [List.getElem?_set, if_pos rfl, if_pos (by rw [numL_len]; exact h)]
  have hf : firstA ((numL n).set k none) = k := first_eq (fun j hj => by
    refine liveA_some (a := amN j) ?_
    rw [List.getElem?_set, if_neg (by omega)]
    exact numL_at (by omega)) hd (by omega)
  have hi := ids_lt hd (by omega)
  unfold makeA
  rw [if_neg (by decide), if_neg (by omega), hf]
  unfold putA
  rw [if_pos (by omega), List.set_set]
  rfl
theorem num_other (h : k < n) (hi : i < n) (hne : i ≠ k) : getA ((numL n).set k (some (newA 2))) ((i : Int) + 1) 1 = 10 + ((i : Int) + 1) := by
  have h1 : ((numL n).set k (some (newA 2)))[i]? = some (some (amN i)) := by
    rw [List.getElem?_set, if_neg (fun e => hne e.symm)]
    exact numL_at hi
  unfold getA
  rw [ofA_at h1]
  rfl
theorem num_here (h : k < n) : ofA ((numL n).set k (some (newA 2))) ((k : Int) + 1) = some (newA 2) := by
  refine ofA_at ?_
  rw [List.getElem?_set, if_pos rfl, if_pos (by rw [numL_len]; exact h)]
theorem num_slots (h : k < n) : slotsA ((numL n).set k (some (newA 2))) ((k : Int) + 1) = 2 := by unfold slotsA; rw [num_here h]; rfl
theorem num_get (h : k < n) : getA ((numL n).set k (some (newA 2))) ((k : Int) + 1) 1 = 0 := by unfold getA; rw [num_here h]; rfl
end

set_option maxRecDepth 100000 in
set_option maxHeartbeats 4000000 in
theorem num_walk13 {D : World → Nat → Nat → AmL → List Nat → Prop} (H : AmOk D) (w : World) (a b : Int) (ha : okU a) (hb : okU b) :
    Calls Try.prog 7 #[.int .u64 a, .int .u64 b] w fun e w' => e = .returned (.bool true) ∧ w.grownBy w' none := by
  have HLv := Lib.hid (fun wx => lives13 H wx)
  have HT := Lib.hid H
  obtain ⟨m, hm1, hm2⟩ : ∃ m : Nat, a % 20 = m ∧ m < 20 := ⟨(a % 20).toNat, by omega, by omega⟩
  obtain ⟨ha0, ha1⟩ := ha
  obtain ⟨hb0, hb1⟩ := hb
  have hq1 : a.tmod 20 = (m : Int) := by rw [Int.tmod_eq_emod_of_nonneg ha0]; exact hm1
  obtain ⟨n, hn⟩ : ∃ n : Nat, 1 + m = n := ⟨_, rfl⟩
  have hn1 : (1 : Int) + (m : Int) = (n : Int) := by omega
  have hn2 : 1 ≤ n ∧ n ≤ 20 := by omega
  have hq0 := eqlA_ptr_nil
  have HN := Lib.hid (H.new n w (by omega))
  clear H hn
  go_enter Try.func7, Try.ntmps7
  go_wp2_with fail
  refine HN.out.mono ?_
  rintro e w1 ⟨p, O, rfl, h1, g1, o1⟩
  have H1 := Lib.hid (show LA D w w1 p n [] O from ⟨h1, o1, g1⟩)
  clear h1 g1 o1 HN
  go_wp2_with fail
  go_loopw [7] (fun iv wr => ∃ (j : Nat) (O : List Nat), j ≤ n ∧ iv = .int .i64 ((j : Int) + 1) ∧ Hid (LA D w wr p n (numL j) O)) (fun iv _ => n + 1 - (intOf iv).toNat)
  case atStart => exact ⟨0, O, by omega, rfl, H1⟩
  case round =>
    clear H1
    obtain ⟨j, O, hj, rfl, HJ⟩ := hrel
    by_cases hlt : j < n
    · have hk := HT.out.make HJ.out.d 3 (okS (by decide) (by decide))
      rw [num_make hlt] at hk
      have HK := Lib.hid hk
      have hjb : decide ((j : Int) + 1 ≤ (n : Int)) = true := decide_eq_true (by omega)
      clear hk
      go_wp2_with fail
      refine HK.out.mono ?_
      rintro e w2 ⟨rfl, h2⟩
      obtain ⟨O2, h2, -, -⟩ := HJ.out.left h2
      have H2 := Lib.hid h2
      have hk := HT.out.set H2.out.d ((j : Int) + 1) 1 (10 + ((j : Int) + 1)) (okS (by omega) (by omega)) (okS (by decide) (by decide)) (okS (by omega) (by omega))
      rw [num_set] at hk
      have HK2 := Lib.hid hk
      clear hk h2 HK HJ
      go_wp2_with fail
      refine HK2.out.mono ?_
      rintro e w3 ⟨rfl, h3⟩
      obtain ⟨O3, h3, -, -⟩ := H2.out.left h3
      have H3 := Lib.hid h3
      clear h3 HK2 H2
      go_wp2_with fail
      go_roundw
      case rel => exact ⟨j + 1, O3, by omega, by go_num, H3⟩
      case measure => simp [intOf]; omega
    · obtain rfl : j = n := by omega
      have hjb : decide ((j : Int) + 1 ≤ (j : Int)) = false := decide_eq_false (by omega)
      have hk := HT.out.make HJ.out.d 3 (okS (by decide) (by decide))
      rw [num_full] at hk
      have HK := Lib.hid hk
      clear hk
      go_wp2_with fail
      refine HK.out.mono ?_
      rintro e w2 ⟨rfl, h2⟩
      obtain ⟨O2, h2, -, -⟩ := HJ.out.left h2
      have H2 := Lib.hid h2
      obtain ⟨k, hk1, hk2⟩ : ∃ k : Nat, b % (j : Int) = k ∧ k < j := by
        have h1 := Int.emod_nonneg b (show (j : Int) ≠ 0 by omega)
        have h2 := Int.emod_lt_of_pos b (show (0 : Int) < (j : Int) by omega)
        exact ⟨(b % (j : Int)).toNat, by omega, by omega⟩
      have hkm : b.tmod (j : Int) = (k : Int) := by rw [Int.tmod_eq_emod_of_nonneg hb0]; exact hk1
      have hki : (1 : Int) + (k : Int) = (k : Int) + 1 := by omega
      have hk := HT.out.drop H2.out.d ((k : Int) + 1) 0 3 (okS (by omega) (by omega)) (okS (by decide) (by decide)) (okS (by decide) (by decide))
      rw [num_drop hk2] at hk
      have HK3 := Lib.hid hk
      clear hk h2 HK HJ
      go_wp2_with fail
      refine HK3.out.mono ?_
      rintro e w4 ⟨u, rfl, r4, -, h4⟩
      obtain ⟨O4, h4, -, -⟩ := H2.out.left h4
      obtain ⟨su, cu, rfl⟩ := rowOf_form r4
      simp only at r4
      have ga := World.grownBy_alloc w4 (.cells #[.int .i64 (10 + ((k : Int) + 1))] 3 (0, 0)) none
      have h4a := h4.grow HT.out.toStOkA ga
      have hown : ZOwn (w4.alloc (.cells #[.int .i64 (10 + ((k : Int) + 1))] 3 (0, 0))) w4.heap.size (.slice (some ⟨w4.heap.size, 0, none⟩) 1 1) [10 + ((k : Int) + 1)] :=
        ⟨rfl, .inr ⟨w4.heap.size, 1, #[.int .i64 (10 + ((k : Int) + 1))], rfl, Nat.le_refl _, heap_alloc_new w4 _, by show 1 ≤ 1; omega, by unfold maxLen; omega, rfl, rfl⟩⟩
      have HI := Lib.hid (ints_ok cu 1 (rowOf_grow r4 ga) (OwnOf.row hown) (by simp) true (by simp))
      have H4 := Lib.hid h4a
      clear h4 h4a r4 ga hown HK3 H2
      go_wp2_with fail
      refine HI.out.mono ?_
      rintro e w5 ⟨rfl, g5⟩
      have H5 := Lib.hid (H4.out.grow HT.out.toStOkA g5)
      have hk := HT.out.slots H5.out.d ((k : Int) + 1) (okS (by omega) (by omega))
      rw [num_gone hk2] at hk
      have HK5 := Lib.hid hk
      clear hk g5 HI H4
      go_wp2_with fail
      refine HK5.out.mono ?_
      rintro e w6 ⟨rfl, g6⟩
      have H6 := Lib.hid (H5.out.grow HT.out.toStOkA g6)
      have hk := HT.out.make H6.out.d 2 (okS (by decide) (by decide))
      rw [num_again hk2] at hk
      have HK6 := Lib.hid hk
      clear hk g6 HK5 H5
      go_wp2_with fail
      refine HK6.out.mono ?_
      rintro e w7 ⟨rfl, h7⟩
      obtain ⟨O7, h7, -, -⟩ := H6.out.left h7
      have H7 := Lib.hid h7
      clear h7 HK6 H6
      go_wp2_with fail
      go_loopw [17] (fun iv wr => ∃ (i : Nat), i ≤ j ∧ iv = .int .i64 ((i : Int) + 1) ∧ Hid (LA D w wr p j ((numL j).set k (some (newA 2))) O7)) (fun iv _ => j + 1 - (intOf iv).toNat)
      case atStart => exact ⟨0, by omega, rfl, H7⟩
      case round =>
        clear H7
        obtain ⟨i, hi, rfl, HJ⟩ := hrel
        by_cases hlt2 : i < j
        · have hib : decide ((i : Int) + 1 ≤ (j : Int)) = true := decide_eq_true (by omega)
          by_cases hik : i = k
          · subst hik
            have hnb : ((i : Int) + 1 != (i : Int) + 1) = false := by simp
            go_wp2_with fail
            go_roundw
            case rel => exact ⟨i + 1, by omega, by go_num, HJ⟩
            case measure => simp [intOf]; omega
          · have hnb : ((i : Int) + 1 != (k : Int) + 1) = true := by simp; omega
            have hk := HT.out.get HJ.out.d ((i : Int) + 1) 1 (okS (by omega) (by omega)) (okS (by decide) (by decide))
            rw [num_other hk2 hlt2 hik] at hk
            have HK := Lib.hid hk
            clear hk
            go_wp2_with fail
            refine HK.out.mono ?_
            rintro e w8 ⟨rfl, g8⟩
            have H8 := Lib.hid (HJ.out.grow HT.out.toStOkA g8)
            clear g8 HK HJ
            go_wp2_with fail
            go_roundw
            case rel => exact ⟨i + 1, by omega, by go_num, H8⟩
            case measure => simp [intOf]; omega
        · obtain rfl : i = j := by omega
          have hib : decide ((i : Int) + 1 ≤ (i : Int)) = false := decide_eq_false (by omega)
          have hk := HT.out.slots HJ.out.d ((k : Int) + 1) (okS (by omega) (by omega))
          rw [num_slots hk2] at hk
          have HK := Lib.hid hk
          clear hk
          go_wp2_with fail
          refine HK.out.mono ?_
          rintro e w8 ⟨rfl, g8⟩
          have H8 := Lib.hid (HJ.out.grow HT.out.toStOkA g8)
          have hk := HT.out.get H8.out.d ((k : Int) + 1) 1 (okS (by omega) (by omega)) (okS (by decide) (by decide))
          rw [num_get hk2] at hk
          have HK8 := Lib.hid hk
          clear hk g8 HK HJ
          go_wp2_with fail
          refine HK8.out.mono ?_
          rintro e w9 ⟨rfl, g9⟩
          have HG9 := Lib.hid (grown_trans H8.out.grown g9)
          clear g9 HK8 H8
          go_wp2_with fail
          refine (HLv.out _).mono ?_
          rintro e w10 ⟨rfl, g10⟩
          have HG := Lib.hid (grown_trans HG9.out g10)
          clear g10
          go_wp2_with fail
          go_ret
          exact ⟨rfl, HG.out⟩
end Go.Proofs.Ytfmihbiongnpnaa
