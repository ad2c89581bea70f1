/- TlbEldest, walked out of what package tlb says: it answers true, and nothing that was there has turned. -/
import Derived.Test.YtmddflhacamnaaaTOk
namespace Go.Proofs.Ytmddflhacamnaaa
open Go.ChangeShapes Go.WideShapes Go.ChangeAt Go.RowKit
set_option linter.unusedVariables false

def elK (k : Nat) : KeptV := ⟨1, k, 0, k⟩
def elL (n i : Nat) : List KeptV := ((List.range i).drop (i - n)).map elK
theorem elL_len (n i : Nat) : (elL n i).length = i - (i - n) := by unfold elL; simp
theorem elL_at (n i j : Nat) (h : j < i - (i - n)) : (elL n i)[j]? = some (elK (i - n + j)) := by
  unfold elL
  rw [List.getElem?_map, List.getElem?_drop, List.getElem?_range (by omega)]
  rfl
theorem elL_put (n i : Nat) : putL n (elL n i) (elK i) = elL n (i + 1) := by
  have hb : ∀ j z, j < (elL n i).length → (elL n i)[j]? = some z → sameK (elK i).a (elK i).v z = false := by
    intro j z hj hz
    rw [elL_len] at hj
    rw [elL_at n i j hj] at hz
    cases hz
    rw [same_iff]
    apply decide_eq_false
    intro ⟨_, h2⟩
    have : ((i - n + j : Nat) : Int) = (i : Int) := h2
    omega
  rw [put_new hb, elL_len]
  have hr : ∀ k, (List.range (i + 1)).drop k = if k ≤ i then (List.range i).drop k ++ [i] else [] := by
    intro k
    rw [List.range_succ]
    split
    · rw [List.drop_append_of_le_length (by simpa using by omega)]
    · exact List.drop_of_length_le (by simp; omega)
  split
  · rename_i h
    unfold elL
    by_cases hn : n = 0
    · subst hn
      rw [List.drop_of_length_le (by simp), List.drop_of_length_le (by simp), ]
      simp
    · have e : i + 1 - n = i - n + 1 := by omega
      rw [e, ← List.drop_drop, hr (i - n), if_pos (by omega)]
      simp only [List.map_drop, List.map_append, List.map_cons, List.map_nil]
  · rename_i h
    unfold elL
    have e : i + 1 - n = 0 := by omega
    have e2 : i - n = 0 := by omega
    rw [e, e2, hr 0, if_pos (by omega), List.map_append]
    rfl
theorem elK_ok (k : Nat) (h : k < 1000) : okKey (elK k) := ⟨(show okI 1 from ⟨by decide, by decide⟩), (show okI (k : Int) from ⟨by omega, by omega⟩)⟩
theorem el_drop2 (n i : Nat) : dropK (fun x => x.a == 2) (elL n i) = elL n i := by
  unfold dropK
  refine List.filter_eq_self.2 fun x hx => ?_
  unfold elL at hx
  obtain ⟨k, _, rfl⟩ := List.mem_map.1 hx
  rfl
theorem el_drop1 (n i : Nat) : dropK (fun x => x.a == 1) (elL n i) = [] := by
  unfold dropK
  refine List.filter_eq_nil_iff.2 fun x hx => ?_
  unfold elL at hx
  obtain ⟨k, _, rfl⟩ := List.mem_map.1 hx
  simp [elK]

/-- A key of a row, by its cells. -/
theorem key_cells {w : World} {v : Value} {xs : List KeptV} (h : RowOf keyCells 2 w v xs) {j : Nat} {y : KeptV} (hy : xs[j]? = some y) :
    ∃ g o c, v = .slice (some ⟨g, o, none⟩) xs.length c ∧ w.cell? ⟨g, o + j * 2, none⟩ = some (.int .i64 y.a) ∧ w.cell? ⟨g, o + j * 2 + 1, none⟩ = some (.int .i64 y.v) := by
  obtain ⟨g, o, c, hv, hc⟩ := h.at key_len hy
  exact ⟨g, o, c, hv, hc 0 _ rfl, by have := hc 1 _ rfl; rwa [← Nat.add_assoc] at this⟩

set_option maxRecDepth 100000 in
set_option maxHeartbeats 4000000 in
theorem eldest_walk {T : World → Nat → Int → List KeptV → List Nat → Prop} (H : TlbOk T) (w : World) (size many : Int) (hs : okU size) (hm : okU many) :
    Calls Try.prog 5 #[.int .u64 size, .int .u64 many] w fun e w' => e = .returned (.bool true) ∧ w.grownBy w' none := by
  obtain ⟨n, hn⟩ : ∃ n : Nat, size % 30 = (n : Int) := Int.eq_ofNat_of_zero_le (by omega)
  obtain ⟨m, hmm⟩ : ∃ m : Nat, many % 60 = (m : Int) := Int.eq_ofNat_of_zero_le (by omega)
  have hn30 : n < 30 := by omega
  have hm60 : m < 60 := by omega
  have HLv := Lib.hid (lives5 H)
  have HN := Lib.hid (H.new w n (by omega) (by omega))
  have HT := Lib.hid H
  have hs0 := hs.1
  have hs1 := hs.2
  have hm0 := hm.1
  have hm1 := hm.2
  clear H hs hm
  go_enter Try.func5, Try.ntmps5
  go_wp2_with fail
  refine HN.out.mono ?_
  rintro e w1 ⟨p, O, rfl, h1, g1, o1⟩
  have hq := eql_ptr_nil w1 ⟨p, 0, none⟩
  have H1 := Lib.hid h1
  have G1 := Lib.hid g1
  have O1 := Lib.hid o1
  clear h1 g1 o1
  go_wp2_with fail
  go_loopw [8] (fun i wr => ∃ (j : Nat) (O' : List Nat), j ≤ m ∧ i = .int .i64 j ∧ Hid (T wr p n (elL n j) O') ∧ Hid (w.grownBy wr none) ∧ Hid (∀ b, b ∈ O' → w.heap.size ≤ b)) (fun i _ => m - (intOf i).toNat)
  case atStart => exact ⟨0, O, by omega, rfl, Lib.hid (show T w1 p n (elL n 0) O by rw [show elL n 0 = [] by simp [elL]]; exact H1.out), G1, O1⟩
  case round =>
    obtain ⟨j, O', hj, rfl, HTr, HG, HO⟩ := hrel
    by_cases hlt : j < m
    · have HPut := Lib.hid (HT.out.put HTr.out (elK j) (elK_ok j (by omega)))
      have HE := Lib.hid (elL_put n j)
      go_wp2_with fail
      refine HPut.out.mono ?_
      rintro e w2 ⟨rfl, O2, h2, g2, o2⟩
      rw [HE.out] at h2
      have H2 := Lib.hid h2
      have G2 := Lib.hid (((Turn.grown HG.out).trans' g2).noGrown HO.out)
      have O2' := Lib.hid (show ∀ b, b ∈ O2 → w.heap.size ≤ b from fun b hb => by
        rcases o2 b hb with h3 | h3
        · exact HO.out b h3
        · have := HG.out.size; omega)
      clear h2 g2 o2
      go_wp2_with fail
      go_roundw
      case rel => exact ⟨j + 1, O2, by omega, by go_num, H2, G2, O2'⟩
      case measure => simp [intOf]; omega
    · obtain rfl : m = j := by omega
      by_cases hmn : m < n
      · have d0 : decide ((m : Int) - (n : Int) < 0) = true := by simp; omega
        have d1 : decide ((m : Int) < (n : Int)) = true := by simp; omega
        have d2 : decide (m < n) = true := by simp; omega
        have hff : m - n = 0 := by omega
        have HTe := Lib.hid (HT.out.grow HTr.out (grown_refl _ _))
        have hlen : (elL n m).length = m := by rw [elL_len]; omega
        have HLen := Lib.hid hlen
        have HAt := Lib.hid (fun j (hj : j < m) => show (elL n m)[j]? = some (elK j) by rw [elL_at n m j (by omega), hff, Nat.zero_add])
        have HD2 := Lib.hid (el_drop2 n m)
        have HD1 := Lib.hid (el_drop1 n m)
        have HK := Lib.hid (HT.out.keys HTr.out)
        generalize hxs : elL n m = xs at *
        have em : (m : Int) = (xs.length : Int) := by have := HLen.out; omega
        clear hxs hlen
        go_wp2_with fail
        refine HK.out.mono ?_
        rintro e w2 ⟨v, rfl, hrow, g2, _⟩
        obtain ⟨sv, cv, hsv⟩ := hrow.form
        subst hsv
        have HROW := Lib.hid hrow
        have HG2 := Lib.hid g2
        clear hrow g2
        go_wp2_with fail
        go_loopw [49] (fun i wr => ∃ j : Nat, j ≤ xs.length ∧ i = .int .i64 j ∧ Hid (w2.grownBy wr none)) (fun i _ => xs.length - (intOf i).toNat)
        case atStart => exact ⟨0, by omega, rfl, grown_refl _ _⟩
        case round =>
          obtain ⟨j, hj, rfl, HG3⟩ := hrel
          by_cases hlt2 : j < xs.length
          · have hy := HAt.out j (by have := HLen.out; omega)
            obtain ⟨g, o, c, hsl, k0, k1⟩ := key_cells (HROW.out.grow HG3.out) hy
            injection hsl with e1 e2 e3
            subst e1 e3
            have ga := World.grownBy_alloc wr (.cells #[.int .i64 1, .int .i64 (j : Int)] 29) none
            have k1' : wr.cell? ⟨g, o + j * 2 + 1, none⟩ = some (.int .i64 (j : Int)) := by rw [k1]; rfl
            have k0' : wr.cell? ⟨g, o + j * 2, none⟩ = some (.int .i64 1) := k0
            obtain ⟨b0, b1⟩ := (TwoB.new wr 29 (.int .i64 1) (.int .i64 (j : Int))).at
            have HG4 := Lib.hid (grown_trans HG3.out ga)
            clear k0 k1 hy ga
            go_wp2_with fail
            go_roundw
            case rel => exact ⟨j + 1, by omega, by go_num, HG4⟩
            case measure => simp [intOf]; omega
          · obtain rfl : j = xs.length := by omega
            have HT3 := Lib.hid (HT.out.grow (HT.out.grow HTr.out HG2.out) HG3.out)
            have HG4 := Lib.hid (grown_trans (grown_trans HG.out HG2.out) HG3.out)
            have hf2 := HT.out.flushAsid HT3.out 2 ⟨by decide, by decide⟩
            rw [HD2.out, Int.sub_self] at hf2
            have HF2 := Lib.hid hf2
            clear hf2
            go_wp2_with fail
            refine HF2.out.mono ?_
            rintro e w3 ⟨rfl, O3, h3, g3, o3⟩
            have HT4 := Lib.hid h3
            have hgw := HG4.out.size
            have HO3 := Lib.hid (show ∀ b, b ∈ O3 → w.heap.size ≤ b from fun b hb => by
              rcases o3 b hb with h4 | h4
              · exact HO.out b h4
              · omega)
            have HG5 := Lib.hid (((Turn.grown HG4.out).trans' g3).noGrown HO.out)
            have hf1 := HT.out.flushAsid HT4.out 1 ⟨by decide, by decide⟩
            rw [HD1.out, List.length_nil, Int.natCast_zero, Int.sub_zero] at hf1
            have HF1 := Lib.hid hf1
            clear hf1 h3 g3 o3
            go_wp2_with fail
            refine HF1.out.mono ?_
            rintro e w4 ⟨rfl, O4, h4, g4, o4⟩
            have HLn := Lib.hid (show Calls Try.prog 22 #[.pointer (some ⟨p, 0, none⟩)] w4 fun e w' => e = .returned (.int .i64 0) ∧ w4.grownBy w' none from HT.out.len h4)
            have HG6 := Lib.hid (((Turn.grown HG5.out).trans' g4).noGrown HO3.out)
            clear h4 g4 o4
            go_wp2_with fail
            refine HLn.out.mono ?_
            rintro e w5 ⟨rfl, g5⟩
            have HG7 := Lib.hid (grown_trans HG6.out g5)
            clear g5
            go_wp2_with fail
            refine (HLv.out _).mono ?_
            rintro e w6 ⟨rfl, g6⟩
            have HG8 := Lib.hid (grown_trans HG7.out g6)
            clear g6
            go_wp2_with fail
            go_ret
            exact ⟨rfl, HG8.out⟩
      · obtain ⟨f, hf⟩ : ∃ f : Nat, f = m - n := ⟨_, rfl⟩
        have d0 : decide ((m : Int) - (n : Int) < 0) = false := by simp; omega
        have d1 : decide ((m : Int) < (n : Int)) = false := by simp; omega
        have d2 : decide (m < n) = false := by simp; omega
        have hff : m - n = f := by omega
        have hfb : f < 60 := by omega
        clear hf
        have HTe := Lib.hid (HT.out.grow HTr.out (grown_refl _ _))
        have hlen : (elL n m).length = m - f := by rw [elL_len]; omega
        have HLen := Lib.hid hlen
        have HAt := Lib.hid (fun j (hj : j < m - f) => show (elL n m)[j]? = some (elK (f + j)) by rw [elL_at n m j (by omega), show m - n = f by omega])
        have HD2 := Lib.hid (el_drop2 n m)
        have HD1 := Lib.hid (el_drop1 n m)
        have HK := Lib.hid (HT.out.keys HTr.out)
        generalize hxs : elL n m = xs at *
        have em2 : (n : Int) = (xs.length : Int) := by have := HLen.out; omega
        clear hxs hlen
        go_wp2_with fail
        refine HK.out.mono ?_
        rintro e w2 ⟨v, rfl, hrow, g2, _⟩
        obtain ⟨sv, cv, hsv⟩ := hrow.form
        subst hsv
        have HROW := Lib.hid hrow
        have HG2 := Lib.hid g2
        clear hrow g2
        go_wp2_with fail
        go_loopw [49] (fun i wr => ∃ j : Nat, j ≤ xs.length ∧ i = .int .i64 j ∧ Hid (w2.grownBy wr none)) (fun i _ => xs.length - (intOf i).toNat)
        case atStart => exact ⟨0, by omega, rfl, grown_refl _ _⟩
        case round =>
          obtain ⟨j, hj, rfl, HG3⟩ := hrel
          by_cases hlt2 : j < xs.length
          · have hy := HAt.out j (by have := HLen.out; omega)
            obtain ⟨g, o, c, hsl, k0, k1⟩ := key_cells (HROW.out.grow HG3.out) hy
            injection hsl with e1 e2 e3
            subst e1 e3
            have ga := World.grownBy_alloc wr (.cells #[.int .i64 1, .int .i64 ((m : Int) - (xs.length : Int) + (j : Int))] 29) none
            have k1' : wr.cell? ⟨g, o + j * 2 + 1, none⟩ = some (.int .i64 ((m : Int) - (xs.length : Int) + (j : Int))) := by rw [k1]; show some (Value.int .i64 ((f + j : Nat) : Int)) = _; congr 2; have := HLen.out; omega
            have k0' : wr.cell? ⟨g, o + j * 2, none⟩ = some (.int .i64 1) := k0
            obtain ⟨b0, b1⟩ := (TwoB.new wr 29 (.int .i64 1) (.int .i64 ((m : Int) - (xs.length : Int) + (j : Int)))).at
            have HG4 := Lib.hid (grown_trans HG3.out ga)
            clear k0 k1 hy ga
            go_wp2_with fail
            go_roundw
            case rel => exact ⟨j + 1, by omega, by go_num, HG4⟩
            case measure => simp [intOf]; omega
          · obtain rfl : j = xs.length := by omega
            have HT3 := Lib.hid (HT.out.grow (HT.out.grow HTr.out HG2.out) HG3.out)
            have HG4 := Lib.hid (grown_trans (grown_trans HG.out HG2.out) HG3.out)
            have hf2 := HT.out.flushAsid HT3.out 2 ⟨by decide, by decide⟩
            rw [HD2.out, Int.sub_self] at hf2
            have HF2 := Lib.hid hf2
            clear hf2
            go_wp2_with fail
            refine HF2.out.mono ?_
            rintro e w3 ⟨rfl, O3, h3, g3, o3⟩
            have HT4 := Lib.hid h3
            have hgw := HG4.out.size
            have HO3 := Lib.hid (show ∀ b, b ∈ O3 → w.heap.size ≤ b from fun b hb => by
              rcases o3 b hb with h4 | h4
              · exact HO.out b h4
              · omega)
            have HG5 := Lib.hid (((Turn.grown HG4.out).trans' g3).noGrown HO.out)
            have hf1 := HT.out.flushAsid HT4.out 1 ⟨by decide, by decide⟩
            rw [HD1.out, List.length_nil, Int.natCast_zero, Int.sub_zero] at hf1
            have HF1 := Lib.hid hf1
            clear hf1 h3 g3 o3
            go_wp2_with fail
            refine HF1.out.mono ?_
            rintro e w4 ⟨rfl, O4, h4, g4, o4⟩
            have HLn := Lib.hid (show Calls Try.prog 22 #[.pointer (some ⟨p, 0, none⟩)] w4 fun e w' => e = .returned (.int .i64 0) ∧ w4.grownBy w' none from HT.out.len h4)
            have HG6 := Lib.hid (((Turn.grown HG5.out).trans' g4).noGrown HO3.out)
            have hs3 : (m : Int) - ((m : Int) - (xs.length : Int)) = (xs.length : Int) := by omega
            clear h4 g4 o4 d0 d1 d2 hff hfb hmn
            go_wp2_with fail
            refine HLn.out.mono ?_
            rintro e w5 ⟨rfl, g5⟩
            have HG7 := Lib.hid (grown_trans HG6.out g5)
            clear g5
            go_wp2_with fail
            refine (HLv.out _).mono ?_
            rintro e w6 ⟨rfl, g6⟩
            have HG8 := Lib.hid (grown_trans HG7.out g6)
            clear g6
            go_wp2_with fail
            go_ret
            exact ⟨rfl, HG8.out⟩
end Go.Proofs.Ytmddflhacamnaaa
