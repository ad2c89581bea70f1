/- AnonPlaces, walked out of what package anon says. -/
import Derived.Test.YtpiemnffbcgbmaaNOk
namespace Go.Proofs.Ytpiemnffbcgbmaa
open Go.ChangeShapes Go.WideShapes Go.ChangeAt Go.RowKit Go.Deep
set_option linter.unusedVariables false

theorem neq_an (w : World) (a b c d e f : Int) (t : Bool) (h : decide (¬ (a = d ∧ b = e ∧ c = f)) = t) : (binOp .neq 36 (.agg #[.int .i64 a, .int .i64 b, .int .i64 c]) (.agg #[.int .i64 d, .int .i64 e, .int .i64 f])).run Try.prog w = .ok (.bool t) w := by
  subst h
  go_simp
  by_cases h1 : a = d <;> by_cases h2 : b = e <;> by_cases h3 : c = f <;> simp [h1, h2, h3]
section
variable {f s : Int} {x y : AnV}
theorem pl1 : makeN 4 [] f = ⟨1, 0, [⟨1, f, -1⟩]⟩ := rfl
theorem pl2 : makeN 4 [⟨1, f, -1⟩] s = ⟨2, 0, [⟨1, f, -1⟩, ⟨1, s, -1⟩]⟩ := rfl
theorem get_one (h : x.re ≠ 0) : getN [x, y] 1 = some x := by
  unfold getN
  rw [if_pos (by simp)]
  exact if_neg h
theorem get_two (h : y.re ≠ 0) : getN [x, y] 2 = some y := by
  unfold getN
  rw [if_pos (by simp)]
  exact if_neg h
theorem get_gone (h : x.re = 0) : getN [x, y] 1 = none := by
  unfold getN
  rw [if_pos (by simp)]
  exact if_pos h
theorem pl3 (n : Nat) (hn : n < 1000) : refN [⟨1, f, -1⟩, y] 1 n = ⟨⟨(n : Int) + 1, f, -1⟩, 0, [⟨(n : Int) + 1, f, -1⟩, y]⟩ := by
  unfold refN
  rw [get_one (by show (1 : Int) ≠ 0; decide)]
  simp only
  rw [if_pos (by unfold mayN; omega), show (1 : Int) + n = (n : Int) + 1 by omega]
  rfl
theorem pl4 (n : Nat) : putN [⟨(n : Int) + 1, f, -1⟩, y] 1 s f = ⟨0, 0, [⟨(n : Int) + 1, s, f⟩, y]⟩ := by
  unfold putN
  rw [get_one (by show (n : Int) + 1 ≠ 0; omega)]
  rfl
theorem pl5 (n : Nat) (hn : n < 1000) : refN [⟨(n : Int) + 1, s, f⟩, y] 1 (-(n : Int) - 1) = ⟨⟨0, s, f⟩, 0, [⟨0, s, f⟩, y]⟩ := by
  unfold refN
  rw [get_one (by show (n : Int) + 1 ≠ 0; omega)]
  simp only
  rw [if_pos (by unfold mayN; omega), show (n : Int) + 1 + (-(n : Int) - 1) = 0 by omega]
  rfl
end
/-- A box that the law laid, beside the pool. -/
theorem AB.turn {w w' : World} {y : Nat} {t : TypeId} {x : AnV} {O : List Nat} (h : AB w y t x) (g : Turn O w w') (ho : y ∉ O) : AB w' y t x := (g.block _ h.lt ho).trans h

set_option maxRecDepth 100000 in
set_option maxHeartbeats 8000000 in
theorem places_walk12 {D : World → Nat → Nat → List AnV → List Nat → Prop} (H : NaOk D) (w : World) (f s r : Int) (hf : okI f) (hs : okI s) (hr : okU r) :
    Calls Try.prog 7 #[.int .i64 f, .int .i64 s, .int .u64 r] w fun e w' => e = .returned (.bool true) ∧ w.grownBy w' none := by
  have HLv := Lib.hid (fun wx => lives12 H wx)
  have HN := Lib.hid (H.new 4 w (by decide))
  have HT := Lib.hid H
  obtain ⟨n, hn1, hn2⟩ : ∃ n : Nat, r % 1000 = n ∧ n < 1000 := ⟨(r % 1000).toNat, by omega, by omega⟩
  obtain ⟨hr0, hr1⟩ := hr
  have hq1 : r.tmod 1000 = (n : Int) := by rw [Int.tmod_eq_emod_of_nonneg hr0]; exact hn1
  have HF := Lib.hid hf
  have HS := Lib.hid hs
  clear H hf hs
  go_enter Try.func7, Try.ntmps7
  go_wp2_with fail
  refine HN.out.mono ?_
  rintro e w1 ⟨p, O, rfl, h1, g1, o1⟩
  have H1 := Lib.hid (show LN D w w1 p 4 [] O from ⟨h1, o1, g1⟩)
  have hk := HT.out.make H1.out.d f HF.out
  rw [pl1] at hk
  have HK := Lib.hid hk
  clear hk h1 g1 o1 HN
  go_wp2_with fail
  refine HK.out.mono ?_
  rintro e w2 ⟨rfl, h2⟩
  obtain ⟨O2, h2, -, -⟩ := H1.out.left h2
  have H2 := Lib.hid h2
  have hk := HT.out.make H2.out.d s HS.out
  rw [pl2] at hk
  have HK2 := Lib.hid hk
  clear hk h2 HK H1
  go_wp2_with fail
  refine HK2.out.mono ?_
  rintro e w3 ⟨rfl, h3⟩
  obtain ⟨O3, h3, -, -⟩ := H2.out.left h3
  have H3 := Lib.hid h3
  have hk := HT.out.ref H3.out.d 1 n (okS (by decide) (by decide)) (okS (by omega) (by omega))
  rw [pl3 n hn2] at hk
  unfold ansN anAgg at hk
  have HK3 := Lib.hid hk
  clear hk h3 HK2 H2
  go_wp2_with fail
  refine HK3.out.mono ?_
  rintro e w4 ⟨rfl, h4⟩
  obtain ⟨O4, h4, -, -⟩ := H3.out.left h4
  have H4 := Lib.hid (h4.grow HT.out.toStOkN (World.grownBy_alloc w4 (.cells #[.int .i64 ((n : Int) + 1), .int .i64 f, .int .i64 (-1)] 36 (0, 0)) none))
  have hk := HT.out.put H4.out.d 1 s f (okS (by decide) (by decide)) HS.out HF.out
  rw [pl4 n] at hk
  have HK4 := Lib.hid hk
  have hq2 := fun wx => neq_an wx ((n : Int) + 1) f (-1) ((n : Int) + 1) f (-1) false (by simp)
  clear hk h4 HK3 H3
  go_wp2_with fail
  refine HK4.out.mono ?_
  rintro e w5 ⟨rfl, h5⟩
  obtain ⟨O5, h5, -, -⟩ := H4.out.left h5
  have H5 := Lib.hid h5
  have hk := HT.out.get H5.out.d 1 (okS (by decide) (by decide))
  rw [get_one (by show (n : Int) + 1 ≠ 0; omega)] at hk
  unfold getVN anAgg at hk
  have HK5 := Lib.hid hk
  clear hk h5 HK4 H4
  go_wp2_with fail
  refine HK5.out.mono ?_
  rintro e w6 ⟨rfl, g6⟩
  have hlt5 : ∀ b, b ∈ O5 → b < w6.heap.size := fun b hb => Nat.lt_of_lt_of_le (HT.out.lt H5.out.d b hb) g6.size
  have hbw : ∃ wB, w6.alloc (.cells #[.int .i64 ((n : Int) + 1), .int .i64 s, .int .i64 f] 36 (0, 0)) = wB := ⟨_, rfl⟩
  obtain ⟨wB, hwB⟩ := hbw
  have H6 := Lib.hid (show LN D w wB p 4 _ O5 by rw [← hwB]; exact (H5.out.grow HT.out.toStOkN g6).grow HT.out.toStOkN (World.grownBy_alloc w6 _ none))
  have HB6 := Lib.hid (show AB wB w6.heap.size 36 ⟨(n : Int) + 1, s, f⟩ by rw [← hwB]; exact AB.new w6 _ ⟨(n : Int) + 1, s, f⟩)
  have HL5 := Lib.hid hlt5
  have hk := HT.out.get H6.out.d 2 (okS (by decide) (by decide))
  rw [get_two (by show (1 : Int) ≠ 0; decide)] at hk
  unfold getVN anAgg at hk
  have HK6 := Lib.hid hk
  clear hk g6 hlt5 HK5 H5
  go_wp2_with fail
  clear hwB
  have HY6 := Lib.hid (show w6.heap.size < wB.heap.size from HB6.out.lt)
  generalize w6.heap.size = y6 at *
  refine HK6.out.mono ?_
  rintro e w7 ⟨rfl, g7⟩
  have hbw : ∃ wC, w7.alloc (.cells #[.int .i64 1, .int .i64 s, .int .i64 (-1)] 36 (0, 0)) = wC := ⟨_, rfl⟩
  obtain ⟨wC, hwC⟩ := hbw
  have H7 := Lib.hid (show LN D w wC p 4 _ O5 by rw [← hwC]; exact (H6.out.grow HT.out.toStOkN g7).grow HT.out.toStOkN (World.grownBy_alloc w7 _ none))
  have HB7 := Lib.hid (show AB wC y6 36 ⟨(n : Int) + 1, s, f⟩ by rw [← hwC]; exact (HB6.out.grow g7).grow (World.grownBy_alloc w7 _ none))
  have HC7 := Lib.hid (show AB wC w7.heap.size 36 ⟨1, s, -1⟩ by rw [← hwC]; exact AB.new w7 _ ⟨1, s, -1⟩)
  have HY7 := Lib.hid (show y6 < w7.heap.size by have := HY6.out; have := g7.size; omega)
  have hk := HT.out.ref H7.out.d 1 (-(n : Int) - 1) (okS (by decide) (by decide)) (okS (by omega) (by omega))
  rw [pl5 n hn2] at hk
  unfold ansN anAgg at hk
  have HK7 := Lib.hid hk
  clear hk g7 HK6 H6 HB6
  go_wp2_with fail
  clear hwC
  generalize w7.heap.size = y7 at *
  refine HK7.out.mono ?_
  rintro e w8 ⟨rfl, h8⟩
  obtain ⟨O8, h8, t8, -⟩ := H7.out.left h8
  have n6 : y6 ∉ O5 := fun hm => by have := HL5.out y6 hm; omega
  have n7 : y7 ∉ O5 := fun hm => by have := HL5.out y7 hm; have := HY7.out; omega
  have hbw : ∃ wE, w8.alloc (.cells #[.int .i64 0, .int .i64 s, .int .i64 f] 36 (0, 0)) = wE := ⟨_, rfl⟩
  obtain ⟨wE, hwE⟩ := hbw
  have ga := World.grownBy_alloc w8 (.cells #[.int .i64 0, .int .i64 s, .int .i64 f] 36 (0, 0)) none
  have H8 := Lib.hid (show LN D w wE p 4 _ O8 by rw [← hwE]; exact h8.grow HT.out.toStOkN ga)
  have HB8 := Lib.hid (show AB wE y6 36 ⟨(n : Int) + 1, s, f⟩ by rw [← hwE]; exact (HB7.out.turn t8 n6).grow ga)
  have HC8 := Lib.hid (show AB wE y7 36 ⟨1, s, -1⟩ by rw [← hwE]; exact (HC7.out.turn t8 n7).grow ga)
  have HE8 := Lib.hid (show AB wE w8.heap.size 36 ⟨0, s, f⟩ by rw [← hwE]; exact AB.new w8 _ ⟨0, s, f⟩)
  have hk := HT.out.get H8.out.d 1 (okS (by decide) (by decide))
  rw [get_gone rfl] at hk
  unfold getVN anAgg zeroN at hk
  have HK8 := Lib.hid hk
  clear hk h8 t8 n6 n7 ga HK7 H7 HB7 HC7 HY7 HL5
  go_wp2_with fail
  clear hwE
  generalize w8.heap.size = y8 at *
  refine HK8.out.mono ?_
  rintro e w9 ⟨rfl, g9⟩
  have ga := World.grownBy_alloc w9 (.cells #[.int .i64 0, .int .i64 0, .int .i64 0] 36 (0, 0)) none
  have H9 := Lib.hid ((H8.out.grow HT.out.toStOkN g9).grow HT.out.toStOkN ga)
  obtain ⟨a0, a1, a2⟩ := ((HB8.out.grow g9).grow ga).at
  obtain ⟨b0, b1, b2⟩ := ((HC8.out.grow g9).grow ga).at
  obtain ⟨c0, c1, c2⟩ := ((HE8.out.grow g9).grow ga).at
  simp only at a0 a1 a2 b0 b1 b2 c0 c1 c2
  have HSm := Lib.hid (HT.out.sum H9.out.d)
  rw [show sumN [⟨0, s, f⟩, ⟨1, s, -1⟩] = 1 from rfl] at HSm
  have hq3 := fun wx => eql_an wx ((n : Int) + 1) s f ((n : Int) + 1) s f true (by simp)
  have hq4 := fun wx => eql_an wx 1 s (-1) 1 s (-1) true (by simp)
  have hq5 := fun wx => eql_an wx 0 s f 0 s f true (by simp)
  clear g9 ga HK8 H8 HB8 HC8 HE8
  go_wp2_with fail
  refine HSm.out.mono ?_
  rintro e w10 ⟨rfl, g10⟩
  have HG10 := Lib.hid (grown_trans H9.out.grown g10)
  clear g10 a0 a1 a2 b0 b1 b2 c0 c1 c2 HSm H9
  go_wp2_with fail
  refine (HLv.out _).mono ?_
  rintro e w11 ⟨rfl, g11⟩
  have HG11 := Lib.hid (grown_trans HG10.out g11)
  clear g11
  go_wp2_with fail
  go_ret
  exact ⟨rfl, HG11.out⟩
end Go.Proofs.Ytpiemnffbcgbmaa
