/- SpreadZeros, walked out of what package spread says. -/
import Derived.Test.YtohealhkgmagmaaJZk
namespace Go.Proofs.Ytohealhkgmagmaa
open Go.ChangeShapes Go.WideShapes Go.ChangeAt Go.RowKit Go.Deep
set_option linter.unusedVariables false
set_option linter.unusedSimpArgs false

set_option maxRecDepth 100000 in
set_option maxHeartbeats 8000000 in
theorem zeros_walk11 {D : World → Nat → List Int → List Nat → Prop} (H : SpOk D) (w : World) (n0 : Int) (sa : Option Addr) (l c : Nat) (As : List JActV) (hA : JActsAre w sa l As) (hn : okU n0) :
    Calls Try.prog 7 #[.int .u64 n0, .slice sa l c] w fun e w' => e = .returned (.bool true) ∧ w.grownBy w' none := by
  have HLv := Lib.hid (fun wx => lives11 H wx)
  have HT := Lib.hid H
  have q1 := eql_ptr_nil
  have q2 := neq_ptr_nil
  obtain ⟨k0, hk0⟩ : ∃ k : Nat, n0 % 40 = k := Int.eq_ofNat_of_zero_le (by omega)
  obtain ⟨k, hk⟩ : ∃ k : Nat, 1 + (k0 : Int) = k := ⟨1 + k0, by omega⟩
  have k1 : k ≤ 40 := by omega
  have k2 : 1 ≤ k := by omega
  have n1 := hn.1
  have n2 := hn.2
  have HA := Lib.hid hA
  have HN := Lib.hid (fun wx => H.new k wx (by omega))
  have HZ := Lib.hid (JOk.zeros (k := k) (by omega))
  clear H hA hn
  go_enter Try.func7, Try.ntmps7
  go_wp2_with fail
  refine (HN.out _).mono ?_
  rintro e w2 ⟨p, O, rfl, h2, g2, o2⟩
  have H2 := Lib.hid (show LJ D w w2 p (List.replicate k 0) O from ⟨h2, o2, g2, HZ.out⟩)
  clear h2 g2 o2
  go_wp2_with fail
  refine (HN.out _).mono ?_
  rintro e w3 ⟨q, P, rfl, h3, g3, o3⟩
  have HZ0 := Lib.hid (show ZK D w w3 p q (List.replicate k 0) (List.replicate k 0) O P (.slice none 0 0) [] from ⟨Two.make HT.out.toStOk HT.out.toStOk H2.out g3 h3 o3 HZ.out, OwnOf.nil _ _, (fun b e => by cases e), fun b e => by cases e⟩)
  clear h3 g3 o3 HN H2
  by_cases hc : l ≤ 40
  · have d1 : decide ((l : Int) > 40) = false := decide_eq_false (by omega)
    generalize hL0 : List.replicate k (0 : Int) = L0 at *
    go_wp2_with fail
    clear q1 q2 d1
    go_loopw [8, 55] (fun uv iv wr => ∃ j : Nat, j ≤ l ∧ iv = .int .i64 j ∧ Hid (ZK D w wr p q L0 L0 O P uv ((As.take j).map (upJ k)))) (fun _ iv _ => l - (intOf iv).toNat)
    case atStart => exact ⟨0, by omega, rfl, HZ0.out⟩
    case round =>
      clear HZ0
      obtain ⟨j, hj2, rfl, HJ⟩ := hrel
      by_cases hlt : j < l
      · obtain ⟨B, hBj⟩ : ∃ B, As[j]? = some B := ⟨_, List.getElem?_eq_getElem (by rw [HA.out.len]; exact hlt)⟩
        have HOb := Lib.hid (HA.out.ok B (List.mem_of_getElem? hBj))
        obtain ⟨b, o, hs, a0, a1, a2, a3⟩ := HA.out.at HJ.out.two.one.grown hBj
        subst hs
        have hup : (As.take (j + 1)).map (upJ k) = (As.take j).map (upJ k) ++ [upJ k B] := by rw [takel_at hBj, List.map_append]; rfl
        have HUp := Lib.hid hup
        have HUo := Lib.hid (upJ_ok k2 B)
        have HUl := Lib.hid (show ((As.take j).map (upJ k)).length = j by rw [List.length_map, List.length_take, HA.out.len]; omega)
        have ga := World.grownBy_alloc wr (.cells #[.int .i64 B.lo, .int .i64 B.hi, .int .i64 B.by_, .bool B.gr] 29 (0, 0)) none
        have hb2 := JActB.new wr B
        have HJ2 := Lib.hid (HJ.out.grow HT.out.toStOk ga)
        obtain ⟨vu, cu, hvu⟩ := OwnOf.form HJ.out.up
        rw [HUl.out] at hvu
        subst hvu
        clear hBj hup
        obtain ⟨lo, hi, by_, gr⟩ := B
        simp only at a0 a1 a2 a3 hb2 ga
        generalize hwB : wr.alloc (.cells #[.int .i64 lo, .int .i64 hi, .int .i64 by_, .bool gr] 29 (0, 0)) = wB at *
        obtain ⟨b0, b1, b2, b3⟩ := hb2.at
        simp only at b0 b1 b2 b3
        have HB2 := Lib.hid hb2
        generalize hY : wr.heap.size = Y at *
        have HUw := Lib.hid HJ.out.up
        have hYw : wr.heap.size = Y := hY
        clear HJ ga hb2
        have u0 : 0 ≤ lo % 18446744073709551616 := Int.emod_nonneg _ (by decide)
        have u1 : 0 ≤ hi % 18446744073709551616 := Int.emod_nonneg _ (by decide)
        have u2 : 0 ≤ by_ % 18446744073709551616 := Int.emod_nonneg _ (by decide)
        obtain ⟨x, hx⟩ : ∃ x : Nat, lo % 18446744073709551616 % (k : Int) = x := Int.eq_ofNat_of_zero_le (Int.emod_nonneg _ (by omega))
        have x1 : x < k := by have := Int.emod_lt_of_pos (lo % 18446744073709551616) (show 0 < (k : Int) by omega); omega
        obtain ⟨z, hz⟩ : ∃ z : Nat, (k : Int) - (x : Int) = z := ⟨k - x, by omega⟩
        obtain ⟨y, hy⟩ : ∃ y : Nat, hi % 18446744073709551616 % (z : Int) = y := Int.eq_ofNat_of_zero_le (Int.emod_nonneg _ (by omega))
        have y1 : y < z := by have := Int.emod_lt_of_pos (hi % 18446744073709551616) (show 0 < (z : Int) by omega); omega
        obtain ⟨t, ht⟩ : ∃ t : Nat, by_ % 18446744073709551616 % 3 = (t : Int) := Int.eq_ofNat_of_zero_le (by omega)
        have t1 : t < 3 := by omega
        have HUe := Lib.hid (show upJ k ⟨lo, hi, by_, gr⟩ = ⟨x, (x : Int) + 1 + (y : Int), 1 + (t : Int)⟩ by unfold upJ; simp only [hx, hz, hy, ht])
        have w0 : IntKind.u64.wrap lo = lo % 18446744073709551616 := by rw [IntKind.wrap_u64]
        have w1' : IntKind.u64.wrap hi = hi % 18446744073709551616 := by rw [IntKind.wrap_u64]
        have w2' : IntKind.u64.wrap by_ = by_ % 18446744073709551616 := by rw [IntKind.wrap_u64]
        have m0 : (lo % 18446744073709551616).tmod (k : Int) = x := by rw [Int.tmod_eq_emod_of_nonneg u0]; exact hx
        have m1 : (hi % 18446744073709551616).tmod (z : Int) = y := by rw [Int.tmod_eq_emod_of_nonneg u1]; exact hy
        have m2 : (by_ % 18446744073709551616).tmod 3 = (t : Int) := by rw [Int.tmod_eq_emod_of_nonneg u2]; exact ht
        have v0 : IntKind.i64.wrap (z : Int) = z := by rw [IntKind.wrap_i64]; omega
        have v1 : IntKind.u64.wrap (z : Int) = z := by rw [IntKind.wrap_u64]; omega
        have v2 : IntKind.i64.wrap ((x : Int) + 1) = (x : Int) + 1 := by rw [IntKind.wrap_i64]; omega
        have v3 : IntKind.i64.wrap (y : Int) = y := by rw [IntKind.wrap_i64]; omega
        have v4 : IntKind.i64.wrap ((x : Int) + 1 + (y : Int)) = (x : Int) + 1 + (y : Int) := by rw [IntKind.wrap_i64]; omega
        have v5 : IntKind.i64.wrap (t : Int) = t := by rw [IntKind.wrap_i64]; omega
        have v6 : IntKind.i64.wrap (1 + (t : Int)) = 1 + (t : Int) := by rw [IntKind.wrap_i64]; omega
        have v7 : ¬ (z : Int) = 0 := by omega
        have v8 : ¬ z = 0 := by omega
        clear u0 u1 u2 hx hy ht
        have HYn := Lib.hid (show (Value.slice vu j cu).ownBlock ≠ some Y from fun e => by have := (OwnOf.lt HUw.out e).2; omega)
        go_upto_region 10 with fail
        refine wp_region_held_drew (S := fun W => W.cell? ⟨Y, 1, none⟩ = some (.int .i64 hi) ∧ W.cell? ⟨Y, 2, none⟩ = some (.int .i64 by_)) (by kernel_rfl) ⟨b1, b2⟩ (fun hHeld => ?_)
        obtain ⟨wD, hwD, hD2, hBD⟩ : ∃ wD, wB.drew = wD ∧ ZK D w wD p q L0 L0 O P (.slice vu j cu) ((As.take j).map (upJ k)) ∧ JActB wD Y ⟨lo, hi, by_, gr⟩ := ⟨_, rfl, HJ2.out.grow HT.out.toStOk (grown_drew1 _), HB2.out.grow (grown_drew1 _)⟩
        rw [hwD] at hHeld ⊢
        have HD2 := Lib.hid hD2
        have HBD := Lib.hid hBD
        clear hD2 hBD hwD HJ2 HB2 b0 b1 b2 b3 a0 a1 a2 a3
        refine' wpAnyH_take (i := 0) (oi := ?oi1) (v := ?v1) ?hi1 ?hs1 ?hf1 ?hr1 ?hQ1 ?hy1 ?hS1 ?rest1
        case hi1 => exact rfl
        case hs1 => kernel_rfl
        case hf1 => kernel_rfl
        case hr1 => kernel_rfl
        case hQ1 => exact fun _ _ _ h => h
        case hS1 => assumption
        case hy1 =>
          refine Or.inl ⟨by rfl, ?_⟩
          intro w hSw
          try dsimp only at hSw
          go_simp
          try with_reducible rfl
        try simp only [Act.put, List.setIfInBounds_toArray, List.set_cons_zero, List.set_cons_succ]
        refine' wpAnyH_take (i := 1) (oi := ?oi2) (v := ?v2) ?hi2 ?hs2 ?hf2 ?hr2 ?hQ2 ?hy2 ?hS2 ?rest2
        case hi2 => exact rfl
        case hs2 => kernel_rfl
        case hf2 => kernel_rfl
        case hr2 => kernel_rfl
        case hQ2 => exact fun _ _ _ h => h
        case hS2 => assumption
        case hy2 =>
          refine Or.inl ⟨by rfl, ?_⟩
          intro w hSw
          try dsimp only at hSw
          go_simp
          try with_reducible rfl
        try simp only [Act.put, List.setIfInBounds_toArray, List.set_cons_zero, List.set_cons_succ]
        refine' wpAnyH_take (i := 2) (oi := ?oi3) (v := ?v3) ?hi3 ?hs3 ?hf3 ?hr3 ?hQ3 ?hy3 ?hS3 ?rest3
        case hi3 => exact rfl
        case hs3 => kernel_rfl
        case hf3 => kernel_rfl
        case hr3 => kernel_rfl
        case hQ3 => exact fun _ _ _ h => h
        case hS3 => assumption
        case hy3 =>
          refine Or.inl ⟨by rfl, ?_⟩
          intro w hSw
          try dsimp only at hSw
          go_simp
          try with_reducible rfl
        try simp only [Act.put, List.setIfInBounds_toArray, List.set_cons_zero, List.set_cons_succ]
        refine' wpAnyH_take (i := 3) (oi := ?oi4) (v := ?v4) ?hi4 ?hs4 ?hf4 ?hr4 ?hQ4 ?hy4 ?hS4 ?rest4
        case hi4 => exact rfl
        case hs4 => kernel_rfl
        case hf4 => kernel_rfl
        case hr4 => kernel_rfl
        case hQ4 => exact fun _ _ _ h => h
        case hS4 => assumption
        case hy4 =>
          refine Or.inl ⟨by rfl, ?_⟩
          intro w hSw
          try dsimp only at hSw
          go_simp
          try with_reducible rfl
        try simp only [Act.put, List.setIfInBounds_toArray, List.set_cons_zero, List.set_cons_succ]
        refine' wpAnyH_take (i := 4) (oi := ?oi5) (v := ?v5) ?hi5 ?hs5 ?hf5 ?hr5 ?hQ5 ?hy5 ?hS5 ?rest5
        case hi5 => exact rfl
        case hs5 => kernel_rfl
        case hf5 => kernel_rfl
        case hr5 => kernel_rfl
        case hQ5 => exact fun _ _ _ h => h
        case hS5 => assumption
        case hy5 =>
          refine Or.inl ⟨by rfl, ?_⟩
          intro w hSw
          try dsimp only at hSw
          go_simp
          try with_reducible rfl
        try simp only [Act.put, List.setIfInBounds_toArray, List.set_cons_zero, List.set_cons_succ]
        refine' wpAnyH_take (i := 5) (oi := ?oi6) (v := ?v6) ?hi6 ?hs6 ?hf6 ?hr6 ?hQ6 ?hy6 ?hS6 ?rest6
        case hi6 => exact rfl
        case hs6 => kernel_rfl
        case hf6 => kernel_rfl
        case hr6 => kernel_rfl
        case hQ6 => exact fun _ _ _ h => h
        case hS6 => assumption
        case hy6 =>
          refine Or.inl ⟨by rfl, ?_⟩
          intro w hSw
          try dsimp only at hSw
          go_simp
          try with_reducible rfl
        try simp only [Act.put, List.setIfInBounds_toArray, List.set_cons_zero, List.set_cons_succ]
        refine' wpAnyH_take (i := 6) (oi := ?oi7) (v := ?v7) ?hi7 ?hs7 ?hf7 ?hr7 ?hQ7 ?hy7 ?hS7 ?rest7
        case hi7 => exact rfl
        case hs7 => kernel_rfl
        case hf7 => kernel_rfl
        case hr7 => kernel_rfl
        case hQ7 => exact fun _ _ _ h => h
        case hS7 => assumption
        case hy7 =>
          refine Or.inl ⟨by rfl, ?_⟩
          intro w hSw
          try dsimp only at hSw
          go_simp
          try with_reducible rfl
        try simp only [Act.put, List.setIfInBounds_toArray, List.set_cons_zero, List.set_cons_succ]
        refine' wpAnyH_take (i := 7) (oi := ?oi8) (v := ?v8) ?hi8 ?hs8 ?hf8 ?hr8 ?hQ8 ?hy8 ?hS8 ?rest8
        case hi8 => exact rfl
        case hs8 => kernel_rfl
        case hf8 => kernel_rfl
        case hr8 => kernel_rfl
        case hQ8 => exact fun _ _ _ h => h
        case hS8 => assumption
        case hy8 =>
          refine Or.inl ⟨by rfl, ?_⟩
          intro w hSw
          try dsimp only at hSw
          go_simp
          try with_reducible rfl
        try simp only [Act.put, List.setIfInBounds_toArray, List.set_cons_zero, List.set_cons_succ]
        refine' wpAnyH_take (i := 8) (oi := ?oi9) (v := ?v9) ?hi9 ?hs9 ?hf9 ?hr9 ?hQ9 ?hy9 ?hS9 ?rest9
        case hi9 => exact rfl
        case hs9 => kernel_rfl
        case hf9 => kernel_rfl
        case hr9 => kernel_rfl
        case hQ9 => exact fun _ _ _ h => h
        case hS9 => assumption
        case hy9 =>
          refine Or.inl ⟨by rfl, ?_⟩
          intro w hSw
          try dsimp only at hSw
          go_simp
          try with_reducible rfl
        try simp only [Act.put, List.setIfInBounds_toArray, List.set_cons_zero, List.set_cons_succ]
        refine' wpAnyH_take (i := 9) (oi := ?oi10) (v := ?v10) ?hi10 ?hs10 ?hf10 ?hr10 ?hQ10 ?hy10 ?hS10 ?rest10
        case hi10 => exact rfl
        case hs10 => kernel_rfl
        case hf10 => kernel_rfl
        case hr10 => kernel_rfl
        case hQ10 => exact fun _ _ _ h => h
        case hS10 => assumption
        case hy10 =>
          refine Or.inl ⟨by rfl, ?_⟩
          intro w hSw
          try dsimp only at hSw
          go_simp
          try with_reducible rfl
        try simp only [Act.put, List.setIfInBounds_toArray, List.set_cons_zero, List.set_cons_succ]
        refine' wpAnyH_take (i := 10) (oi := ?oi11) (v := ?v11) ?hi11 ?hs11 ?hf11 ?hr11 ?hQ11 ?hy11 ?hS11 ?rest11
        case hi11 => exact rfl
        case hs11 => kernel_rfl
        case hf11 => kernel_rfl
        case hr11 => kernel_rfl
        case hQ11 => exact fun _ _ _ h => h
        case hS11 => assumption
        case hy11 =>
          refine Or.inl ⟨by rfl, ?_⟩
          intro w hSw
          try dsimp only at hSw
          go_simp
          try with_reducible rfl
        try simp only [Act.put, List.setIfInBounds_toArray, List.set_cons_zero, List.set_cons_succ]
        refine' wpAnyH_take (i := 11) (oi := ?oi12) (v := ?v12) ?hi12 ?hs12 ?hf12 ?hr12 ?hQ12 ?hy12 ?hS12 ?rest12
        case hi12 => exact rfl
        case hs12 => kernel_rfl
        case hf12 => kernel_rfl
        case hr12 => kernel_rfl
        case hQ12 => exact fun _ _ _ h => h
        case hS12 => assumption
        case hy12 =>
          refine Or.inl ⟨by rfl, ?_⟩
          intro w hSw
          try dsimp only at hSw
          go_simp
          try with_reducible rfl
        try simp only [Act.put, List.setIfInBounds_toArray, List.set_cons_zero, List.set_cons_succ]
        refine' wpAnyH_take (i := 12) (oi := ?oi13) (v := ?v13) ?hi13 ?hs13 ?hf13 ?hr13 ?hQ13 ?hy13 ?hS13 ?rest13
        case hi13 => exact rfl
        case hs13 => kernel_rfl
        case hf13 => kernel_rfl
        case hr13 => kernel_rfl
        case hQ13 => exact fun _ _ _ h => h
        case hS13 => assumption
        case hy13 =>
          refine Or.inl ⟨by rfl, ?_⟩
          intro w hSw
          try dsimp only at hSw
          go_simp
          try with_reducible rfl
        try simp only [Act.put, List.setIfInBounds_toArray, List.set_cons_zero, List.set_cons_succ]
        refine' wpAnyH_take (i := 13) (oi := ?oi14) (v := ?v14) ?hi14 ?hs14 ?hf14 ?hr14 ?hQ14 ?hy14 ?hS14 ?rest14
        case hi14 => exact rfl
        case hs14 => kernel_rfl
        case hf14 => kernel_rfl
        case hr14 => kernel_rfl
        case hQ14 => exact fun _ _ _ h => h
        case hS14 => assumption
        case hy14 =>
          refine Or.inl ⟨by rfl, ?_⟩
          intro w hSw
          try dsimp only at hSw
          go_simp
          try with_reducible rfl
        try simp only [Act.put, List.setIfInBounds_toArray, List.set_cons_zero, List.set_cons_succ]
        refine' wpAnyH_take (i := 14) (oi := ?oi15) (v := ?v15) ?hi15 ?hs15 ?hf15 ?hr15 ?hQ15 ?hy15 ?hS15 ?rest15
        case hi15 => exact rfl
        case hs15 => kernel_rfl
        case hf15 => kernel_rfl
        case hr15 => kernel_rfl
        case hQ15 => exact fun _ _ _ h => h
        case hS15 => assumption
        case hy15 =>
          refine Or.inl ⟨by rfl, ?_⟩
          intro w hSw
          try dsimp only at hSw
          go_simp
          try with_reducible rfl
        try simp only [Act.put, List.setIfInBounds_toArray, List.set_cons_zero, List.set_cons_succ]
        refine' wpAnyH_take (i := 15) (oi := ?oi16) (v := ?v16) ?hi16 ?hs16 ?hf16 ?hr16 ?hQ16 ?hy16 ?hS16 ?rest16
        case hi16 => exact rfl
        case hs16 => kernel_rfl
        case hf16 => kernel_rfl
        case hr16 => kernel_rfl
        case hQ16 => exact fun _ _ _ h => h
        case hS16 => assumption
        case hy16 =>
          refine Or.inl ⟨by rfl, ?_⟩
          intro w hSw
          try dsimp only at hSw
          go_simp
          try with_reducible rfl
        try simp only [Act.put, List.setIfInBounds_toArray, List.set_cons_zero, List.set_cons_succ]
        refine' wpAnyH_take (i := 16) (oi := ?oi17) (v := ?v17) ?hi17 ?hs17 ?hf17 ?hr17 ?hQ17 ?hy17 ?hS17 ?rest17
        case hi17 => exact rfl
        case hs17 => kernel_rfl
        case hf17 => kernel_rfl
        case hr17 => kernel_rfl
        case hQ17 => exact fun _ _ _ h => h
        case hS17 => assumption
        case hy17 =>
          refine Or.inl ⟨by rfl, ?_⟩
          intro w hSw
          try dsimp only at hSw
          go_simp
          try with_reducible rfl
        try simp only [Act.put, List.setIfInBounds_toArray, List.set_cons_zero, List.set_cons_succ]
        refine' wpAnyH_take (i := 17) (oi := ?oi18) (v := ?v18) ?hi18 ?hs18 ?hf18 ?hr18 ?hQ18 ?hy18 ?hS18 ?rest18
        case hi18 => exact rfl
        case hs18 => kernel_rfl
        case hf18 => kernel_rfl
        case hr18 => kernel_rfl
        case hQ18 => exact fun _ _ _ h => h
        case hS18 => assumption
        case hy18 =>
          refine Or.inl ⟨by rfl, ?_⟩
          intro w hSw
          try dsimp only at hSw
          go_simp
          try with_reducible rfl
        try simp only [Act.put, List.setIfInBounds_toArray, List.set_cons_zero, List.set_cons_succ]
        refine' wpAnyH_take (i := 18) (oi := ?oi19) (v := ?v19) ?hi19 ?hs19 ?hf19 ?hr19 ?hQ19 ?hy19 ?hS19 ?rest19
        case hi19 => exact rfl
        case hs19 => kernel_rfl
        case hf19 => kernel_rfl
        case hr19 => kernel_rfl
        case hQ19 => exact fun _ _ _ h => h
        case hS19 => assumption
        case hy19 =>
          refine Or.inl ⟨by rfl, ?_⟩
          intro w hSw
          try dsimp only at hSw
          go_simp
          try with_reducible rfl
        try simp only [Act.put, List.setIfInBounds_toArray, List.set_cons_zero, List.set_cons_succ]
        refine' wpAnyH_take (i := 19) (oi := ?oi20) (v := ?v20) ?hi20 ?hs20 ?hf20 ?hr20 ?hQ20 ?hy20 ?hS20 ?rest20
        case hi20 => exact rfl
        case hs20 => kernel_rfl
        case hf20 => kernel_rfl
        case hr20 => kernel_rfl
        case hQ20 => exact fun _ _ _ h => h
        case hS20 => assumption
        case hy20 =>
          refine Or.inl ⟨by rfl, ?_⟩
          intro w hSw
          try dsimp only at hSw
          go_simp
          try with_reducible rfl
        try simp only [Act.put, List.setIfInBounds_toArray, List.set_cons_zero, List.set_cons_succ]
        refine' wpAnyH_take (i := 20) (oi := ?oi21) (v := ?v21) ?hi21 ?hs21 ?hf21 ?hr21 ?hQ21 ?hy21 ?hS21 ?rest21
        case hi21 => exact rfl
        case hs21 => kernel_rfl
        case hf21 => kernel_rfl
        case hr21 => kernel_rfl
        case hQ21 => exact fun _ _ _ h => h
        case hS21 => assumption
        case hy21 =>
          refine Or.inl ⟨by rfl, ?_⟩
          intro w hSw
          try dsimp only at hSw
          go_simp
          try with_reducible rfl
        try simp only [Act.put, List.setIfInBounds_toArray, List.set_cons_zero, List.set_cons_succ]
        refine wpAnyH_ready (rs := [21]) (by kernel_rfl) (by simp) ?_
        refine' AllReadyH.cons (o := ?o22) ?ho22 ?h22 ?hs22
        case hs22 => exact AllReadyH.nil
        case ho22 => exact rfl
        case h22 =>
          intro K hK
          have hn9 := heap_alloc_new wD (.cells #[.int .i64 (x : Int), .int .i64 ((x : Int) + 1 + (y : Int)), .int .i64 (1 + (t : Int)), .bool false] 29 (0, 0))
          have ga9 := World.grownBy_alloc wD (.cells #[.int .i64 (x : Int), .int .i64 ((x : Int) + 1 + (y : Int)), .int .i64 (1 + (t : Int)), .bool false] 29 (0, 0)) none
          go_simp
          generalize hw9 : wD.alloc (.cells #[.int .i64 (x : Int), .int .i64 ((x : Int) + 1 + (y : Int)), .int .i64 (1 + (t : Int)), .bool false] 29 (0, 0)) = w9 at hn9 ga9 ⊢
          have H9 := Lib.hid (HD2.out.grow HT.out.toStOk ga9)
          have HBx := Lib.hid (HBD.out.grow ga9)
          obtain ⟨g10, c10, w10, hr10, ho10, gg10, hb10⟩ := run_japush w9 H9.out.up ⟨x, (x : Int) + 1 + (y : Int), 1 + (t : Int)⟩ (by rw [HUl.out]; omega) (Nat.le_trans (HD2.out.two.one.grown.size) ga9.size) _ hn9
          rw [HUl.out] at hr10 ho10
          have HR10 := Lib.hid hr10
          have H10 := Lib.hid (H9.out.push HT.out.toStOk gg10 ho10 fun b e => by rw [← own_one e]; exact hb10)
          have HBz := Lib.hid (show JActB w10 Y _ from (gg10.block Y HBx.out.lt (fun e => by have := HYn.out e.symm; exact this)).trans HBx.out)
          clear hr10 ho10 gg10 hb10 hw9 hn9 ga9
          refine hK.out _ _ ?_ (fun hHeld => ?_)
          · exact ⟨HBx.out.at.2.1, HBx.out.at.2.2.1⟩
          clear hK K
          try simp only [List.getElem_toArray, List.getElem_cons_succ, List.getElem_cons_zero, Act.put, List.setIfInBounds_toArray, List.set_cons_zero, List.set_cons_succ]
          refine wpAnyH_ready (rs := [22]) (by kernel_rfl) (by simp) ?_
          refine' AllReadyH.cons (o := ?o23) ?ho23 ?h23 ?hs23
          case hs23 => exact AllReadyH.nil
          case ho23 => exact rfl
          case h23 =>
            intro K hK
            refine step_append_run rfl _ _ _ _ rfl _ _ (by rfl) (by rfl) _ _ (HR10.out _) ?_
            show K (Act.put _ (some 88) _) _
            refine hK.out _ _ ?_ (fun hHeld => ?_)
            · exact ⟨HBz.out.at.2.1, HBz.out.at.2.2.1⟩
            clear hK K
            try simp only [List.getElem_toArray, List.getElem_cons_succ, List.getElem_cons_zero, Act.put, List.setIfInBounds_toArray, List.set_cons_zero, List.set_cons_succ]
            refine' wpAnyH_take (i := 23) (oi := ?oi24) (v := ?v24) ?hi24 ?hs24 ?hf24 ?hr24 ?hQ24 ?hy24 ?hS24 ?rest24
            case hi24 => exact rfl
            case hs24 => kernel_rfl
            case hf24 => kernel_rfl
            case hr24 => kernel_rfl
            case hQ24 => exact fun _ _ _ h => h
            case hS24 => assumption
            case hy24 =>
              refine Or.inl ⟨by rfl, ?_⟩
              intro w hSw
              try dsimp only at hSw
              go_simp
              try with_reducible rfl
            try simp only [Act.put, List.setIfInBounds_toArray, List.set_cons_zero, List.set_cons_succ]
            refine wpAnyH_done (by kernel_rfl) ?_ _
            simp only [List.getElem_toArray, List.getElem_cons_succ, List.getElem_cons_zero, Act.put, List.setIfInBounds_toArray, List.set_cons_zero, List.set_cons_succ]
            go_wp2_with fail
            go_roundw
            case rel => exact ⟨j + 1, by omega, by go_num, by rw [HUp.out, HUe.out]; exact H10⟩
            case measure => simp [intOf]; omega
      · obtain rfl : j = l := by omega
        obtain ⟨U, hU⟩ : ∃ U, As.map (upJ k) = U := ⟨_, rfl⟩
        have hUl : U.length = j := by rw [← hU, List.length_map]; exact HA.out.len
        have HU := Lib.hid (show ∀ x, x ∈ U → x.Ok k from fun x hx => by
          rw [← hU] at hx
          obtain ⟨A, _, rfl⟩ := List.mem_map.1 hx
          exact upJ_ok k2 A)
        rw [List.take_of_length_le (by rw [HA.out.len]; exact Nat.le_refl _), hU] at HJ
        have HUl := Lib.hid hUl
        have HRl := Lib.hid (show U.reverse.length = j by rw [List.length_reverse]; exact hUl)
        obtain ⟨vu, cu, hvu⟩ := OwnOf.form HJ.out.up
        rw [hUl] at hvu
        subst hvu
        have HZ := Lib.hid (show ZK D w wr p q (allA k (U.take 0)) (allA k (U.reverse.take 0)) O P (.slice vu j cu) U from by rw [← hL0] at HJ; exact HJ.out)
        clear hU hUl HJ HA hL0
        go_wp2_with fail
        go_loopw [92] (fun iv wr => ∃ (i : Nat) (O' P' : List Nat), i ≤ j ∧ iv = .int .i64 i ∧ Hid (ZK D w wr p q (allA k (U.take i)) (allA k (U.reverse.take i)) O' P' (.slice vu j cu) U)) (fun iv _ => j - (intOf iv).toNat)
        case atStart => exact ⟨0, O, P, by omega, rfl, HZ.out⟩
        case round =>
          clear HZ
          obtain ⟨i, O2, P2, hi2, rfl, HJ⟩ := hrel
          by_cases hlt : i < j
          · obtain ⟨x, hx⟩ : ∃ x, U[i]? = some x := ⟨_, List.getElem?_eq_getElem (by rw [HUl.out]; exact hlt)⟩
            obtain ⟨i', hi'⟩ : ∃ i' : Nat, (j : Int) - 1 - (i : Int) = i' := ⟨j - 1 - i, by omega⟩
            obtain ⟨y, hy⟩ : ∃ y, U[i']? = some y := ⟨_, List.getElem?_eq_getElem (by rw [HUl.out]; omega)⟩
            have hry : U.reverse[i]? = some y := by
              rw [List.getElem?_reverse (by rw [HUl.out]; exact hlt), HUl.out, show j - 1 - i = i' by omega]
              exact hy
            have HTx := Lib.hid (takel_at hx)
            have HTy := Lib.hid (takel_at hry)
            have HOx := Lib.hid (HU.out x (List.mem_of_getElem? hx))
            have HOy := Lib.hid (HU.out y (List.mem_of_getElem? hy))
            obtain ⟨g, o, c', hv', p0, p1, p2, p3⟩ := ja_cells (OwnOf.row HJ.out.up) hx
            rw [HUl.out] at hv'
            injection hv' with e1 e2 e3
            subst e1 e3
            obtain ⟨g', o', c', hv', r0, r1, r2, r3⟩ := ja_cells (OwnOf.row HJ.out.up) hy
            rw [HUl.out] at hv'
            injection hv' with e1 e2 e3
            injection e1 with e1
            injection e1 with e4 e5
            subst e4 e5
            obtain ⟨j1, hj1⟩ : ∃ j1 : Nat, (j : Int) - 1 = j1 := ⟨j - 1, by omega⟩
            have hi5 : (j1 : Int) - (i : Int) = (i' : Int) := by omega
            have hj6 : IntKind.i64.wrap (j1 : Int) = (j1 : Int) := by rw [IntKind.wrap_i64]; omega
            have hi6 : IntKind.i64.wrap (i' : Int) = (i' : Int) := by rw [IntKind.wrap_i64]; omega
            have hi3 : (i' : Int) < (j : Int) := by omega
            have hi4 : (0 : Int) ≤ (i' : Int) := by omega
            have HCl := Lib.hid (show ∀ W, wr.grownBy W none → (W.cell? ⟨g, o + i * 4, none⟩ = some (.int .i64 x.lo) ∧ W.cell? ⟨g, o + i * 4 + 1, none⟩ = some (.int .i64 x.hi) ∧ W.cell? ⟨g, o + i * 4 + 2, none⟩ = some (.int .i64 x.by_) ∧ W.cell? ⟨g, o + i * 4 + 3, none⟩ = some (.bool false)) ∧ W.cell? ⟨g, o + i' * 4, none⟩ = some (.int .i64 y.lo) ∧ W.cell? ⟨g, o + i' * 4 + 1, none⟩ = some (.int .i64 y.hi) ∧ W.cell? ⟨g, o + i' * 4 + 2, none⟩ = some (.int .i64 y.by_) ∧ W.cell? ⟨g, o + i' * 4 + 3, none⟩ = some (.bool false) from fun W gW =>
              ⟨⟨gW.cell p0 (by simp), gW.cell p1 (by simp), gW.cell p2 (by simp), gW.cell p3 (by simp)⟩, gW.cell r0 (by simp), gW.cell r1 (by simp), gW.cell r2 (by simp), gW.cell r3 (by simp)⟩)
            have HUt := Lib.hid (show (U.take i).length ≤ 1000 ∧ (U.reverse.take i).length ≤ 1000 by simp only [List.length_take]; omega)
            have HUa := Lib.hid (show (∀ z, z ∈ U.take i → z.Ok k) ∧ ∀ z, z ∈ U.reverse.take i → z.Ok k from ⟨fun z hz => HU.out z (List.mem_of_mem_take hz), fun z hz => HU.out z (List.mem_reverse.1 (List.mem_of_mem_take hz))⟩)
            clear hx hy hry p0 p1 p2 p3 r0 r1 r2 r3 e2 e3
            go_upto_region 15 with fail
            go_cut [13, 14] from 95 to 106 (fun p7 p8 wx => ∃ b7 b8 : Nat, p7 = .pointer (some ⟨b7, 0, none⟩) ∧ p8 = .pointer (some ⟨b8, 0, none⟩) ∧ Hid (wr.heap.size ≤ b7 ∧ wr.heap.size ≤ b8) ∧ Hid (JActB wx b7 ⟨x.lo, x.hi, x.by_, false⟩) ∧ Hid (JActB wx b8 ⟨y.lo, y.hi, y.by_, false⟩) ∧ Hid (wr.grownBy wx none))
            case first =>
              have hkd := HCl.out _ (grown_drew1 wr)
              go_region_held3 (fun W => (W.cell? ⟨g, o + i * 4, none⟩ = some (.int .i64 x.lo) ∧ W.cell? ⟨g, o + i * 4 + 1, none⟩ = some (.int .i64 x.hi) ∧ W.cell? ⟨g, o + i * 4 + 2, none⟩ = some (.int .i64 x.by_) ∧ W.cell? ⟨g, o + i * 4 + 3, none⟩ = some (.bool false)) ∧ W.cell? ⟨g, o + i' * 4, none⟩ = some (.int .i64 y.lo) ∧ W.cell? ⟨g, o + i' * 4 + 1, none⟩ = some (.int .i64 y.hi) ∧ W.cell? ⟨g, o + i' * 4 + 2, none⟩ = some (.int .i64 y.by_) ∧ W.cell? ⟨g, o + i' * 4 + 3, none⟩ = some (.bool false)) (first | exact hkd | exact HCl.out _ (by repeat (first | with_reducible exact grown_refl _ _ | with_reducible apply grown_dr | with_reducible apply grown_al))) (fail)
              all_goals
                first
                  | (obtain ⟨hnA, hnB, gC⟩ := two_acts wr ⟨x.lo, x.hi, x.by_, false⟩ ⟨y.lo, y.hi, y.by_, false⟩
                     simp only at hnA hnB gC
                     go_wp2_with fail
                     go_meet
                     case rel => exact ⟨_, _, rfl, rfl, ⟨Nat.le_refl _, Nat.le_succ _⟩, hnA, hnB, gC⟩)
                  | (obtain ⟨hnA, hnB, gC⟩ := two_acts wr ⟨y.lo, y.hi, y.by_, false⟩ ⟨x.lo, x.hi, x.by_, false⟩
                     simp only at hnA hnB gC
                     go_wp2_with fail
                     go_meet
                     case rel => exact ⟨_, _, rfl, rfl, ⟨Nat.le_succ _, Nat.le_refl _⟩, hnB, hnA, gC⟩)
            case rest =>
              obtain ⟨b7, b8, rfl, rfl, HG8, HB7, HB8, HG2⟩ := hcut
              have HJ3 := Lib.hid (HJ.out.grow HT.out.toStOk HG2.out)
              obtain ⟨b0, b1, b2, b3⟩ := HB7.out.at
              simp only at b0 b1 b2 b3
              have hadd := HT.out.add HJ3.out.two.one.d HJ3.out.two.one.ok x.lo x.hi x.by_ (okS (by have := HOx.out.lo; omega) (by have := HOx.out.lt; have := HOx.out.hi; omega)) (okS (by have := HOx.out.lo; have := HOx.out.lt; omega) (by have := HOx.out.hi; omega)) (okS (by have := HOx.out.by0; omega) (by have := HOx.out.by1; omega))
              have hm := addJ_more HUa.out.1 HUt.out.1 HOx.out
              rw [← HTx.out] at hm
              have HM := Lib.hid hm
              have HC := Lib.hid hadd
              have HB8n := Lib.hid (show b8 ∉ O2 ∧ b8 ∉ P2 from ⟨fun hm => by have := HT.out.lt HJ.out.two.one.d b8 hm; have := HG8.out.2; omega, fun hm => by have := HT.out.lt HJ.out.two.two.d b8 hm; have := HG8.out.2; omega⟩)
              clear hm hadd HJ HG2
              go_wp2_with fail
              refine HC.out.mono ?_
              rintro e w5 ha
              obtain ⟨u5, rfl, r5, -, h5⟩ := addA_open ha
              rw [HM.out] at r5 h5 ⊢
              simp only at r5 h5 ⊢
              obtain ⟨s5, c5, e5⟩ := rowOf_form r5
              subst e5
              obtain ⟨O5, h5, t5⟩ := HJ3.out.first2 HT.out.toStOk h5 (allA_ok (fun z hz => HU.out z (List.mem_of_mem_take hz)) (by omega) (by simp only [List.length_take]; omega))
              have HJ5 := Lib.hid h5
              have HB9 := Lib.hid (HB8.out.turn t5 HB8n.out.1)
              obtain ⟨z0, z1, z2, z3⟩ := HB9.out.at
              simp only at z0 z1 z2 z3
              have hadd := HT.out.add HJ5.out.two.two.d HJ5.out.two.two.ok y.lo y.hi y.by_ (okS (by have := HOy.out.lo; omega) (by have := HOy.out.lt; have := HOy.out.hi; omega)) (okS (by have := HOy.out.lo; have := HOy.out.lt; omega) (by have := HOy.out.hi; omega)) (okS (by have := HOy.out.by0; omega) (by have := HOy.out.by1; omega))
              have hm := addJ_more HUa.out.2 HUt.out.2 HOy.out
              rw [← HTy.out] at hm
              have HM2 := Lib.hid hm
              have HC := Lib.hid hadd
              clear ha r5 h5 t5 hm hadd HM HJ3 b0 b1 b2 b3 HB7 HB8
              go_wp2_with fail
              refine HC.out.mono ?_
              rintro e w6 ha
              obtain ⟨u6, rfl, r6, -, h6⟩ := addA_open ha
              rw [HM2.out] at r6 h6 ⊢
              simp only at r6 h6 ⊢
              obtain ⟨s6, c6, e6⟩ := rowOf_form r6
              subst e6
              obtain ⟨P6, h6⟩ := HJ5.out.second HT.out.toStOk h6 (allA_ok (fun z hz => HU.out z (List.mem_reverse.1 (List.mem_of_mem_take hz))) (by omega) (by simp only [List.length_take]; omega))
              have HJ6 := Lib.hid h6
              clear ha r6 h6 HM2 HJ5 z0 z1 z2 z3 HB9 HC
              go_wp2_with fail
              go_roundw
              case rel => exact ⟨i + 1, O5, P6, by omega, by go_num, HJ6⟩
              case measure => simp [intOf]; omega
          · obtain rfl : i = j := by omega
            rw [List.take_of_length_le (by rw [HUl.out]; exact Nat.le_refl _), List.take_of_length_le (by rw [HRl.out]; exact Nat.le_refl _), allA_rev] at HJ
            have HLa := Lib.hid HJ.out.two.one.ok
            obtain ⟨La, hLa⟩ : ∃ La, allA k U = La := ⟨_, rfl⟩
            rw [hLa] at HJ HLa
            have HC := Lib.hid (HT.out.runs HJ.out.two.one.d HLa.out)
            go_wp2_with fail
            refine HC.out.mono ?_
            rintro e w7 ⟨u7, rfl, r7, -, g7⟩
            have HJ7 := Lib.hid (HJ.out.grow HT.out.toStOk g7)
            have HC := Lib.hid (HT.out.runs HJ7.out.two.two.d HLa.out)
            have HR7 := Lib.hid r7
            obtain ⟨s7, c7, e7⟩ := rowOf_form r7
            subst e7
            clear r7 g7 HJ
            go_wp2_with fail
            refine HC.out.mono ?_
            rintro e w8 ⟨u8, rfl, r8, -, g8⟩
            have HJ8 := Lib.hid (HJ7.out.grow HT.out.toStOk g8)
            have HS := Lib.hid (told_same (rowOf_grow HR7.out g8) r8 (Nat.le_trans (runs_le HLa.out) (by decide)))
            obtain ⟨s8, c8, e8⟩ := rowOf_form r8
            subst e8
            clear r8 g8 HJ7 HR7 HC
            go_wp2_with fail
            refine HS.out.mono ?_
            rintro e w9 ⟨rfl, g9⟩
            have HZ3 := Lib.hid (show ZK D w w9 p q (allA k (U.drop 0)) La O2 P2 (.slice vu i cu) U from by rw [List.drop_zero, hLa]; exact HJ8.out.grow HT.out.toStOk g9)
            clear hLa g9 HJ8 HS
            go_wp2_with fail
            go_loopw [142] (fun iv wr => ∃ (a : Nat) (O' : List Nat), a ≤ i ∧ iv = .int .i64 a ∧ Hid (ZK D w wr p q (allA k (U.drop a)) La O' P2 (.slice vu i cu) U)) (fun iv _ => i - (intOf iv).toNat)
            case atStart => exact ⟨0, O2, by omega, rfl, HZ3.out⟩
            case round =>
              clear HZ3
              obtain ⟨a, O3, ha2, rfl, HJ⟩ := hrel
              by_cases hlt : a < i
              · obtain ⟨x, hx⟩ : ∃ x, U[a]? = some x := ⟨_, List.getElem?_eq_getElem (by rw [HUl.out]; exact hlt)⟩
                have hox := HU.out x (List.mem_of_getElem? hx)
                obtain ⟨g, o, c', hv', p0, p1, p2, p3⟩ := ja_cells (OwnOf.row HJ.out.up) hx
                rw [HUl.out] at hv'
                injection hv' with e1 e2 e3
                subst e1 e3
                have hdr := drop_cons hx
                have hless := addJ_less (U := U.drop (a + 1)) (x := x) (k := k) (fun z hz => HU.out z (List.mem_of_mem_drop hz)) (by rw [List.length_drop, HUl.out]; omega) (by omega) hox
                have hokn := allA_ok (U := U.drop (a + 1)) (k := k) (fun z hz => HU.out z (List.mem_of_mem_drop hz)) (by omega) (by rw [List.length_drop, HUl.out]; omega)
                have hgone := wantJ_gone (L := allA k (x :: U.drop (a + 1))) x.lo x.hi x.by_ hox.by0 (by have := hox.lo; have := hox.lt; omega) (by rw [allA_len]; exact hox.hi)
                rw [← hdr] at hless hgone
                have hLl : (allA k (U.drop a)).length = k := allA_len
                obtain ⟨L, hL⟩ : ∃ L, allA k (U.drop a) = L := ⟨_, rfl⟩
                rw [hL] at hless hgone hLl HJ
                have ga := World.grownBy_alloc wr (.cells #[.int .i64 x.lo, .int .i64 x.hi, .int .i64 x.by_, .bool false] 29 (0, 0)) none
                have hb2 := JActB.new wr ⟨x.lo, x.hi, x.by_, false⟩
                obtain ⟨h0, h1, h2, h3, h4⟩ := hox
                obtain ⟨xa, hxa⟩ : ∃ m : Nat, x.lo = m := ⟨x.lo.toNat, by omega⟩
                obtain ⟨d, hd⟩ : ∃ d : Nat, x.hi = (xa : Int) + d := ⟨(x.hi - xa).toNat, by omega⟩
                obtain ⟨xl, xh, xb⟩ := x
                simp only at *
                subst hxa
                subst hd
                have hd0 : 0 < d := by omega
                have hdk : xa + d ≤ k := by omega
                have HNo := Lib.hid hokn
                have HLess := Lib.hid hless
                have HGone := Lib.hid hgone
                have HLl := Lib.hid hLl
                clear hx hdr hless hokn hgone hLl hL h0 h1 h2 e2
                go_upto_region 28 with fail
                clear p0 p1 p2 p3
                have HJ2 := Lib.hid (HJ.out.grow HT.out.toStOk ga)
                have HB := Lib.hid hb2
                generalize hwB : wr.alloc (.cells #[.int .i64 (xa : Int), .int .i64 ((xa : Int) + (d : Int)), .int .i64 xb, .bool false] 29 (0, 0)) = wB at *
                generalize hY : wr.heap.size = Y at *
                obtain ⟨b0, b1, b2, b3⟩ := HB.out.at
                simp only at b0 b1 b2 b3
                clear hb2 ga HJ hwB hY
                go_wp2_with fail
                go_loopw [21, 22] (fun vv iv wx => ∃ d' : Nat, d' ≤ d ∧ iv = .int .i64 ((xa : Int) + (d' : Int)) ∧ Hid (ZMk wB wx vv (wantJ L xa xb (xa + d')))) (fun _ iv _ => ((xa : Int) + (d : Int) - intOf iv).toNat)
                case atStart => exact ⟨0, by omega, by simp, by rw [Nat.add_zero, wantJ_start _ _ _ (Int.le_refl _)]; exact MkOf.nil wB⟩
                case round =>
                  clear b0 b1 b2 b3
                  obtain ⟨d', hd', rfl, HM⟩ := hrel
                  obtain ⟨b0, b1, b2, b3⟩ := (HB.out.grow HM.out.grown).at
                  simp only at b0 b1 b2 b3
                  obtain ⟨va, vc, hvv⟩ := OwnOf.form HM.out.own
                  subst hvv
                  by_cases hlt3 : d' < d
                  · have e4 : decide ((xa : Int) + (d' : Int) < (xa : Int) + (d : Int)) = true := decide_eq_true (by omega)
                    obtain ⟨n, hn⟩ : ∃ n, L.getD (xa + d') 0 = n := ⟨_, rfl⟩
                    have hws := wantJ_succ (L := L) xa xb (xa + d') (by omega)
                    rw [hn] at hws
                    have haq : atJ L ((xa : Int) + (d' : Int)) = n := by
                      unfold atJ
                      rw [if_pos ⟨by omega, by rw [HLl.out]; omega⟩, show ((xa : Int) + (d' : Int)).toNat = xa + d' by omega]
                      exact hn
                    have HAtq := Lib.hid (show ∀ wx, D wx p L O3 → Calls Try.prog 17 #[.pointer (some ⟨p, 0, none⟩), .int .i64 ((xa : Int) + (d' : Int))] wx fun e w' => e = .returned (.int .i64 n) ∧ wx.grownBy w' none from fun wx h => by
                      have := HT.out.at_ h HJ2.out.two.one.ok ((xa : Int) + (d' : Int)) (okS (by omega) (by omega))
                      rwa [haq] at this)
                    have HM5 := Lib.hid (MkOf.grow HM.out (grown_drew1 _))
                    have HWs := Lib.hid hws
                    have hwl : (wantJ L xa xb (xa + d')).length ≤ 4096 := by
                      have := HLl.out
                      unfold wantJ
                      rw [List.length_map]
                      exact Nat.le_trans (List.length_filter_le _ _) (by simp; omega)
                    obtain ⟨W, hW⟩ : ∃ W, wantJ L xa xb (xa + d') = W := ⟨_, rfl⟩
                    rw [hW] at HM5 HWs hwl ⊢
                    have HJ5 := Lib.hid (HJ2.out.grow HT.out.toStOk HM5.out.grown)
                    have hkd := (HB.out.grow HM5.out.grown).at.2.2.1
                    simp only at hkd
                    clear hn hws haq HM hW
                    by_cases hnb : n = xb
                    · have e5 : (n == xb) = true := by simp [hnb]
                      have HW2 := Lib.hid (show wantJ L xa xb (xa + d' + 1) = W ++ [((xa : Int) + (d' : Int))] by rw [HWs.out, if_pos hnb]; rfl)
                      clear hnb HWs
                      go_wp2_with fail
                      go_region_held3 (fun W => W.cell? ⟨Y, 2, none⟩ = some (.int .i64 xb)) (exact hkd)
                        (first
                          | (go_at_call 17; with_reducible refine ((HAtq.out _ HJ5.out.two.one.d).mono ?_); rintro e w9 ⟨rfl, g9⟩; replace HM5 := Lib.hid (MkOf.grow HM5.out g9); replace HJ5 := Lib.hid (HJ5.out.grow HT.out.toStOk g9); replace hkd := (HB.out.grow HM5.out.grown).at.2.2.1; simp only at hkd; clear g9))
                      all_goals
                        go_wp2_with (at_builtin; refine wpList_zpush _ rfl _ _ rfl wB.heap.size _ W ((xa : Int) + (d' : Int)) (by rfl) HM5.out.own _ _ (by rfl) rfl (by omega) HM5.out.grown.size ?_; intro g8 cap8 w8 hown8 hg8)
                        have HM6 := Lib.hid (HM5.out.app hg8 hown8)
                        clear hown8 hg8
                        go_wp2_with fail
                        go_roundw
                        case rel => exact ⟨d' + 1, by omega, by go_num, by rw [show xa + (d' + 1) = xa + d' + 1 by omega, HW2.out]; exact HM6⟩
                        case measure => simp [intOf]; omega
                    · have e5 : (n == xb) = false := by simp [hnb]
                      have HW2 := Lib.hid (show wantJ L xa xb (xa + d' + 1) = W by rw [HWs.out, if_neg hnb, List.append_nil])
                      clear hnb HWs
                      go_wp2_with fail
                      go_region_held3 (fun W => W.cell? ⟨Y, 2, none⟩ = some (.int .i64 xb)) (exact hkd)
                        (first
                          | (go_at_call 17; with_reducible refine ((HAtq.out _ HJ5.out.two.one.d).mono ?_); rintro e w9 ⟨rfl, g9⟩; replace HM5 := Lib.hid (MkOf.grow HM5.out g9); replace HJ5 := Lib.hid (HJ5.out.grow HT.out.toStOk g9); replace hkd := (HB.out.grow HM5.out.grown).at.2.2.1; simp only at hkd; clear g9))
                      all_goals
                        go_wp2_with fail
                        go_roundw
                        case rel => exact ⟨d' + 1, by omega, by go_num, by rw [show xa + (d' + 1) = xa + d' + 1 by omega, HW2.out]; exact HM5⟩
                        case measure => simp [intOf]; omega
                  · obtain rfl : d' = d := by omega
                    have e4 : decide ((xa : Int) + (d' : Int) < (xa : Int) + (d' : Int)) = false := decide_eq_false (by omega)
                    have HJ5 := Lib.hid (HJ2.out.grow HT.out.toStOk HM.out.grown)
                    have hadd := HT.out.add HJ5.out.two.one.d HJ5.out.two.one.ok (xa : Int) ((xa : Int) + (d' : Int)) (-xb) (okS (by omega) (by omega)) (okS (by omega) (by omega)) (okS (by omega) (by omega))
                    have hneg1 : -xb ≤ 0 := by omega
                    have hneg2 : -4 ≤ -xb := by omega
                    have HC := Lib.hid hadd
                    have hg := HGone.out
                    rw [show ((xa : Int) + (d' : Int)).toNat = xa + d' by omega] at hg
                    have HWn := Lib.hid (show ∀ b, (Value.slice va (wantJ L xa xb (xa + d')).length vc).ownBlock = some b → b ∉ O3 from fun b e hm => by have := (OwnOf.lt HM.out.own e).1; have := HT.out.lt HJ2.out.two.one.d b hm; omega)
                    have hgl : (goneJ L xa ((xa : Int) + (d' : Int)) (-xb)).length ≤ 1000000 := by
                      have := HLl.out
                      unfold goneJ
                      rw [List.length_map]
                      exact Nat.le_trans (List.length_filter_le _ _) (by simp; omega)
                    rw [hg] at HM HWn
                    obtain ⟨G, hG⟩ : ∃ G, goneJ L xa ((xa : Int) + (d' : Int)) (-xb) = G := ⟨_, rfl⟩
                    rw [hG] at HM HWn HLess hgl
                    rw [hg, hG]
                    have HGl := Lib.hid hgl
                    clear hadd hg hG hgl HGone
                    go_wp2_with fail
                    refine HC.out.mono ?_
                    rintro e w5 ha
                    obtain ⟨u5, rfl, r5, -, h5⟩ := addA_open ha
                    rw [HLess.out] at r5 h5 ⊢
                    simp only at r5 h5 ⊢
                    obtain ⟨s5, c5, e5⟩ := rowOf_form r5
                    subst e5
                    obtain ⟨O5, h5, t5⟩ := HJ5.out.first2 HT.out.toStOk h5 HNo.out
                    have HJ6 := Lib.hid h5
                    have HI := Lib.hid (ints_ok c5 vc r5 (row_turn (OwnOf.row HM.out.own) t5 HWn.out) HGl.out true (by simp))
                    clear ha r5 h5 t5 HC HJ5 HM HWn HLess b0 b1 b2 b3
                    go_wp2_with fail
                    refine HI.out.mono ?_
                    rintro e w6 ⟨rfl, g6⟩
                    have HJ7 := Lib.hid (HJ6.out.grow HT.out.toStOk g6)
                    clear g6 HI HJ6
                    go_wp2_with fail
                    go_roundw
                    case rel => exact ⟨a + 1, O5, by omega, by go_num, HJ7⟩
                    case measure => simp [intOf]; omega
              · obtain rfl : a = i := by omega
                have e0 : allA k (U.drop a) = List.replicate k 0 := by rw [List.drop_of_length_le (by rw [HUl.out]; exact Nat.le_refl _)]; rfl
                rw [e0] at HJ
                have hrz := runsJ_zeros (k := k) (by omega)
                have HK := Lib.hid HJ.out.two.one.ok
                have HC := Lib.hid (HT.out.sum HJ.out.two.one.d HK.out)
                rw [sumJ_zeros] at HC
                clear e0
                go_wp2_with fail
                refine HC.out.mono ?_
                rintro e w10 ⟨rfl, g10⟩
                have HJ10 := Lib.hid (HJ.out.grow HT.out.toStOk g10)
                have HC := Lib.hid (HT.out.runs HJ10.out.two.one.d HK.out)
                rw [hrz] at HC
                clear g10 HJ hrz
                go_wp2_with fail
                refine HC.out.mono ?_
                rintro e w11 ⟨u11, rfl, r11, -, g11⟩
                obtain ⟨s11, c11, e11⟩ := rowOf_form r11
                have HG11 := Lib.hid (grown_trans HJ10.out.two.one.grown g11)
                subst e11
                clear r11 g11 HJ10 HC
                go_wp2_with fail
                refine (HLv.out _).mono ?_
                rintro e w12 ⟨rfl, g12⟩
                have HG := Lib.hid (grown_trans HG11.out g12)
                clear g12
                go_wp2_with fail
                go_ret
                exact ⟨rfl, HG.out⟩
  · have d1 : (l : Int) > 40 := by omega
    clear hc
    go_wp2_with fail
    refine (HLv.out _).mono ?_
    rintro e w6 ⟨rfl, g6⟩
    have HG := Lib.hid (grown_trans HZ0.out.two.one.grown g6)
    clear g6
    go_wp2_with fail
    go_ret
    exact ⟨rfl, HG.out⟩
end Go.Proofs.Ytohealhkgmagmaa
