/- The document's own rows: Push, Front: appends as steps of a region that draws its order. -/
import Derived.Test.YtnjpdcoahojgbaaRRef3
import Derived.Deep.RegionHeld
import Derived.Maps.AppendAt
namespace Go.Proofs.Ytnjpdcoahojgbaa.RInt
open Go.ChangeShapes Go.WideShapes Go.ChangeAt Go.RowKit Go.Deep
set_option linter.unusedVariables false

/-- append of numbers, run: whatever stands at the second, nil and empty too. -/
theorem run_append_ints (w : World) (ty : TypeId) (base : Nat) (v : Value) (xs : List Int) (hown : Nums w base v xs) (ao : Option Addr) (m c : Nat) (ys : List Int) (hI : Ints w ao m ys) (hl : xs.length + m ≤ 1000000) (hbase : base ≤ w.heap.size) :
    ∃ g cap w', (Builtin.append_ #[34, 34] ty #[v, .slice ao m c]).run Try.prog w = .ok (.slice g (xs.length + m) cap) w' ∧ Nums w' base (.slice g (xs.length + m) cap) (xs ++ ys) ∧ Kept v.ownBlock.toList w w' ∧ ∀ b, (Value.slice g (xs.length + m) cap).ownBlock = some b → v.ownBlock = some b ∨ w.heap.size ≤ b := by
  obtain ⟨i0, hi, hz0, hz1, hz2⟩ := info_parts info_int
  by_cases h0 : m = 0
  · have hy : ys = [] := List.eq_nil_of_length_eq_zero (by rw [hI.len, h0])
    subst h0 hy
    obtain ⟨a, cc, rfl⟩ := hown.form
    have hle : xs.length ≤ cc := by
      rcases hown.2 with ⟨e, h1⟩ | ⟨g, cap, cur, e, _, _, h2, _⟩
      · simp at e
        omega
      · simp only [Value.slice.injEq] at e
        omega
    refine ⟨a, cc, w, ?_, by simpa using hown, Kept.refl _ _, fun b hb => .inl hb⟩
    rw [Nat.add_zero]
    cases ao with
    | none => cases a <;> simp [Builtin.append_, run_underlying Try.underlying34, sizeOf, typeInfo, hi, Builtin.lenOf, Builtin.firstCells, storeCells, loadCells, loadCellsFrom, hle]
    | some ad =>
      have hf := run_firstCells_some (P := Try.prog) w i0.size 0 ad 0 c [] (by simp) (by simp)
      cases a <;> simp [Builtin.append_, run_underlying Try.underlying34, sizeOf, typeInfo, hi, Builtin.lenOf, storeCells, hf, hle]
  · rcases hI.cells with h | ⟨g, o, rfl, hc⟩
    · exact absurd h h0
    · obtain ⟨v', w', hr, h2, h3, h4, h5⟩ := run_append_own_at (P := Try.prog) w base 34 ty 3 i0 (.int .i64 0) 1 8 Try.underlying34 hi hz0 hz1 hz2 rfl (by decide) v xs.length (xs.map (Value.int .i64)) hown ⟨g, o, none⟩ m c (ys.map (Value.int .i64))
        (by simp [hI.len]) (fun j u hu => by
          rw [List.getElem?_map] at hu
          cases hyj : ys[j]? with
          | none => rw [hyj] at hu; cases hu
          | some y =>
            rw [hyj] at hu
            cases hu
            rw [Addr.add_mid]
            exact hc j y hyj) (fun u hu => by
          obtain ⟨y, _, rfl⟩ := List.mem_map.1 hu
          rfl) (by unfold maxLen; omega) (by omega) hbase
      have hn : Nums w' base v' (xs ++ ys) := by
        unfold Nums
        rw [List.length_append, hI.len, List.map_append]
        exact h2
      obtain ⟨a, cc, rfl⟩ : ∃ a cc, v' = .slice a (xs.length + m) cc := by
        obtain ⟨a, cc, e⟩ := hn.form
        exact ⟨a, cc, by rw [e, List.length_append, hI.len]⟩
      refine ⟨a, cc, w', hr, hn, ⟨h3.os, h3.tape, h3.output, h3.size, fun k hk hne => h3.block k hk fun e => hne (by rw [← e]; simp)⟩, fun b hb => ?_⟩
      rcases h5 with e | e
      · exact .inl (by rw [← e]; exact hb)
      · rw [hb] at e
        cases e
        exact .inr (Nat.le_refl _)

/-- .. as one step of a region that draws. -/
theorem step_append_ints {ops : Array Oper} {o : Oper} {a : Act} {w : World} {K : Act → World → Prop} {Q : Exit → Act → World → Prop} {E : Prop} (hg : o.guard = none) (s x : Operand)
    (hop : o.op = Op.call { callee := Callee.builtin Builtin.append, args := #[s, x], argTypes := #[34, 34] }) (base : Nat) (v : Value) (xs : List Int) (hs : a.eval s = v) (hown : Nums w base v xs)
    (ao : Option Addr) (m c : Nat) (ys : List Int) (hx : a.eval x = .slice ao m c) (hI : Ints w ao m ys) (hl : xs.length + m ≤ 1000000) (hbase : base ≤ w.heap.size) (k : Nat) (hk : xs.length + m = k)
    (hK : ∀ g cap w', Nums w' base (.slice g k cap) (xs ++ ys) → Kept v.ownBlock.toList w w' → (∀ b, (Value.slice g k cap).ownBlock = some b → v.ownBlock = some b ∨ w.heap.size ≤ b) → K (a.put o.dst (.slice g k cap)) w') :
    if Region.wanted o (yielded ops a.tmps) = true then Oper.wp Try.prog o a w K Q else E := by
  subst hk
  have hw : Region.wanted o (yielded ops a.tmps) = true := by simp [Region.wanted, hg]
  rw [if_pos hw]
  obtain ⟨g, cap, w', hrun, h1, h2, h3⟩ := run_append_ints w o.type base v xs hown ao m c ys hI hl hbase
  have hfin := hK g cap w' h1 h2 h3
  unfold Oper.wp
  simp [execOp, hop, resolve, invoke, builtin, hs, hx, hrun, Result.andThen]
  exact hfin

theorem nums_empty {W : World} {base k : Nat} (h : W.heap[k]? = some (.cells #[] 3 (0, 0))) (hb : base ≤ k) : Nums W base (.slice (some ⟨k, 0, none⟩) 0 0) [] :=
  ⟨rfl, .inr ⟨k, 0, #[], rfl, hb, h, Nat.le_refl _, by simp [maxLen], rfl, rfl⟩⟩

theorem nums_one {W : World} {base k : Nat} {x : Int} (h : W.heap[k]? = some (.cells #[.int .i64 x] 3 (0, 0))) (hb : base ≤ k) : Nums W base (.slice (some ⟨k, 0, none⟩) 1 1) [x] :=
  ⟨rfl, .inr ⟨k, 1, #[.int .i64 x], rfl, hb, h, Nat.le_refl _, by simp [maxLen], rfl, rfl⟩⟩

theorem ints_one {W : World} {k : Nat} {x : Int} (h : W.heap[k]? = some (.cells #[.int .i64 x] 3 (0, 0))) : Ints W (some ⟨k, 0, none⟩) 1 [x] := by
  refine ⟨rfl, .inr ⟨k, 0, rfl, fun i y hi => ?_⟩⟩
  cases i with
  | zero =>
    simp at hi
    subst hi
    rw [cell_of_row _ _ _ _ _ _ h]
    rfl
  | succ i => simp at hi

theorem set_count {S : List (List Int)} {i : Nat} {l l' : List Int} (hi : S[i]? = some l) (hl : l'.length = l.length + 1) : (S.set i l').flatten.length = S.flatten.length + 1 := by
  obtain ⟨S1, S2, e, h1⟩ := at_split hi
  subst e h1
  simp [List.set_append]
  omega

theorem put_max {S : List (List Int)} (hS : S.flatten.Nodup) {row x : Int} (hf : fits row x S) (hm : S.flatten.length ≤ 4096) {i : Nat} {l l' : List Int} (hi : (rmv x S)[i]? = some l) (hl : l'.length = l.length + 1) : ((rmv x S).set i l').flatten.length ≤ 4096 := by
  rw [set_count hi hl]
  by_cases hx : x ∈ S.flatten
  · have := rmv_count hS hx
    omega
  · rw [rmv_absent hx]
    rcases hf.2.2 with q | q
    · exact absurd q hx
    · omega

theorem RefNow.stored {w w1 w2 : World} {base r T : Nat} {S S1 : List (List Int)} {vs vs1 : List Value} {i : Nat} {l : List Int} {v : Value} {b : Value} (h1 : RefIs w1 base r T S1 vs1) (k1 : Kept [T] w w1) (hb : ∀ g, g ∈ blocks vs1 → g ∈ blocks vs ∨ w.heap.size ≤ g) (b2 : Below w1.heap.size w1 w2)
    (hi : i < S1.length) (hn : Nums w2 w1.heap.size v l) (hm : (S1.set i l).flatten.length ≤ 4096) (hS : S = S1.set i l) : RefNow w base r T vs S b (.returned b) (w2.setCell ⟨T, i, none⟩ v) := by
  subst hS
  have hbase : base ≤ w1.heap.size := by have := h1.tge; have := h1.tlt; omega
  refine ⟨rfl, vs1.set i v, (h1.past b2).put hi (hn.lower hbase) hm, (k1.trans (Kept.of_below b2)).setCell (by simp) _, fun g hg => ?_⟩
  rcases blocks_set hg with q | q
  · exact hb g q
  · exact .inr (Nat.le_trans k1.size (hn.lt q).1)

section
variable {w w' : World} {base r T : Nat} {S : List (List Int)} {vs : List Value}

theorem ref_front (h : RefIs w base r T S vs) (hS : S.flatten.Nodup) (row x : Int) :
    Calls Try.prog 16 #[.pointer (some ⟨r, 0, none⟩), .int .i64 row, .int .i64 x] w (RefNow w base r T vs (frontS row x S) (.bool (decide (fits row x S)))) := by
  have HR := Lib.hid h
  have HS := Lib.hid hS
  clear h hS
  by_cases hf : fits row x S
  · have HF := Lib.hid hf
    obtain ⟨ρ, rfl⟩ := Int.eq_ofNat_of_zero_le hf.1
    have hρ : ρ < S.length := by have := hf.2.1; omega
    have HM := Lib.hid (ref_may HR.out (ρ : Int) x)
    rw [decide_eq_true hf] at HM ⊢
    have hρ2 : ρ < (rmv x S).length := by rw [rmv_length]; exact hρ
    obtain ⟨l, hl⟩ : ∃ l, (rmv x S)[ρ]? = some l := ⟨_, List.getElem?_eq_getElem hρ2⟩
    have HPUSH := Lib.hid (show frontS (ρ : Int) x S = (rmv x S).set ρ (x :: l) by unfold frontS; rw [if_pos hf, Int.toNat_natCast, modify_is _ hl])
    clear hf hρ
    go_enter Try.func16, Try.ntmps16
    go_wp2_with fail
    refine (HM.out.mono ?_)
    rintro e w1 ⟨rfl, rfl⟩
    go_wp2_with fail
    refine ((ref_remove HR.out HS.out x).mono ?_)
    rintro e w1 ⟨rfl, vs1, h1, h2, h3⟩
    have hc := h1.cell
    obtain ⟨a, c, hat, hn⟩ := h1.at hl
    have hmax := h1.max1 hl
    have hle := h1.le
    have hT := h1.tlt
    have hne : ¬ r = T := h1.ne
    have hr := h1.rlt
    have H1 := Lib.hid h1
    have H2 := Lib.hid h2
    have H3 := Lib.hid h3
    have HI := Lib.hid hn.ints
    have HL := Lib.hid hl
    have bD : Below w1.heap.size w1 w1.drew := (Below.refl _ _).drew
    have bX := bD.alloc (Nat.le_refl _) (.cells #[.int .i64 x] 3)
    have t0 := (bD.cell (p := ⟨T, ρ, none⟩) hT).trans hat
    have t1 : (w1.alloc (.cells #[.int .i64 x] 3)).drew.cell? ⟨T, ρ, none⟩ = some (.slice a l.length c) := (bX.cell (p := ⟨T, ρ, none⟩) hT).trans hat
    have hc0 : w1.drew.cell? ⟨r, 0, none⟩ = some (.slice (some ⟨T, 0, none⟩) (rmv x S).length (rmv x S).length) := hc
    have HT0 := Lib.hid hT
    have HR0 := Lib.hid hr
    have HC := Lib.hid hc
    have BX := Lib.hid bX
    have NX := Lib.hid (nums_one (W := w1.drew.alloc (.cells #[.int .i64 x] 3)) (base := w1.heap.size) (k := w1.heap.size) (x := x) (heap_alloc_new w1.drew _) (Nat.le_refl _))
    clear bD bX hT hr h1 h2 h3 hn hl
    go_wp2_with fail
    refine wp_region_held_drew (S := fun w' => w'.cell? ⟨r, 0, none⟩ = some (.slice (some ⟨T, 0, none⟩) (rmv x S).length (rmv x S).length)) (by kernel_rfl) hc0 (fun hHeld => ?_)
    refine' wpAnyH_take (i := 0) (oi := ?oi1) (v := ?v1) ?hi1 ?hs1 ?hf1 ?hr1 ?hQ1 ?hy1 ?hS1 ?rest1
    case hi1 => exact rfl
    case hs1 => kernel_rfl
    case hf1 => kernel_rfl
    case hr1 => kernel_rfl
    case hQ1 => exact fun _ _ _ h => h
    case hS1 => assumption
    case hy1 =>
      refine Or.inl ⟨by rfl, ?_⟩
      intro w hSw
      try dsimp only at hSw
      go_simp
      try with_reducible rfl
    try simp only [Act.put, List.setIfInBounds_toArray, List.set_cons_zero, List.set_cons_succ]
    refine' wpAnyH_take (i := 1) (oi := ?oi2) (v := ?v2) ?hi2 ?hs2 ?hf2 ?hr2 ?hQ2 ?hy2 ?hS2 ?rest2
    case hi2 => exact rfl
    case hs2 => kernel_rfl
    case hf2 => kernel_rfl
    case hr2 => kernel_rfl
    case hQ2 => exact fun _ _ _ h => h
    case hS2 => assumption
    case hy2 =>
      refine Or.inl ⟨by rfl, ?_⟩
      intro w hSw
      try dsimp only at hSw
      go_simp
      try with_reducible rfl
    try simp only [Act.put, List.setIfInBounds_toArray, List.set_cons_zero, List.set_cons_succ]
    refine' wpAnyH_take (i := 2) (oi := ?oi3) (v := ?v3) ?hi3 ?hs3 ?hf3 ?hr3 ?hQ3 ?hy3 ?hS3 ?rest3
    case hi3 => exact rfl
    case hs3 => kernel_rfl
    case hf3 => kernel_rfl
    case hr3 => kernel_rfl
    case hQ3 => exact fun _ _ _ h => h
    case hS3 => assumption
    case hy3 =>
      refine Or.inl ⟨by rfl, ?_⟩
      intro w hSw
      try dsimp only at hSw
      go_simp
      try with_reducible rfl
    try simp only [Act.put, List.setIfInBounds_toArray, List.set_cons_zero, List.set_cons_succ]
    refine' wpAnyH_take (i := 3) (oi := ?oi4) (v := ?v4) ?hi4 ?hs4 ?hf4 ?hr4 ?hQ4 ?hy4 ?hS4 ?rest4
    case hi4 => exact rfl
    case hs4 => kernel_rfl
    case hf4 => kernel_rfl
    case hr4 => kernel_rfl
    case hQ4 => exact fun _ _ _ h => h
    case hS4 => assumption
    case hy4 =>
      refine Or.inl ⟨by rfl, ?_⟩
      intro w hSw
      try dsimp only at hSw
      go_simp
      try with_reducible rfl
    try simp only [Act.put, List.setIfInBounds_toArray, List.set_cons_zero, List.set_cons_succ]
    refine' wpAnyH_take (i := 4) (oi := ?oi5) (v := ?v5) ?hi5 ?hs5 ?hf5 ?hr5 ?hQ5 ?hy5 ?hS5 ?rest5
    case hi5 => exact rfl
    case hs5 => kernel_rfl
    case hf5 => kernel_rfl
    case hr5 => kernel_rfl
    case hQ5 => exact fun _ _ _ h => h
    case hS5 => assumption
    case hy5 =>
      refine Or.inl ⟨by rfl, ?_⟩
      intro w hSw
      try dsimp only at hSw
      go_simp
      try with_reducible rfl
    try simp only [Act.put, List.setIfInBounds_toArray, List.set_cons_zero, List.set_cons_succ]
    refine' wpAnyH_take (i := 5) (oi := ?oi6) (v := ?v6) ?hi6 ?hs6 ?hf6 ?hr6 ?hQ6 ?hy6 ?hS6 ?rest6
    case hi6 => exact rfl
    case hs6 => kernel_rfl
    case hf6 => kernel_rfl
    case hr6 => kernel_rfl
    case hQ6 => exact fun _ _ _ h => h
    case hS6 => assumption
    case hy6 =>
      refine Or.inl ⟨by rfl, ?_⟩
      intro w hSw
      try dsimp only at hSw
      go_simp
      try with_reducible rfl
    try simp only [Act.put, List.setIfInBounds_toArray, List.set_cons_zero, List.set_cons_succ]
    refine' wpAnyH_take (i := 7) (oi := ?oi7) (v := ?v7) ?hi7 ?hs7 ?hf7 ?hr7 ?hQ7 ?hy7 ?hS7 ?rest7
    case hi7 => exact rfl
    case hs7 => kernel_rfl
    case hf7 => kernel_rfl
    case hr7 => kernel_rfl
    case hQ7 => exact fun _ _ _ h => h
    case hS7 => assumption
    case hy7 =>
      refine Or.inl ⟨by rfl, ?_⟩
      intro w hSw
      try dsimp only at hSw
      go_simp
      try with_reducible rfl
    try simp only [Act.put, List.setIfInBounds_toArray, List.set_cons_zero, List.set_cons_succ]
    refine' wpAnyH_take (i := 8) (oi := ?oi8) (v := ?v8) ?hi8 ?hs8 ?hf8 ?hr8 ?hQ8 ?hy8 ?hS8 ?rest8
    case hi8 => exact rfl
    case hs8 => kernel_rfl
    case hf8 => kernel_rfl
    case hr8 => kernel_rfl
    case hQ8 => exact fun _ _ _ h => h
    case hS8 => assumption
    case hy8 =>
      refine Or.inl ⟨by rfl, ?_⟩
      intro w hSw
      try dsimp only at hSw
      go_simp
      try with_reducible rfl
    try simp only [Act.put, List.setIfInBounds_toArray, List.set_cons_zero, List.set_cons_succ]
    refine' wpAnyH_take (i := 9) (oi := ?oi9) (v := ?v9) ?hi9 ?hs9 ?hf9 ?hr9 ?hQ9 ?hy9 ?hS9 ?rest9
    case hi9 => exact rfl
    case hs9 => kernel_rfl
    case hf9 => kernel_rfl
    case hr9 => kernel_rfl
    case hQ9 => exact fun _ _ _ h => h
    case hS9 => assumption
    case hy9 =>
      refine Or.inl ⟨by rfl, ?_⟩
      intro w hSw
      try dsimp only at hSw
      go_simp
      try with_reducible rfl
    try simp only [Act.put, List.setIfInBounds_toArray, List.set_cons_zero, List.set_cons_succ]
    refine' wpAnyH_take (i := 10) (oi := ?oi10) (v := ?v10) ?hi10 ?hs10 ?hf10 ?hr10 ?hQ10 ?hy10 ?hS10 ?rest10
    case hi10 => exact rfl
    case hs10 => kernel_rfl
    case hf10 => kernel_rfl
    case hr10 => kernel_rfl
    case hQ10 => exact fun _ _ _ h => h
    case hS10 => assumption
    case hy10 =>
      refine Or.inl ⟨by rfl, ?_⟩
      intro w hSw
      try dsimp only at hSw
      go_simp
      try with_reducible rfl
    try simp only [Act.put, List.setIfInBounds_toArray, List.set_cons_zero, List.set_cons_succ]
    refine' wpAnyH_take (i := 11) (oi := ?oi11) (v := ?v11) ?hi11 ?hs11 ?hf11 ?hr11 ?hQ11 ?hy11 ?hS11 ?rest11
    case hi11 => exact rfl
    case hs11 => kernel_rfl
    case hf11 => kernel_rfl
    case hr11 => kernel_rfl
    case hQ11 => exact fun _ _ _ h => h
    case hS11 => assumption
    case hy11 =>
      refine Or.inl ⟨by rfl, ?_⟩
      intro w hSw
      try dsimp only at hSw
      go_simp
      try with_reducible rfl
    try simp only [Act.put, List.setIfInBounds_toArray, List.set_cons_zero, List.set_cons_succ]
    refine' wpAnyH_take (i := 12) (oi := ?oi12) (v := ?v12) ?hi12 ?hs12 ?hf12 ?hr12 ?hQ12 ?hy12 ?hS12 ?rest12
    case hi12 => exact rfl
    case hs12 => kernel_rfl
    case hf12 => kernel_rfl
    case hr12 => kernel_rfl
    case hQ12 => exact fun _ _ _ h => h
    case hS12 => assumption
    case hy12 =>
      refine Or.inl ⟨by rfl, ?_⟩
      intro w hSw
      try dsimp only at hSw
      go_simp
      try with_reducible rfl
    try simp only [Act.put, List.setIfInBounds_toArray, List.set_cons_zero, List.set_cons_succ]
    refine wpAnyH_ready (rs := [6, 13]) (by kernel_rfl) (by simp) ?_
    refine' AllReadyH.cons (o := ?o13) ?ho13 ?h13 ?hs13
    case ho13 => exact rfl
    case h13 =>
      intro K hK
      go_simp
      refine hK.out _ _ ?_ (fun hHeld => ?_)
      · (try dsimp only); go_keep
      clear hK K
      try simp only [Act.put, List.setIfInBounds_toArray, List.set_cons_zero, List.set_cons_succ]
      refine wpAnyH_ready (rs := [13]) (by kernel_rfl) (by simp) ?_
      refine' AllReadyH.cons (o := ?o14) ?ho14 ?h14 ?hs14
      case ho14 => exact rfl
      case h14 =>
        intro K hK
        go_simp
        refine hK.out _ _ ?_ (fun hHeld => ?_)
        · (try dsimp only); go_keep
        clear hK K
        try simp only [Act.put, List.setIfInBounds_toArray, List.set_cons_zero, List.set_cons_succ]
        refine wpAnyH_ready (rs := [14]) (by kernel_rfl) (by simp) ?_
        refine' AllReadyH.cons (o := ?o15) ?ho15 ?h15 ?hs15
        case ho15 => exact rfl
        case h15 =>
          intro K hK
          refine step_append_ints rfl _ _ rfl w1.heap.size (.slice (some ⟨w1.heap.size, 0, none⟩) 1 1) [x] rfl NX.out a l.length c l rfl (HI.out.below BX.out) (by simp; omega) (by simp) (1 + l.length) (by simp) ?_
          intro g cap w2 hn hk hb
          have hb2 := BX.out.trans (hk.below _ (by simp) (by simp [Value.ownBlock]))
          have HN2 := Lib.hid hn
          have HB2 := Lib.hid hb2
          have hc2 := (hb2.cell (p := ⟨r, 0, none⟩) HR0.out).trans HC.out
          have HR2 := Lib.hid (H1.out.past hb2)
          have hf2 := HR2.out.frozen ρ
          obtain ⟨a2, c2, ht2, -⟩ := HR2.out.at HL.out
          clear hn hk hb hb2
          refine hK.out _ _ ?_ (fun hHeld => ?_)
          · (try dsimp only); exact hc2
          clear hK K
          try simp only [Act.put, List.setIfInBounds_toArray, List.set_cons_zero, List.set_cons_succ]
          refine' wpAnyH_take (i := 15) (oi := ?oi16) (v := ?v16) ?hi16 ?hs16 ?hf16 ?hr16 ?hQ16 ?hy16 ?hS16 ?rest16
          case hi16 => exact rfl
          case hs16 => kernel_rfl
          case hf16 => kernel_rfl
          case hr16 => kernel_rfl
          case hQ16 => exact fun _ _ _ h => h
          case hS16 => assumption
          case hy16 =>
            refine Or.inl ⟨by rfl, ?_⟩
            intro w hSw
            try dsimp only at hSw
            go_simp
            try with_reducible rfl
          try simp only [Act.put, List.setIfInBounds_toArray, List.set_cons_zero, List.set_cons_succ]
          refine wpAnyH_ready (rs := [16]) (by kernel_rfl) (by simp) ?_
          refine' AllReadyH.cons (o := ?o17) ?ho17 ?h17 ?hs17
          case ho17 => exact rfl
          case h17 =>
            intro K hK
            go_simp
            refine hK.out _ _ ?_ (fun hHeld => ?_)
            · (try dsimp only); exact (World.cell?_of_block (a := ⟨r, 0, none⟩) (heap_setCell_other _ _ _ _ hne)).trans hc2
            clear hK K
            try simp only [Act.put, List.setIfInBounds_toArray, List.set_cons_zero, List.set_cons_succ]
            refine wpAnyH_done (by kernel_rfl) ?_ _
            go_wp2
            go_ret
            exact RefNow.stored H1.out H2.out H3.out HB2.out hρ2 HN2.out (put_max HS.out HF.out HR.out.max HL.out (by simp)) HPUSH.out
          exact AllReadyH.nil
        exact AllReadyH.nil
      exact AllReadyH.nil
    refine' AllReadyH.cons (o := ?o18) ?ho18 ?h18 ?hs18
    case ho18 => exact rfl
    case h18 =>
      intro K hK
      go_simp
      refine hK.out _ _ ?_ (fun hHeld => ?_)
      · (try dsimp only); go_keep
      clear hK K
      try simp only [Act.put, List.setIfInBounds_toArray, List.set_cons_zero, List.set_cons_succ]
      refine wpAnyH_ready (rs := [6]) (by kernel_rfl) (by simp) ?_
      refine' AllReadyH.cons (o := ?o19) ?ho19 ?h19 ?hs19
      case ho19 => exact rfl
      case h19 =>
        intro K hK
        go_simp
        refine hK.out _ _ ?_ (fun hHeld => ?_)
        · (try dsimp only); go_keep
        clear hK K
        try simp only [Act.put, List.setIfInBounds_toArray, List.set_cons_zero, List.set_cons_succ]
        refine wpAnyH_ready (rs := [14]) (by kernel_rfl) (by simp) ?_
        refine' AllReadyH.cons (o := ?o20) ?ho20 ?h20 ?hs20
        case ho20 => exact rfl
        case h20 =>
          intro K hK
          refine step_append_ints rfl _ _ rfl w1.heap.size (.slice (some ⟨w1.heap.size, 0, none⟩) 1 1) [x] rfl NX.out a l.length c l rfl (HI.out.below BX.out) (by simp; omega) (by simp) (1 + l.length) (by simp) ?_
          intro g cap w2 hn hk hb
          have hb2 := BX.out.trans (hk.below _ (by simp) (by simp [Value.ownBlock]))
          have HN2 := Lib.hid hn
          have HB2 := Lib.hid hb2
          have hc2 := (hb2.cell (p := ⟨r, 0, none⟩) HR0.out).trans HC.out
          have HR2 := Lib.hid (H1.out.past hb2)
          have hf2 := HR2.out.frozen ρ
          obtain ⟨a2, c2, ht2, -⟩ := HR2.out.at HL.out
          clear hn hk hb hb2
          refine hK.out _ _ ?_ (fun hHeld => ?_)
          · (try dsimp only); exact hc2
          clear hK K
          try simp only [Act.put, List.setIfInBounds_toArray, List.set_cons_zero, List.set_cons_succ]
          refine' wpAnyH_take (i := 15) (oi := ?oi21) (v := ?v21) ?hi21 ?hs21 ?hf21 ?hr21 ?hQ21 ?hy21 ?hS21 ?rest21
          case hi21 => exact rfl
          case hs21 => kernel_rfl
          case hf21 => kernel_rfl
          case hr21 => kernel_rfl
          case hQ21 => exact fun _ _ _ h => h
          case hS21 => assumption
          case hy21 =>
            refine Or.inl ⟨by rfl, ?_⟩
            intro w hSw
            try dsimp only at hSw
            go_simp
            try with_reducible rfl
          try simp only [Act.put, List.setIfInBounds_toArray, List.set_cons_zero, List.set_cons_succ]
          refine wpAnyH_ready (rs := [16]) (by kernel_rfl) (by simp) ?_
          refine' AllReadyH.cons (o := ?o22) ?ho22 ?h22 ?hs22
          case ho22 => exact rfl
          case h22 =>
            intro K hK
            go_simp
            refine hK.out _ _ ?_ (fun hHeld => ?_)
            · (try dsimp only); exact (World.cell?_of_block (a := ⟨r, 0, none⟩) (heap_setCell_other _ _ _ _ hne)).trans hc2
            clear hK K
            try simp only [Act.put, List.setIfInBounds_toArray, List.set_cons_zero, List.set_cons_succ]
            refine wpAnyH_done (by kernel_rfl) ?_ _
            go_wp2
            go_ret
            exact RefNow.stored H1.out H2.out H3.out HB2.out hρ2 HN2.out (put_max HS.out HF.out HR.out.max HL.out (by simp)) HPUSH.out
          exact AllReadyH.nil
        exact AllReadyH.nil
      exact AllReadyH.nil
    exact AllReadyH.nil
  · have HM := Lib.hid (ref_may HR.out row x)
    have HPUSH := Lib.hid (show frontS row x S = S by unfold frontS; rw [if_neg hf])
    rw [decide_eq_false hf] at HM ⊢
    clear hf
    go_enter Try.func16, Try.ntmps16
    go_wp2_with fail
    refine (HM.out.mono ?_)
    rintro e w1 ⟨rfl, rfl⟩
    go_wp2
    go_ret
    rw [HPUSH.out]
    exact RefNow.same HR.out _
end
end Go.Proofs.Ytnjpdcoahojgbaa.RInt
