/- The document's counts of layer 11: Grow. -/
import Derived.Test.YtohealhkgmagmaaJZeros
import Derived.Deep.RegionHeld
namespace Go.Proofs.Ytohealhkgmagmaa
open Go.ChangeShapes Go.WideShapes Go.ChangeAt Go.RowKit Go.Deep
set_option linter.unusedVariables false
set_option linter.unusedSimpArgs false

theorem step_append_run {P : Program} {w : World} {ops : Array Oper} {o : Oper} {a : Act} {K : Act → World → Prop} {Q : Exit → Act → World → Prop} {E : Prop} (hgd : o.guard = none) (s x : Operand) (t tn : TypeId)
    (ho : o.op = .call { callee := .builtin .append, args := #[s, x], argTypes := #[t, tn] }) (vs vx : Value) (hs : a.eval s = vs) (hx : a.eval x = vx)
    (v' : Value) (w' : World) (hr : (Builtin.append_ #[t, tn] o.type #[vs, vx]).run P w = .ok v' w') (h : K (a.put o.dst v') w') : if Region.wanted o (yielded ops a.tmps) = true then Oper.wp P o a w K Q else E := by
  have hw : Region.wanted o (yielded ops a.tmps) = true := by simp [Region.wanted, hgd]
  rw [if_pos hw]
  exact Lib.wp_append_run w s x t tn ho vs vx hs hx v' w' hr h
/-- 'append([]int{}, l...)', run. -/
theorem run_zcopy (w : World) {g c : Nat} {xs : List Int} (h : ZOwn w 0 (.slice (some ⟨g, 0, none⟩) xs.length c) xs) (hl : xs.length ≤ 1000000) :
    ∃ g' c' w', (∀ ty, (Builtin.append_ #[33, 33] ty #[.slice (some ⟨w.heap.size, 0, none⟩) 0 0, .slice (some ⟨g, 0, none⟩) xs.length c]).run Try.prog (w.alloc (.cells #[] 3)) = .ok (.slice (some ⟨g', 0, none⟩) xs.length c') w') ∧
      ZOwn w' w.heap.size (.slice (some ⟨g', 0, none⟩) xs.length c') xs ∧ w.grownBy w' none := by
  obtain ⟨i0, hi, hz0, hz1, hz2⟩ := info_parts info_int11
  have hown : (w.alloc (.cells #[] 3)).ownsRow w.heap.size 3 1 (.slice (some ⟨w.heap.size, 0, none⟩) 0 0) 0 [] :=
    ⟨by simp, .inr ⟨w.heap.size, 0, #[], rfl, Nat.le_refl _, heap_alloc_new w _, Nat.le_refl _, Nat.zero_le _, by simp, by simp⟩⟩
  have ga := World.grownBy_alloc w (.cells #[] 3) none
  have hg := OwnOf.grow h ga
  obtain ⟨v', w', hr, h2, h3, h4, h5⟩ := run_append_own_at (P := Try.prog) (w.alloc (.cells #[] 3)) w.heap.size 33 33 3 i0 (.int .i64 0) 1 8 Try.underlying33 hi hz0 hz1 hz2 rfl (by decide) (.slice (some ⟨w.heap.size, 0, none⟩) 0 0) 0 [] hown ⟨g, 0, none⟩ xs.length c (xs.flatMap zCells) hg.1 (fun j u hu => World.ownsRow.cells hg (g := g) rfl j u hu) (z_ones xs) (by unfold maxLen; omega) (by omega) (by simp)
  rw [Nat.zero_add, List.nil_append] at h2
  have hv : ∃ g' cap, v' = .slice (some ⟨g', 0, none⟩) xs.length cap := by
    rcases h2.2 with ⟨h1, _⟩ | ⟨g', cap, cur, h1, _⟩
    · exact absurd (h4.1 h1).1 (by simp)
    · exact ⟨g', cap, h1⟩
  obtain ⟨g', cap, rfl⟩ := hv
  exact ⟨g', cap, w', fun _ => hr, h2, grown_at ga h3 (Nat.le_refl _)⟩
theorem run_zeros (w : World) {base g c : Nat} {xs : List Int} (h : ZOwn w base (.slice (some ⟨g, 0, none⟩) xs.length c) xs) (hl : xs.length ≤ 1000000) (k : Nat) (hk : k ≤ 1000000) (hbase : base ≤ w.heap.size) :
    ∃ g' c' w', (∀ ty, (Builtin.append_ #[33, 3] ty #[.slice (some ⟨g, 0, none⟩) xs.length c, .int .i64 k]).run Try.prog w = .ok (.slice (some ⟨g', 0, none⟩) (xs.length + k) c') w') ∧
      ZOwn w' base (.slice (some ⟨g', 0, none⟩) (xs.length + k) c') (xs ++ List.replicate k 0) ∧ w.grownBy w' (some g) := by
  obtain ⟨i0, hi, hz0, hz1, hz2⟩ := info_parts info_int11
  obtain ⟨g', c', w', h1, h2, h3⟩ := run_append_zeros (P := Try.prog) w base 33 3 33 3 i0 .i64 Try.underlying33 Try.underlying3 hi hz0 hz1 hz2 g xs.length c (xs.flatMap zCells) h k hk hl hbase
  refine ⟨g', c', w', fun _ => h1, ?_, h3⟩
  unfold ZOwn OwnOf
  rw [List.length_append, List.length_replicate, z_flat, List.map_append, List.map_replicate, ← z_flat]
  exact h2

section
variable {w : World} {q g c : Nat} {L : List Int}
set_option maxRecDepth 100000 in
set_option maxHeartbeats 4000000 in
theorem rj_grow (h : RJ w q g c L) (hk : JOk L) (n : Int) (hn : okI n) :
    Calls Try.prog 12 #[.pointer (some ⟨q, 0, none⟩), .int .i64 n] w fun e w' => e = .returned (.int .i64 (growJ L n).1) ∧ LR w w' q [q, g] (growJ L n).2 := by
  have l0 := h.at
  have hl := hk.len
  by_cases hr : (L.length : Int) ≤ n ∧ n ≤ 4096
  · rw [show growJ L n = (0, L ++ List.replicate (n - L.length).toNat 0) by unfold growJ; rw [if_pos hr]]
    obtain ⟨k, hk2⟩ : ∃ k : Nat, n = (L.length : Int) + k := ⟨(n - L.length).toNat, by omega⟩
    have hsub : n - (L.length : Int) = (k : Int) := by omega
    rw [hsub, Int.toNat_natCast]
    have hkb : L.length + k ≤ 4096 := by omega
    subst hk2
    have d0 : decide ((L.length : Int) + (k : Int) < (L.length : Int)) = false := decide_eq_false (by omega)
    have d1 : decide ((L.length : Int) + (k : Int) > 4096) = false := decide_eq_false (by omega)
    clear hsub
    have hwr : IntKind.i64.wrap ((L.length : Int) + (k : Int) - (L.length : Int)) = (k : Int) := by rw [IntKind.wrap_i64]; omega
    have hd := h.grow (grown_drew1 w)
    obtain ⟨g6, c6, w6, hr6, ho6, hg6⟩ := run_zcopy w.drew hd.row (by omega)
    obtain ⟨g14, c14, w14, hr14, ho14, hg14⟩ := run_zeros w6 ho6 (by omega) k (by omega) hg6.size
    have hg06 : w.grownBy w6 none := grown_trans (grown_drew1 w) hg6
    have hg014 : w.grownBy w14 none := grown_at hg06 hg14 (OwnOf.lt ho6 (g := g6) rfl).1
    have cd := hd.at
    have ca := (h.grow (World.grownBy_alloc w (.cells #[] 3) none)).at
    have cz := (h.grow hg06).at
    have ce := (h.grow hg014).at
    have fe := (h.grow hg014).frozen 0
    have hO := h.other hg014 (L' := L ++ List.replicate k 0) (g' := g14) (c' := c14) (by rw [List.length_append, List.length_replicate]; exact ho14)
    rw [List.length_append, List.length_replicate] at hO
    have HRes := Lib.hid (show (Ending.returned (.int .i64 0) = Ending.returned (.int .i64 0)) ∧ LR w (w14.setCell ⟨q, 0, none⟩ (.slice (some ⟨g14, 0, none⟩) (L.length + k) c14)) q [q, g] (L ++ List.replicate k 0) from ⟨rfl, hO⟩)
    have HR6 := Lib.hid hr6
    have HR14 := Lib.hid hr14
    clear hr6 hr14 ho6 ho14 hg6 hg14 hg06 hg014 hd h hk hO hr hn
    go_enter Try.func12, Try.ntmps12
    go_wp2_with fail
    refine wp_region_held_drew (S := fun _ => True) (by kernel_rfl) trivial (fun hHeld => ?_)
    refine' wpAnyH_take (i := 0) (oi := ?oi1) (v := ?v1) ?hi1 ?hs1 ?hf1 ?hr1 ?hQ1 ?hy1 ?hS1 ?rest1
    case hi1 => exact rfl
    case hs1 => kernel_rfl
    case hf1 => kernel_rfl
    case hr1 => kernel_rfl
    case hQ1 => exact fun _ _ _ h => h
    case hS1 => assumption
    case hy1 =>
      refine Or.inl ⟨by rfl, ?_⟩
      intro w hSw
      try dsimp only at hSw
      go_simp
      try with_reducible rfl
    try simp only [Act.put, List.setIfInBounds_toArray, List.set_cons_zero, List.set_cons_succ]
    refine' wpAnyH_take (i := 2) (oi := ?oi2) (v := ?v2) ?hi2 ?hs2 ?hf2 ?hr2 ?hQ2 ?hy2 ?hS2 ?rest2
    case hi2 => exact rfl
    case hs2 => kernel_rfl
    case hf2 => kernel_rfl
    case hr2 => kernel_rfl
    case hQ2 => exact fun _ _ _ h => h
    case hS2 => assumption
    case hy2 =>
      refine Or.inl ⟨by rfl, ?_⟩
      intro w hSw
      try dsimp only at hSw
      go_simp
      try with_reducible rfl
    try simp only [Act.put, List.setIfInBounds_toArray, List.set_cons_zero, List.set_cons_succ]
    refine' wpAnyH_take (i := 3) (oi := ?oi3) (v := ?v3) ?hi3 ?hs3 ?hf3 ?hr3 ?hQ3 ?hy3 ?hS3 ?rest3
    case hi3 => exact rfl
    case hs3 => kernel_rfl
    case hf3 => kernel_rfl
    case hr3 => kernel_rfl
    case hQ3 => exact fun _ _ _ h => h
    case hS3 => assumption
    case hy3 =>
      refine Or.inl ⟨by rfl, ?_⟩
      intro w hSw
      try dsimp only at hSw
      go_simp
      try with_reducible rfl
    try simp only [Act.put, List.setIfInBounds_toArray, List.set_cons_zero, List.set_cons_succ]
    refine' wpAnyH_take (i := 4) (oi := ?oi4) (v := ?v4) ?hi4 ?hs4 ?hf4 ?hr4 ?hQ4 ?hy4 ?hS4 ?rest4
    case hi4 => exact rfl
    case hs4 => kernel_rfl
    case hf4 => kernel_rfl
    case hr4 => kernel_rfl
    case hQ4 => exact fun _ _ _ h => h
    case hS4 => assumption
    case hy4 =>
      refine Or.inl ⟨by rfl, ?_⟩
      intro w hSw
      try dsimp only at hSw
      go_simp
      try with_reducible rfl
    try simp only [Act.put, List.setIfInBounds_toArray, List.set_cons_zero, List.set_cons_succ]
    refine' wpAnyH_take (i := 7) (oi := ?oi5) (v := ?v5) ?hi5 ?hs5 ?hf5 ?hr5 ?hQ5 ?hy5 ?hS5 ?rest5
    case hi5 => exact rfl
    case hs5 => kernel_rfl
    case hf5 => kernel_rfl
    case hr5 => kernel_rfl
    case hQ5 => exact fun _ _ _ h => h
    case hS5 => assumption
    case hy5 =>
      refine Or.inl ⟨by rfl, ?_⟩
      intro w hSw
      try dsimp only at hSw
      go_simp
      try with_reducible rfl
    try simp only [Act.put, List.setIfInBounds_toArray, List.set_cons_zero, List.set_cons_succ]
    refine' wpAnyH_take (i := 8) (oi := ?oi6) (v := ?v6) ?hi6 ?hs6 ?hf6 ?hr6 ?hQ6 ?hy6 ?hS6 ?rest6
    case hi6 => exact rfl
    case hs6 => kernel_rfl
    case hf6 => kernel_rfl
    case hr6 => kernel_rfl
    case hQ6 => exact fun _ _ _ h => h
    case hS6 => assumption
    case hy6 =>
      refine Or.inl ⟨by rfl, ?_⟩
      intro w hSw
      try dsimp only at hSw
      go_simp
      try with_reducible rfl
    try simp only [Act.put, List.setIfInBounds_toArray, List.set_cons_zero, List.set_cons_succ]
    refine' wpAnyH_take (i := 9) (oi := ?oi7) (v := ?v7) ?hi7 ?hs7 ?hf7 ?hr7 ?hQ7 ?hy7 ?hS7 ?rest7
    case hi7 => exact rfl
    case hs7 => kernel_rfl
    case hf7 => kernel_rfl
    case hr7 => kernel_rfl
    case hQ7 => exact fun _ _ _ h => h
    case hS7 => assumption
    case hy7 =>
      refine Or.inl ⟨by rfl, ?_⟩
      intro w hSw
      try dsimp only at hSw
      go_simp
      try with_reducible rfl
    try simp only [Act.put, List.setIfInBounds_toArray, List.set_cons_zero, List.set_cons_succ]
    refine' wpAnyH_take (i := 10) (oi := ?oi8) (v := ?v8) ?hi8 ?hs8 ?hf8 ?hr8 ?hQ8 ?hy8 ?hS8 ?rest8
    case hi8 => exact rfl
    case hs8 => kernel_rfl
    case hf8 => kernel_rfl
    case hr8 => kernel_rfl
    case hQ8 => exact fun _ _ _ h => h
    case hS8 => assumption
    case hy8 =>
      refine Or.inl ⟨by rfl, ?_⟩
      intro w hSw
      try dsimp only at hSw
      go_simp
      try with_reducible rfl
    try simp only [Act.put, List.setIfInBounds_toArray, List.set_cons_zero, List.set_cons_succ]
    refine wpAnyH_ready (rs := [1, 5, 11]) (by kernel_rfl) (by simp) ?_
    refine' AllReadyH.cons (o := ?o9) ?ho9 ?h9 ?hs9
    case ho9 => exact rfl
    case h9 =>
      intro K hK
      go_simp
      refine hK.out _ _ ?_ (fun hHeld => ?_)
      · exact trivial
      clear hK K
      try simp only [Act.put, List.setIfInBounds_toArray, List.set_cons_zero, List.set_cons_succ]
      refine wpAnyH_ready (rs := [5, 11]) (by kernel_rfl) (by simp) ?_
      refine' AllReadyH.cons (o := ?o10) ?ho10 ?h10 ?hs10
      case ho10 => exact rfl
      case h10 =>
        intro K hK
        go_simp
        refine hK.out _ _ ?_ (fun hHeld => ?_)
        · exact trivial
        clear hK K
        try simp only [Act.put, List.setIfInBounds_toArray, List.set_cons_zero, List.set_cons_succ]
        refine wpAnyH_ready (rs := [6, 11]) (by kernel_rfl) (by simp) ?_
        refine' AllReadyH.cons (o := ?o11) ?ho11 ?h11 ?hs11
        case ho11 => exact rfl
        case h11 =>
          intro K hK
          refine step_append_run rfl _ _ _ _ rfl _ _ (by rfl) (by rfl) _ _ (HR6.out _) ?_
          refine hK.out _ _ ?_ (fun hHeld => ?_)
          · exact trivial
          clear hK K
          try simp only [Act.put, List.setIfInBounds_toArray, List.set_cons_zero, List.set_cons_succ]
          refine wpAnyH_ready (rs := [11]) (by kernel_rfl) (by simp) ?_
          refine' AllReadyH.cons (o := ?o12) ?ho12 ?h12 ?hs12
          case ho12 => exact rfl
          case h12 =>
            intro K hK
            go_simp
            refine hK.out _ _ ?_ (fun hHeld => ?_)
            · exact trivial
            clear hK K
            try simp only [Act.put, List.setIfInBounds_toArray, List.set_cons_zero, List.set_cons_succ]
            refine' wpAnyH_take (i := 12) (oi := ?oi13) (v := ?v13) ?hi13 ?hs13 ?hf13 ?hr13 ?hQ13 ?hy13 ?hS13 ?rest13
            case hi13 => exact rfl
            case hs13 => kernel_rfl
            case hf13 => kernel_rfl
            case hr13 => kernel_rfl
            case hQ13 => exact fun _ _ _ h => h
            case hS13 => assumption
            case hy13 =>
              refine Or.inl ⟨by rfl, ?_⟩
              intro w hSw
              try dsimp only at hSw
              go_simp
              try with_reducible rfl
            try simp only [Act.put, List.setIfInBounds_toArray, List.set_cons_zero, List.set_cons_succ]
            refine' wpAnyH_take (i := 13) (oi := ?oi14) (v := Value.int .i64 (k : Int)) ?hi14 ?hs14 ?hf14 ?hr14 ?hQ14 ?hy14 ?hS14 ?rest14
            case hi14 => exact rfl
            case hs14 => kernel_rfl
            case hf14 => kernel_rfl
            case hr14 => kernel_rfl
            case hQ14 => exact fun _ _ _ h => h
            case hS14 => assumption
            case hy14 =>
              refine Or.inl ⟨by rfl, ?_⟩
              intro w hSw
              try dsimp only at hSw
              go_simp
              try rw [hwr]
            try simp only [Act.put, List.setIfInBounds_toArray, List.set_cons_zero, List.set_cons_succ]
            refine wpAnyH_ready (rs := [14]) (by kernel_rfl) (by simp) ?_
            refine' AllReadyH.cons (o := ?o15) ?ho15 ?h15 ?hs15
            case ho15 => exact rfl
            case h15 =>
              intro K hK
              refine step_append_run rfl _ _ _ _ rfl _ _ (by rfl) (by rfl) _ _ (HR14.out _) ?_
              refine hK.out _ _ ?_ (fun hHeld => ?_)
              · exact trivial
              clear hK K
              try simp only [Act.put, List.setIfInBounds_toArray, List.set_cons_zero, List.set_cons_succ]
              refine' wpAnyH_take (i := 15) (oi := ?oi16) (v := ?v16) ?hi16 ?hs16 ?hf16 ?hr16 ?hQ16 ?hy16 ?hS16 ?rest16
              case hi16 => exact rfl
              case hs16 => kernel_rfl
              case hf16 => kernel_rfl
              case hr16 => kernel_rfl
              case hQ16 => exact fun _ _ _ h => h
              case hS16 => assumption
              case hy16 =>
                refine Or.inl ⟨by rfl, ?_⟩
                intro w hSw
                try dsimp only at hSw
                go_simp
                try with_reducible rfl
              try simp only [Act.put, List.setIfInBounds_toArray, List.set_cons_zero, List.set_cons_succ]
              refine' wpAnyH_take (i := 16) (oi := ?oi17) (v := ?v17) ?hi17 ?hs17 ?hf17 ?hr17 ?hQ17 ?hy17 ?hS17 ?rest17
              case hi17 => exact rfl
              case hs17 => kernel_rfl
              case hf17 => kernel_rfl
              case hr17 => kernel_rfl
              case hQ17 => exact fun _ _ _ h => h
              case hS17 => assumption
              case hy17 =>
                refine Or.inl ⟨by rfl, ?_⟩
                intro w hSw
                try dsimp only at hSw
                go_simp
                try with_reducible rfl
              try simp only [Act.put, List.setIfInBounds_toArray, List.set_cons_zero, List.set_cons_succ]
              refine wpAnyH_ready (rs := [17]) (by kernel_rfl) (by simp) ?_
              refine' AllReadyH.cons (o := ?o18) ?ho18 ?h18 ?hs18
              case ho18 => exact rfl
              case h18 =>
                intro K hK
                go_simp
                refine hK.out _ _ ?_ (fun hHeld => ?_)
                · exact trivial
                clear hK K
                try simp only [Act.put, List.setIfInBounds_toArray, List.set_cons_zero, List.set_cons_succ]
                refine wpAnyH_done (by kernel_rfl) ?_ _
                go_wp2_with fail
                go_ret
                exact ⟨rfl, HRes.out.2⟩
              exact AllReadyH.nil
            exact AllReadyH.nil
          exact AllReadyH.nil
        refine' AllReadyH.cons (o := ?o19) ?ho19 ?h19 ?hs19
        case ho19 => exact rfl
        case h19 =>
          intro K hK
          go_simp
          refine hK.out _ _ ?_ (fun hHeld => ?_)
          · exact trivial
          clear hK K
          try simp only [Act.put, List.setIfInBounds_toArray, List.set_cons_zero, List.set_cons_succ]
          refine' wpAnyH_take (i := 12) (oi := ?oi20) (v := ?v20) ?hi20 ?hs20 ?hf20 ?hr20 ?hQ20 ?hy20 ?hS20 ?rest20
          case hi20 => exact rfl
          case hs20 => kernel_rfl
          case hf20 => kernel_rfl
          case hr20 => kernel_rfl
          case hQ20 => exact fun _ _ _ h => h
          case hS20 => assumption
          case hy20 =>
            refine Or.inl ⟨by rfl, ?_⟩
            intro w hSw
            try dsimp only at hSw
            go_simp
            try with_reducible rfl
          try simp only [Act.put, List.setIfInBounds_toArray, List.set_cons_zero, List.set_cons_succ]
          refine' wpAnyH_take (i := 13) (oi := ?oi21) (v := Value.int .i64 (k : Int)) ?hi21 ?hs21 ?hf21 ?hr21 ?hQ21 ?hy21 ?hS21 ?rest21
          case hi21 => exact rfl
          case hs21 => kernel_rfl
          case hf21 => kernel_rfl
          case hr21 => kernel_rfl
          case hQ21 => exact fun _ _ _ h => h
          case hS21 => assumption
          case hy21 =>
            refine Or.inl ⟨by rfl, ?_⟩
            intro w hSw
            try dsimp only at hSw
            go_simp
            try rw [hwr]
          try simp only [Act.put, List.setIfInBounds_toArray, List.set_cons_zero, List.set_cons_succ]
          refine wpAnyH_ready (rs := [6]) (by kernel_rfl) (by simp) ?_
          refine' AllReadyH.cons (o := ?o22) ?ho22 ?h22 ?hs22
          case ho22 => exact rfl
          case h22 =>
            intro K hK
            refine step_append_run rfl _ _ _ _ rfl _ _ (by rfl) (by rfl) _ _ (HR6.out _) ?_
            refine hK.out _ _ ?_ (fun hHeld => ?_)
            · exact trivial
            clear hK K
            try simp only [Act.put, List.setIfInBounds_toArray, List.set_cons_zero, List.set_cons_succ]
            refine wpAnyH_ready (rs := [14]) (by kernel_rfl) (by simp) ?_
            refine' AllReadyH.cons (o := ?o23) ?ho23 ?h23 ?hs23
            case ho23 => exact rfl
            case h23 =>
              intro K hK
              refine step_append_run rfl _ _ _ _ rfl _ _ (by rfl) (by rfl) _ _ (HR14.out _) ?_
              refine hK.out _ _ ?_ (fun hHeld => ?_)
              · exact trivial
              clear hK K
              try simp only [Act.put, List.setIfInBounds_toArray, List.set_cons_zero, List.set_cons_succ]
              refine' wpAnyH_take (i := 15) (oi := ?oi24) (v := ?v24) ?hi24 ?hs24 ?hf24 ?hr24 ?hQ24 ?hy24 ?hS24 ?rest24
              case hi24 => exact rfl
              case hs24 => kernel_rfl
              case hf24 => kernel_rfl
              case hr24 => kernel_rfl
              case hQ24 => exact fun _ _ _ h => h
              case hS24 => assumption
              case hy24 =>
                refine Or.inl ⟨by rfl, ?_⟩
                intro w hSw
                try dsimp only at hSw
                go_simp
                try with_reducible rfl
              try simp only [Act.put, List.setIfInBounds_toArray, List.set_cons_zero, List.set_cons_succ]
              refine' wpAnyH_take (i := 16) (oi := ?oi25) (v := ?v25) ?hi25 ?hs25 ?hf25 ?hr25 ?hQ25 ?hy25 ?hS25 ?rest25
              case hi25 => exact rfl
              case hs25 => kernel_rfl
              case hf25 => kernel_rfl
              case hr25 => kernel_rfl
              case hQ25 => exact fun _ _ _ h => h
              case hS25 => assumption
              case hy25 =>
                refine Or.inl ⟨by rfl, ?_⟩
                intro w hSw
                try dsimp only at hSw
                go_simp
                try with_reducible rfl
              try simp only [Act.put, List.setIfInBounds_toArray, List.set_cons_zero, List.set_cons_succ]
              refine wpAnyH_ready (rs := [17]) (by kernel_rfl) (by simp) ?_
              refine' AllReadyH.cons (o := ?o26) ?ho26 ?h26 ?hs26
              case ho26 => exact rfl
              case h26 =>
                intro K hK
                go_simp
                refine hK.out _ _ ?_ (fun hHeld => ?_)
                · exact trivial
                clear hK K
                try simp only [Act.put, List.setIfInBounds_toArray, List.set_cons_zero, List.set_cons_succ]
                refine wpAnyH_done (by kernel_rfl) ?_ _
                go_wp2_with fail
                go_ret
                exact ⟨rfl, HRes.out.2⟩
              exact AllReadyH.nil
            exact AllReadyH.nil
          exact AllReadyH.nil
        exact AllReadyH.nil
      refine' AllReadyH.cons (o := ?o27) ?ho27 ?h27 ?hs27
      case ho27 => exact rfl
      case h27 =>
        intro K hK
        go_simp
        refine hK.out _ _ ?_ (fun hHeld => ?_)
        · exact trivial
        clear hK K
        try simp only [Act.put, List.setIfInBounds_toArray, List.set_cons_zero, List.set_cons_succ]
        refine' wpAnyH_take (i := 12) (oi := ?oi28) (v := ?v28) ?hi28 ?hs28 ?hf28 ?hr28 ?hQ28 ?hy28 ?hS28 ?rest28
        case hi28 => exact rfl
        case hs28 => kernel_rfl
        case hf28 => kernel_rfl
        case hr28 => kernel_rfl
        case hQ28 => exact fun _ _ _ h => h
        case hS28 => assumption
        case hy28 =>
          refine Or.inl ⟨by rfl, ?_⟩
          intro w hSw
          try dsimp only at hSw
          go_simp
          try with_reducible rfl
        try simp only [Act.put, List.setIfInBounds_toArray, List.set_cons_zero, List.set_cons_succ]
        refine' wpAnyH_take (i := 13) (oi := ?oi29) (v := Value.int .i64 (k : Int)) ?hi29 ?hs29 ?hf29 ?hr29 ?hQ29 ?hy29 ?hS29 ?rest29
        case hi29 => exact rfl
        case hs29 => kernel_rfl
        case hf29 => kernel_rfl
        case hr29 => kernel_rfl
        case hQ29 => exact fun _ _ _ h => h
        case hS29 => assumption
        case hy29 =>
          refine Or.inl ⟨by rfl, ?_⟩
          intro w hSw
          try dsimp only at hSw
          go_simp
          try rw [hwr]
        try simp only [Act.put, List.setIfInBounds_toArray, List.set_cons_zero, List.set_cons_succ]
        refine wpAnyH_ready (rs := [5]) (by kernel_rfl) (by simp) ?_
        refine' AllReadyH.cons (o := ?o30) ?ho30 ?h30 ?hs30
        case ho30 => exact rfl
        case h30 =>
          intro K hK
          go_simp
          refine hK.out _ _ ?_ (fun hHeld => ?_)
          · exact trivial
          clear hK K
          try simp only [Act.put, List.setIfInBounds_toArray, List.set_cons_zero, List.set_cons_succ]
          refine wpAnyH_ready (rs := [6]) (by kernel_rfl) (by simp) ?_
          refine' AllReadyH.cons (o := ?o31) ?ho31 ?h31 ?hs31
          case ho31 => exact rfl
          case h31 =>
            intro K hK
            refine step_append_run rfl _ _ _ _ rfl _ _ (by rfl) (by rfl) _ _ (HR6.out _) ?_
            refine hK.out _ _ ?_ (fun hHeld => ?_)
            · exact trivial
            clear hK K
            try simp only [Act.put, List.setIfInBounds_toArray, List.set_cons_zero, List.set_cons_succ]
            refine wpAnyH_ready (rs := [14]) (by kernel_rfl) (by simp) ?_
            refine' AllReadyH.cons (o := ?o32) ?ho32 ?h32 ?hs32
            case ho32 => exact rfl
            case h32 =>
              intro K hK
              refine step_append_run rfl _ _ _ _ rfl _ _ (by rfl) (by rfl) _ _ (HR14.out _) ?_
              refine hK.out _ _ ?_ (fun hHeld => ?_)
              · exact trivial
              clear hK K
              try simp only [Act.put, List.setIfInBounds_toArray, List.set_cons_zero, List.set_cons_succ]
              refine' wpAnyH_take (i := 15) (oi := ?oi33) (v := ?v33) ?hi33 ?hs33 ?hf33 ?hr33 ?hQ33 ?hy33 ?hS33 ?rest33
              case hi33 => exact rfl
              case hs33 => kernel_rfl
              case hf33 => kernel_rfl
              case hr33 => kernel_rfl
              case hQ33 => exact fun _ _ _ h => h
              case hS33 => assumption
              case hy33 =>
                refine Or.inl ⟨by rfl, ?_⟩
                intro w hSw
                try dsimp only at hSw
                go_simp
                try with_reducible rfl
              try simp only [Act.put, List.setIfInBounds_toArray, List.set_cons_zero, List.set_cons_succ]
              refine' wpAnyH_take (i := 16) (oi := ?oi34) (v := ?v34) ?hi34 ?hs34 ?hf34 ?hr34 ?hQ34 ?hy34 ?hS34 ?rest34
              case hi34 => exact rfl
              case hs34 => kernel_rfl
              case hf34 => kernel_rfl
              case hr34 => kernel_rfl
              case hQ34 => exact fun _ _ _ h => h
              case hS34 => assumption
              case hy34 =>
                refine Or.inl ⟨by rfl, ?_⟩
                intro w hSw
                try dsimp only at hSw
                go_simp
                try with_reducible rfl
              try simp only [Act.put, List.setIfInBounds_toArray, List.set_cons_zero, List.set_cons_succ]
              refine wpAnyH_ready (rs := [17]) (by kernel_rfl) (by simp) ?_
              refine' AllReadyH.cons (o := ?o35) ?ho35 ?h35 ?hs35
              case ho35 => exact rfl
              case h35 =>
                intro K hK
                go_simp
                refine hK.out _ _ ?_ (fun hHeld => ?_)
                · exact trivial
                clear hK K
                try simp only [Act.put, List.setIfInBounds_toArray, List.set_cons_zero, List.set_cons_succ]
                refine wpAnyH_done (by kernel_rfl) ?_ _
                go_wp2_with fail
                go_ret
                exact ⟨rfl, HRes.out.2⟩
              exact AllReadyH.nil
            exact AllReadyH.nil
          exact AllReadyH.nil
        exact AllReadyH.nil
      exact AllReadyH.nil
    refine' AllReadyH.cons (o := ?o36) ?ho36 ?h36 ?hs36
    case ho36 => exact rfl
    case h36 =>
      intro K hK
      go_simp
      refine hK.out _ _ ?_ (fun hHeld => ?_)
      · exact trivial
      clear hK K
      try simp only [Act.put, List.setIfInBounds_toArray, List.set_cons_zero, List.set_cons_succ]
      refine wpAnyH_ready (rs := [1, 11]) (by kernel_rfl) (by simp) ?_
      refine' AllReadyH.cons (o := ?o37) ?ho37 ?h37 ?hs37
      case ho37 => exact rfl
      case h37 =>
        intro K hK
        go_simp
        refine hK.out _ _ ?_ (fun hHeld => ?_)
        · exact trivial
        clear hK K
        try simp only [Act.put, List.setIfInBounds_toArray, List.set_cons_zero, List.set_cons_succ]
        refine wpAnyH_ready (rs := [6, 11]) (by kernel_rfl) (by simp) ?_
        refine' AllReadyH.cons (o := ?o38) ?ho38 ?h38 ?hs38
        case ho38 => exact rfl
        case h38 =>
          intro K hK
          refine step_append_run rfl _ _ _ _ rfl _ _ (by rfl) (by rfl) _ _ (HR6.out _) ?_
          refine hK.out _ _ ?_ (fun hHeld => ?_)
          · exact trivial
          clear hK K
          try simp only [Act.put, List.setIfInBounds_toArray, List.set_cons_zero, List.set_cons_succ]
          refine wpAnyH_ready (rs := [11]) (by kernel_rfl) (by simp) ?_
          refine' AllReadyH.cons (o := ?o39) ?ho39 ?h39 ?hs39
          case ho39 => exact rfl
          case h39 =>
            intro K hK
            go_simp
            refine hK.out _ _ ?_ (fun hHeld => ?_)
            · exact trivial
            clear hK K
            try simp only [Act.put, List.setIfInBounds_toArray, List.set_cons_zero, List.set_cons_succ]
            refine' wpAnyH_take (i := 12) (oi := ?oi40) (v := ?v40) ?hi40 ?hs40 ?hf40 ?hr40 ?hQ40 ?hy40 ?hS40 ?rest40
            case hi40 => exact rfl
            case hs40 => kernel_rfl
            case hf40 => kernel_rfl
            case hr40 => kernel_rfl
            case hQ40 => exact fun _ _ _ h => h
            case hS40 => assumption
            case hy40 =>
              refine Or.inl ⟨by rfl, ?_⟩
              intro w hSw
              try dsimp only at hSw
              go_simp
              try with_reducible rfl
            try simp only [Act.put, List.setIfInBounds_toArray, List.set_cons_zero, List.set_cons_succ]
            refine' wpAnyH_take (i := 13) (oi := ?oi41) (v := Value.int .i64 (k : Int)) ?hi41 ?hs41 ?hf41 ?hr41 ?hQ41 ?hy41 ?hS41 ?rest41
            case hi41 => exact rfl
            case hs41 => kernel_rfl
            case hf41 => kernel_rfl
            case hr41 => kernel_rfl
            case hQ41 => exact fun _ _ _ h => h
            case hS41 => assumption
            case hy41 =>
              refine Or.inl ⟨by rfl, ?_⟩
              intro w hSw
              try dsimp only at hSw
              go_simp
              try rw [hwr]
            try simp only [Act.put, List.setIfInBounds_toArray, List.set_cons_zero, List.set_cons_succ]
            refine wpAnyH_ready (rs := [14]) (by kernel_rfl) (by simp) ?_
            refine' AllReadyH.cons (o := ?o42) ?ho42 ?h42 ?hs42
            case ho42 => exact rfl
            case h42 =>
              intro K hK
              refine step_append_run rfl _ _ _ _ rfl _ _ (by rfl) (by rfl) _ _ (HR14.out _) ?_
              refine hK.out _ _ ?_ (fun hHeld => ?_)
              · exact trivial
              clear hK K
              try simp only [Act.put, List.setIfInBounds_toArray, List.set_cons_zero, List.set_cons_succ]
              refine' wpAnyH_take (i := 15) (oi := ?oi43) (v := ?v43) ?hi43 ?hs43 ?hf43 ?hr43 ?hQ43 ?hy43 ?hS43 ?rest43
              case hi43 => exact rfl
              case hs43 => kernel_rfl
              case hf43 => kernel_rfl
              case hr43 => kernel_rfl
              case hQ43 => exact fun _ _ _ h => h
              case hS43 => assumption
              case hy43 =>
                refine Or.inl ⟨by rfl, ?_⟩
                intro w hSw
                try dsimp only at hSw
                go_simp
                try with_reducible rfl
              try simp only [Act.put, List.setIfInBounds_toArray, List.set_cons_zero, List.set_cons_succ]
              refine' wpAnyH_take (i := 16) (oi := ?oi44) (v := ?v44) ?hi44 ?hs44 ?hf44 ?hr44 ?hQ44 ?hy44 ?hS44 ?rest44
              case hi44 => exact rfl
              case hs44 => kernel_rfl
              case hf44 => kernel_rfl
              case hr44 => kernel_rfl
              case hQ44 => exact fun _ _ _ h => h
              case hS44 => assumption
              case hy44 =>
                refine Or.inl ⟨by rfl, ?_⟩
                intro w hSw
                try dsimp only at hSw
                go_simp
                try with_reducible rfl
              try simp only [Act.put, List.setIfInBounds_toArray, List.set_cons_zero, List.set_cons_succ]
              refine wpAnyH_ready (rs := [17]) (by kernel_rfl) (by simp) ?_
              refine' AllReadyH.cons (o := ?o45) ?ho45 ?h45 ?hs45
              case ho45 => exact rfl
              case h45 =>
                intro K hK
                go_simp
                refine hK.out _ _ ?_ (fun hHeld => ?_)
                · exact trivial
                clear hK K
                try simp only [Act.put, List.setIfInBounds_toArray, List.set_cons_zero, List.set_cons_succ]
                refine wpAnyH_done (by kernel_rfl) ?_ _
                go_wp2_with fail
                go_ret
                exact ⟨rfl, HRes.out.2⟩
              exact AllReadyH.nil
            exact AllReadyH.nil
          exact AllReadyH.nil
        refine' AllReadyH.cons (o := ?o46) ?ho46 ?h46 ?hs46
        case ho46 => exact rfl
        case h46 =>
          intro K hK
          go_simp
          refine hK.out _ _ ?_ (fun hHeld => ?_)
          · exact trivial
          clear hK K
          try simp only [Act.put, List.setIfInBounds_toArray, List.set_cons_zero, List.set_cons_succ]
          refine' wpAnyH_take (i := 12) (oi := ?oi47) (v := ?v47) ?hi47 ?hs47 ?hf47 ?hr47 ?hQ47 ?hy47 ?hS47 ?rest47
          case hi47 => exact rfl
          case hs47 => kernel_rfl
          case hf47 => kernel_rfl
          case hr47 => kernel_rfl
          case hQ47 => exact fun _ _ _ h => h
          case hS47 => assumption
          case hy47 =>
            refine Or.inl ⟨by rfl, ?_⟩
            intro w hSw
            try dsimp only at hSw
            go_simp
            try with_reducible rfl
          try simp only [Act.put, List.setIfInBounds_toArray, List.set_cons_zero, List.set_cons_succ]
          refine' wpAnyH_take (i := 13) (oi := ?oi48) (v := Value.int .i64 (k : Int)) ?hi48 ?hs48 ?hf48 ?hr48 ?hQ48 ?hy48 ?hS48 ?rest48
          case hi48 => exact rfl
          case hs48 => kernel_rfl
          case hf48 => kernel_rfl
          case hr48 => kernel_rfl
          case hQ48 => exact fun _ _ _ h => h
          case hS48 => assumption
          case hy48 =>
            refine Or.inl ⟨by rfl, ?_⟩
            intro w hSw
            try dsimp only at hSw
            go_simp
            try rw [hwr]
          try simp only [Act.put, List.setIfInBounds_toArray, List.set_cons_zero, List.set_cons_succ]
          refine wpAnyH_ready (rs := [6]) (by kernel_rfl) (by simp) ?_
          refine' AllReadyH.cons (o := ?o49) ?ho49 ?h49 ?hs49
          case ho49 => exact rfl
          case h49 =>
            intro K hK
            refine step_append_run rfl _ _ _ _ rfl _ _ (by rfl) (by rfl) _ _ (HR6.out _) ?_
            refine hK.out _ _ ?_ (fun hHeld => ?_)
            · exact trivial
            clear hK K
            try simp only [Act.put, List.setIfInBounds_toArray, List.set_cons_zero, List.set_cons_succ]
            refine wpAnyH_ready (rs := [14]) (by kernel_rfl) (by simp) ?_
            refine' AllReadyH.cons (o := ?o50) ?ho50 ?h50 ?hs50
            case ho50 => exact rfl
            case h50 =>
              intro K hK
              refine step_append_run rfl _ _ _ _ rfl _ _ (by rfl) (by rfl) _ _ (HR14.out _) ?_
              refine hK.out _ _ ?_ (fun hHeld => ?_)
              · exact trivial
              clear hK K
              try simp only [Act.put, List.setIfInBounds_toArray, List.set_cons_zero, List.set_cons_succ]
              refine' wpAnyH_take (i := 15) (oi := ?oi51) (v := ?v51) ?hi51 ?hs51 ?hf51 ?hr51 ?hQ51 ?hy51 ?hS51 ?rest51
              case hi51 => exact rfl
              case hs51 => kernel_rfl
              case hf51 => kernel_rfl
              case hr51 => kernel_rfl
              case hQ51 => exact fun _ _ _ h => h
              case hS51 => assumption
              case hy51 =>
                refine Or.inl ⟨by rfl, ?_⟩
                intro w hSw
                try dsimp only at hSw
                go_simp
                try with_reducible rfl
              try simp only [Act.put, List.setIfInBounds_toArray, List.set_cons_zero, List.set_cons_succ]
              refine' wpAnyH_take (i := 16) (oi := ?oi52) (v := ?v52) ?hi52 ?hs52 ?hf52 ?hr52 ?hQ52 ?hy52 ?hS52 ?rest52
              case hi52 => exact rfl
              case hs52 => kernel_rfl
              case hf52 => kernel_rfl
              case hr52 => kernel_rfl
              case hQ52 => exact fun _ _ _ h => h
              case hS52 => assumption
              case hy52 =>
                refine Or.inl ⟨by rfl, ?_⟩
                intro w hSw
                try dsimp only at hSw
                go_simp
                try with_reducible rfl
              try simp only [Act.put, List.setIfInBounds_toArray, List.set_cons_zero, List.set_cons_succ]
              refine wpAnyH_ready (rs := [17]) (by kernel_rfl) (by simp) ?_
              refine' AllReadyH.cons (o := ?o53) ?ho53 ?h53 ?hs53
              case ho53 => exact rfl
              case h53 =>
                intro K hK
                go_simp
                refine hK.out _ _ ?_ (fun hHeld => ?_)
                · exact trivial
                clear hK K
                try simp only [Act.put, List.setIfInBounds_toArray, List.set_cons_zero, List.set_cons_succ]
                refine wpAnyH_done (by kernel_rfl) ?_ _
                go_wp2_with fail
                go_ret
                exact ⟨rfl, HRes.out.2⟩
              exact AllReadyH.nil
            exact AllReadyH.nil
          exact AllReadyH.nil
        exact AllReadyH.nil
      refine' AllReadyH.cons (o := ?o54) ?ho54 ?h54 ?hs54
      case ho54 => exact rfl
      case h54 =>
        intro K hK
        go_simp
        refine hK.out _ _ ?_ (fun hHeld => ?_)
        · exact trivial
        clear hK K
        try simp only [Act.put, List.setIfInBounds_toArray, List.set_cons_zero, List.set_cons_succ]
        refine' wpAnyH_take (i := 12) (oi := ?oi55) (v := ?v55) ?hi55 ?hs55 ?hf55 ?hr55 ?hQ55 ?hy55 ?hS55 ?rest55
        case hi55 => exact rfl
        case hs55 => kernel_rfl
        case hf55 => kernel_rfl
        case hr55 => kernel_rfl
        case hQ55 => exact fun _ _ _ h => h
        case hS55 => assumption
        case hy55 =>
          refine Or.inl ⟨by rfl, ?_⟩
          intro w hSw
          try dsimp only at hSw
          go_simp
          try with_reducible rfl
        try simp only [Act.put, List.setIfInBounds_toArray, List.set_cons_zero, List.set_cons_succ]
        refine' wpAnyH_take (i := 13) (oi := ?oi56) (v := Value.int .i64 (k : Int)) ?hi56 ?hs56 ?hf56 ?hr56 ?hQ56 ?hy56 ?hS56 ?rest56
        case hi56 => exact rfl
        case hs56 => kernel_rfl
        case hf56 => kernel_rfl
        case hr56 => kernel_rfl
        case hQ56 => exact fun _ _ _ h => h
        case hS56 => assumption
        case hy56 =>
          refine Or.inl ⟨by rfl, ?_⟩
          intro w hSw
          try dsimp only at hSw
          go_simp
          try rw [hwr]
        try simp only [Act.put, List.setIfInBounds_toArray, List.set_cons_zero, List.set_cons_succ]
        refine wpAnyH_ready (rs := [1]) (by kernel_rfl) (by simp) ?_
        refine' AllReadyH.cons (o := ?o57) ?ho57 ?h57 ?hs57
        case ho57 => exact rfl
        case h57 =>
          intro K hK
          go_simp
          refine hK.out _ _ ?_ (fun hHeld => ?_)
          · exact trivial
          clear hK K
          try simp only [Act.put, List.setIfInBounds_toArray, List.set_cons_zero, List.set_cons_succ]
          refine wpAnyH_ready (rs := [6]) (by kernel_rfl) (by simp) ?_
          refine' AllReadyH.cons (o := ?o58) ?ho58 ?h58 ?hs58
          case ho58 => exact rfl
          case h58 =>
            intro K hK
            refine step_append_run rfl _ _ _ _ rfl _ _ (by rfl) (by rfl) _ _ (HR6.out _) ?_
            refine hK.out _ _ ?_ (fun hHeld => ?_)
            · exact trivial
            clear hK K
            try simp only [Act.put, List.setIfInBounds_toArray, List.set_cons_zero, List.set_cons_succ]
            refine wpAnyH_ready (rs := [14]) (by kernel_rfl) (by simp) ?_
            refine' AllReadyH.cons (o := ?o59) ?ho59 ?h59 ?hs59
            case ho59 => exact rfl
            case h59 =>
              intro K hK
              refine step_append_run rfl _ _ _ _ rfl _ _ (by rfl) (by rfl) _ _ (HR14.out _) ?_
              refine hK.out _ _ ?_ (fun hHeld => ?_)
              · exact trivial
              clear hK K
              try simp only [Act.put, List.setIfInBounds_toArray, List.set_cons_zero, List.set_cons_succ]
              refine' wpAnyH_take (i := 15) (oi := ?oi60) (v := ?v60) ?hi60 ?hs60 ?hf60 ?hr60 ?hQ60 ?hy60 ?hS60 ?rest60
              case hi60 => exact rfl
              case hs60 => kernel_rfl
              case hf60 => kernel_rfl
              case hr60 => kernel_rfl
              case hQ60 => exact fun _ _ _ h => h
              case hS60 => assumption
              case hy60 =>
                refine Or.inl ⟨by rfl, ?_⟩
                intro w hSw
                try dsimp only at hSw
                go_simp
                try with_reducible rfl
              try simp only [Act.put, List.setIfInBounds_toArray, List.set_cons_zero, List.set_cons_succ]
              refine' wpAnyH_take (i := 16) (oi := ?oi61) (v := ?v61) ?hi61 ?hs61 ?hf61 ?hr61 ?hQ61 ?hy61 ?hS61 ?rest61
              case hi61 => exact rfl
              case hs61 => kernel_rfl
              case hf61 => kernel_rfl
              case hr61 => kernel_rfl
              case hQ61 => exact fun _ _ _ h => h
              case hS61 => assumption
              case hy61 =>
                refine Or.inl ⟨by rfl, ?_⟩
                intro w hSw
                try dsimp only at hSw
                go_simp
                try with_reducible rfl
              try simp only [Act.put, List.setIfInBounds_toArray, List.set_cons_zero, List.set_cons_succ]
              refine wpAnyH_ready (rs := [17]) (by kernel_rfl) (by simp) ?_
              refine' AllReadyH.cons (o := ?o62) ?ho62 ?h62 ?hs62
              case ho62 => exact rfl
              case h62 =>
                intro K hK
                go_simp
                refine hK.out _ _ ?_ (fun hHeld => ?_)
                · exact trivial
                clear hK K
                try simp only [Act.put, List.setIfInBounds_toArray, List.set_cons_zero, List.set_cons_succ]
                refine wpAnyH_done (by kernel_rfl) ?_ _
                go_wp2_with fail
                go_ret
                exact ⟨rfl, HRes.out.2⟩
              exact AllReadyH.nil
            exact AllReadyH.nil
          exact AllReadyH.nil
        exact AllReadyH.nil
      exact AllReadyH.nil
    refine' AllReadyH.cons (o := ?o63) ?ho63 ?h63 ?hs63
    case ho63 => exact rfl
    case h63 =>
      intro K hK
      go_simp
      refine hK.out _ _ ?_ (fun hHeld => ?_)
      · exact trivial
      clear hK K
      try simp only [Act.put, List.setIfInBounds_toArray, List.set_cons_zero, List.set_cons_succ]
      refine' wpAnyH_take (i := 12) (oi := ?oi64) (v := ?v64) ?hi64 ?hs64 ?hf64 ?hr64 ?hQ64 ?hy64 ?hS64 ?rest64
      case hi64 => exact rfl
      case hs64 => kernel_rfl
      case hf64 => kernel_rfl
      case hr64 => kernel_rfl
      case hQ64 => exact fun _ _ _ h => h
      case hS64 => assumption
      case hy64 =>
        refine Or.inl ⟨by rfl, ?_⟩
        intro w hSw
        try dsimp only at hSw
        go_simp
        try with_reducible rfl
      try simp only [Act.put, List.setIfInBounds_toArray, List.set_cons_zero, List.set_cons_succ]
      refine' wpAnyH_take (i := 13) (oi := ?oi65) (v := Value.int .i64 (k : Int)) ?hi65 ?hs65 ?hf65 ?hr65 ?hQ65 ?hy65 ?hS65 ?rest65
      case hi65 => exact rfl
      case hs65 => kernel_rfl
      case hf65 => kernel_rfl
      case hr65 => kernel_rfl
      case hQ65 => exact fun _ _ _ h => h
      case hS65 => assumption
      case hy65 =>
        refine Or.inl ⟨by rfl, ?_⟩
        intro w hSw
        try dsimp only at hSw
        go_simp
        try rw [hwr]
      try simp only [Act.put, List.setIfInBounds_toArray, List.set_cons_zero, List.set_cons_succ]
      refine wpAnyH_ready (rs := [1, 5]) (by kernel_rfl) (by simp) ?_
      refine' AllReadyH.cons (o := ?o66) ?ho66 ?h66 ?hs66
      case ho66 => exact rfl
      case h66 =>
        intro K hK
        go_simp
        refine hK.out _ _ ?_ (fun hHeld => ?_)
        · exact trivial
        clear hK K
        try simp only [Act.put, List.setIfInBounds_toArray, List.set_cons_zero, List.set_cons_succ]
        refine wpAnyH_ready (rs := [5]) (by kernel_rfl) (by simp) ?_
        refine' AllReadyH.cons (o := ?o67) ?ho67 ?h67 ?hs67
        case ho67 => exact rfl
        case h67 =>
          intro K hK
          go_simp
          refine hK.out _ _ ?_ (fun hHeld => ?_)
          · exact trivial
          clear hK K
          try simp only [Act.put, List.setIfInBounds_toArray, List.set_cons_zero, List.set_cons_succ]
          refine wpAnyH_ready (rs := [6]) (by kernel_rfl) (by simp) ?_
          refine' AllReadyH.cons (o := ?o68) ?ho68 ?h68 ?hs68
          case ho68 => exact rfl
          case h68 =>
            intro K hK
            refine step_append_run rfl _ _ _ _ rfl _ _ (by rfl) (by rfl) _ _ (HR6.out _) ?_
            refine hK.out _ _ ?_ (fun hHeld => ?_)
            · exact trivial
            clear hK K
            try simp only [Act.put, List.setIfInBounds_toArray, List.set_cons_zero, List.set_cons_succ]
            refine wpAnyH_ready (rs := [14]) (by kernel_rfl) (by simp) ?_
            refine' AllReadyH.cons (o := ?o69) ?ho69 ?h69 ?hs69
            case ho69 => exact rfl
            case h69 =>
              intro K hK
              refine step_append_run rfl _ _ _ _ rfl _ _ (by rfl) (by rfl) _ _ (HR14.out _) ?_
              refine hK.out _ _ ?_ (fun hHeld => ?_)
              · exact trivial
              clear hK K
              try simp only [Act.put, List.setIfInBounds_toArray, List.set_cons_zero, List.set_cons_succ]
              refine' wpAnyH_take (i := 15) (oi := ?oi70) (v := ?v70) ?hi70 ?hs70 ?hf70 ?hr70 ?hQ70 ?hy70 ?hS70 ?rest70
              case hi70 => exact rfl
              case hs70 => kernel_rfl
              case hf70 => kernel_rfl
              case hr70 => kernel_rfl
              case hQ70 => exact fun _ _ _ h => h
              case hS70 => assumption
              case hy70 =>
                refine Or.inl ⟨by rfl, ?_⟩
                intro w hSw
                try dsimp only at hSw
                go_simp
                try with_reducible rfl
              try simp only [Act.put, List.setIfInBounds_toArray, List.set_cons_zero, List.set_cons_succ]
              refine' wpAnyH_take (i := 16) (oi := ?oi71) (v := ?v71) ?hi71 ?hs71 ?hf71 ?hr71 ?hQ71 ?hy71 ?hS71 ?rest71
              case hi71 => exact rfl
              case hs71 => kernel_rfl
              case hf71 => kernel_rfl
              case hr71 => kernel_rfl
              case hQ71 => exact fun _ _ _ h => h
              case hS71 => assumption
              case hy71 =>
                refine Or.inl ⟨by rfl, ?_⟩
                intro w hSw
                try dsimp only at hSw
                go_simp
                try with_reducible rfl
              try simp only [Act.put, List.setIfInBounds_toArray, List.set_cons_zero, List.set_cons_succ]
              refine wpAnyH_ready (rs := [17]) (by kernel_rfl) (by simp) ?_
              refine' AllReadyH.cons (o := ?o72) ?ho72 ?h72 ?hs72
              case ho72 => exact rfl
              case h72 =>
                intro K hK
                go_simp
                refine hK.out _ _ ?_ (fun hHeld => ?_)
                · exact trivial
                clear hK K
                try simp only [Act.put, List.setIfInBounds_toArray, List.set_cons_zero, List.set_cons_succ]
                refine wpAnyH_done (by kernel_rfl) ?_ _
                go_wp2_with fail
                go_ret
                exact ⟨rfl, HRes.out.2⟩
              exact AllReadyH.nil
            exact AllReadyH.nil
          exact AllReadyH.nil
        exact AllReadyH.nil
      refine' AllReadyH.cons (o := ?o73) ?ho73 ?h73 ?hs73
      case ho73 => exact rfl
      case h73 =>
        intro K hK
        go_simp
        refine hK.out _ _ ?_ (fun hHeld => ?_)
        · exact trivial
        clear hK K
        try simp only [Act.put, List.setIfInBounds_toArray, List.set_cons_zero, List.set_cons_succ]
        refine wpAnyH_ready (rs := [1]) (by kernel_rfl) (by simp) ?_
        refine' AllReadyH.cons (o := ?o74) ?ho74 ?h74 ?hs74
        case ho74 => exact rfl
        case h74 =>
          intro K hK
          go_simp
          refine hK.out _ _ ?_ (fun hHeld => ?_)
          · exact trivial
          clear hK K
          try simp only [Act.put, List.setIfInBounds_toArray, List.set_cons_zero, List.set_cons_succ]
          refine wpAnyH_ready (rs := [6]) (by kernel_rfl) (by simp) ?_
          refine' AllReadyH.cons (o := ?o75) ?ho75 ?h75 ?hs75
          case ho75 => exact rfl
          case h75 =>
            intro K hK
            refine step_append_run rfl _ _ _ _ rfl _ _ (by rfl) (by rfl) _ _ (HR6.out _) ?_
            refine hK.out _ _ ?_ (fun hHeld => ?_)
            · exact trivial
            clear hK K
            try simp only [Act.put, List.setIfInBounds_toArray, List.set_cons_zero, List.set_cons_succ]
            refine wpAnyH_ready (rs := [14]) (by kernel_rfl) (by simp) ?_
            refine' AllReadyH.cons (o := ?o76) ?ho76 ?h76 ?hs76
            case ho76 => exact rfl
            case h76 =>
              intro K hK
              refine step_append_run rfl _ _ _ _ rfl _ _ (by rfl) (by rfl) _ _ (HR14.out _) ?_
              refine hK.out _ _ ?_ (fun hHeld => ?_)
              · exact trivial
              clear hK K
              try simp only [Act.put, List.setIfInBounds_toArray, List.set_cons_zero, List.set_cons_succ]
              refine' wpAnyH_take (i := 15) (oi := ?oi77) (v := ?v77) ?hi77 ?hs77 ?hf77 ?hr77 ?hQ77 ?hy77 ?hS77 ?rest77
              case hi77 => exact rfl
              case hs77 => kernel_rfl
              case hf77 => kernel_rfl
              case hr77 => kernel_rfl
              case hQ77 => exact fun _ _ _ h => h
              case hS77 => assumption
              case hy77 =>
                refine Or.inl ⟨by rfl, ?_⟩
                intro w hSw
                try dsimp only at hSw
                go_simp
                try with_reducible rfl
              try simp only [Act.put, List.setIfInBounds_toArray, List.set_cons_zero, List.set_cons_succ]
              refine' wpAnyH_take (i := 16) (oi := ?oi78) (v := ?v78) ?hi78 ?hs78 ?hf78 ?hr78 ?hQ78 ?hy78 ?hS78 ?rest78
              case hi78 => exact rfl
              case hs78 => kernel_rfl
              case hf78 => kernel_rfl
              case hr78 => kernel_rfl
              case hQ78 => exact fun _ _ _ h => h
              case hS78 => assumption
              case hy78 =>
                refine Or.inl ⟨by rfl, ?_⟩
                intro w hSw
                try dsimp only at hSw
                go_simp
                try with_reducible rfl
              try simp only [Act.put, List.setIfInBounds_toArray, List.set_cons_zero, List.set_cons_succ]
              refine wpAnyH_ready (rs := [17]) (by kernel_rfl) (by simp) ?_
              refine' AllReadyH.cons (o := ?o79) ?ho79 ?h79 ?hs79
              case ho79 => exact rfl
              case h79 =>
                intro K hK
                go_simp
                refine hK.out _ _ ?_ (fun hHeld => ?_)
                · exact trivial
                clear hK K
                try simp only [Act.put, List.setIfInBounds_toArray, List.set_cons_zero, List.set_cons_succ]
                refine wpAnyH_done (by kernel_rfl) ?_ _
                go_wp2_with fail
                go_ret
                exact ⟨rfl, HRes.out.2⟩
              exact AllReadyH.nil
            exact AllReadyH.nil
          exact AllReadyH.nil
        exact AllReadyH.nil
      exact AllReadyH.nil
    exact AllReadyH.nil
  · rw [show growJ L n = (2, L) by unfold growJ; rw [if_neg hr]]
    have HRes := Lib.hid (h.same (grown_refl w none))
    rcases (show n < (L.length : Int) ∨ (¬ n < (L.length : Int) ∧ n > 4096) by omega) with d0 | ⟨d0, d1⟩
    all_goals
      clear h hk hr hn
      go_enter Try.func12, Try.ntmps12
      go_wp2_with fail
      go_ret
      exact ⟨rfl, HRes.out⟩
end
end Go.Proofs.Ytohealhkgmagmaa
