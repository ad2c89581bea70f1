/- Package spread (landed): Grow. -/
import Derived.Test.YtohealhkgmagmaaJDj
namespace Go.Proofs.Ytohealhkgmagmaa
open Go.ChangeShapes Go.WideShapes Go.ChangeAt Go.RowKit Go.Deep
set_option linter.unusedVariables false
set_option linter.unusedSimpArgs false

theorem parts_two {w : World} {B c1 c2 : Nat} {a1 a2 : Option Addr} {R S : List JR} (hn : w.heap[B]? = some (.cells #[.slice a1 R.length c1, .slice a2 S.length c2] 43 (0, 0))) (hR : RunsC w (.slice a1 R.length c1) R) (hS : RunsC w (.slice a2 S.length c2) S) :
    PartsC w (.slice (some ⟨B, 0, none⟩) 2 2) [R, S] := by
  refine ⟨B, rfl, fun i P hP => ?_⟩
  rw [cell_of_row _ _ _ _ _ _ hn]
  match i, hP with
  | 0, hP => cases hP; exact ⟨_, rfl, hR⟩
  | 1, hP => cases hP; exact ⟨_, rfl, hS⟩
  | i + 2, hP => cases hP
section
variable {w w' : World} {p : Nat} {v v' u : Value} {L L' : List Int}
set_option maxRecDepth 100000 in
set_option maxHeartbeats 4000000 in
theorem sp_grow (h : SD w p v L) (hk : JOk L) (n : Int) (hn : okI n) :
    Calls Try.prog 11 #[.pointer (some ⟨p, 0, none⟩), .int .i64 n] w fun e w' => e = .returned (.int .i64 (growJ L n).1) ∧ SL DS w w' p (blkS p v) (growJ L n).2 := by
  have HT := Lib.hid (sp_there h)
  have HLn := Lib.hid (sp_len h hk)
  have hl := hk.len
  by_cases hr : (L.length : Int) ≤ n ∧ n ≤ 4096
  · rw [show growJ L n = (0, L ++ List.replicate (n - L.length).toNat 0) by unfold growJ; rw [if_pos hr]]
    obtain ⟨k, hk2⟩ : ∃ k : Nat, (n - (L.length : Int)).toNat = k := ⟨_, rfl⟩
    have HGr := Lib.hid (grow_runs (L := L) (k := k) n (by omega))
    rw [hk2]
    have HLen := Lib.hid (show ∀ P, P ∈ [runsJ L, blankJ L.length n] → P.length ≤ 5000 from fun P hP => by
      simp only [List.mem_cons, List.not_mem_nil, or_false] at hP
      rcases hP with rfl | rfl
      · have := runs_le hk; omega
      · unfold blankJ; split <;> simp)
    have d0 : decide (n < (L.length : Int)) = false := decide_eq_false (by omega)
    have d1 : decide (n > 4096) = false := decide_eq_false (by omega)
    obtain ⟨sa, sc, hv, -⟩ := h.row.slice
    subst hv
    have HSD := Lib.hid h
    have HK := Lib.hid hk
    have hq0 := neq_ptr_nil
    clear h hk hr hk2 hn
    go_enter Try.func11, Try.ntmps11
    go_wp2_with fail
    refine HT.out.mono ?_
    rintro e w2 ⟨rfl, e2⟩
    subst w2
    go_wp2_with fail
    refine HLn.out.mono ?_
    rintro e w2 ⟨rfl, e2⟩
    subst w2
    go_upto_region 5 with fail
    refine wp_region_held_drew (S := fun _ => True) (by kernel_rfl) trivial (fun hHeld => ?_)
    obtain ⟨wD, hwD, hSd, hGd⟩ : ∃ wD, w.drew = wD ∧ SD wD p (.slice sa (runsJ L).length sc) L ∧ w.grownBy wD none := ⟨_, rfl, HSD.out.grow (grown_drew1 w), grown_drew1 w⟩
    rw [hwD]
    have HSd := Lib.hid hSd
    have HGd := Lib.hid hGd
    clear hSd hGd hwD
    refine' wpAnyH_take (i := 0) (oi := ?oi1) (v := ?v1) ?hi1 ?hs1 ?hf1 ?hr1 ?hQ1 ?hy1 ?hS1 ?rest1
    case hi1 => exact rfl
    case hs1 => kernel_rfl
    case hf1 => kernel_rfl
    case hr1 => kernel_rfl
    case hQ1 => exact fun _ _ _ h => h
    case hS1 => assumption
    case hy1 =>
      refine Or.inl ⟨by rfl, ?_⟩
      intro w hSw
      try dsimp only at hSw
      go_simp
      try with_reducible rfl
    try simp only [Act.put, List.setIfInBounds_toArray, List.set_cons_zero, List.set_cons_succ]
    refine' wpAnyH_take (i := 1) (oi := ?oi2) (v := ?v2) ?hi2 ?hs2 ?hf2 ?hr2 ?hQ2 ?hy2 ?hS2 ?rest2
    case hi2 => exact rfl
    case hs2 => kernel_rfl
    case hf2 => kernel_rfl
    case hr2 => kernel_rfl
    case hQ2 => exact fun _ _ _ h => h
    case hS2 => assumption
    case hy2 =>
      refine Or.inl ⟨by rfl, ?_⟩
      intro w hSw
      try dsimp only at hSw
      go_simp
      try with_reducible rfl
    try simp only [Act.put, List.setIfInBounds_toArray, List.set_cons_zero, List.set_cons_succ]
    refine' wpAnyH_take (i := 2) (oi := ?oi3) (v := ?v3) ?hi3 ?hs3 ?hf3 ?hr3 ?hQ3 ?hy3 ?hS3 ?rest3
    case hi3 => exact rfl
    case hs3 => kernel_rfl
    case hf3 => kernel_rfl
    case hr3 => kernel_rfl
    case hQ3 => exact fun _ _ _ h => h
    case hS3 => assumption
    case hy3 =>
      refine Or.inl ⟨by rfl, ?_⟩
      intro w hSw
      try dsimp only at hSw
      go_simp
      try with_reducible rfl
    try simp only [Act.put, List.setIfInBounds_toArray, List.set_cons_zero, List.set_cons_succ]
    refine' wpAnyH_take (i := 3) (oi := ?oi4) (v := ?v4) ?hi4 ?hs4 ?hf4 ?hr4 ?hQ4 ?hy4 ?hS4 ?rest4
    case hi4 => exact rfl
    case hs4 => kernel_rfl
    case hf4 => kernel_rfl
    case hr4 => kernel_rfl
    case hQ4 => exact fun _ _ _ h => h
    case hS4 => assumption
    case hy4 =>
      refine Or.inl ⟨by rfl, ?_⟩
      intro w hSw
      try dsimp only at hSw
      go_simp
      try with_reducible rfl
    try simp only [Act.put, List.setIfInBounds_toArray, List.set_cons_zero, List.set_cons_succ]
    refine' wpAnyH_take (i := 5) (oi := ?oi5) (v := ?v5) ?hi5 ?hs5 ?hf5 ?hr5 ?hQ5 ?hy5 ?hS5 ?rest5
    case hi5 => exact rfl
    case hs5 => kernel_rfl
    case hf5 => kernel_rfl
    case hr5 => kernel_rfl
    case hQ5 => exact fun _ _ _ h => h
    case hS5 => assumption
    case hy5 =>
      refine Or.inl ⟨by rfl, ?_⟩
      intro w hSw
      try dsimp only at hSw
      go_simp
      try with_reducible rfl
    try simp only [Act.put, List.setIfInBounds_toArray, List.set_cons_zero, List.set_cons_succ]
    refine' wpAnyH_take (i := 7) (oi := ?oi6) (v := ?v6) ?hi6 ?hs6 ?hf6 ?hr6 ?hQ6 ?hy6 ?hS6 ?rest6
    case hi6 => exact rfl
    case hs6 => kernel_rfl
    case hf6 => kernel_rfl
    case hr6 => kernel_rfl
    case hQ6 => exact fun _ _ _ h => h
    case hS6 => assumption
    case hy6 =>
      refine Or.inl ⟨by rfl, ?_⟩
      intro w hSw
      try dsimp only at hSw
      go_simp
      try with_reducible rfl
    try simp only [Act.put, List.setIfInBounds_toArray, List.set_cons_zero, List.set_cons_succ]
    refine wpAnyH_ready (rs := [4, 6]) (by kernel_rfl) (by simp) ?_
    refine' AllReadyH.cons (o := ?o7) ?ho7 ?h7 ?hs7
    case ho7 => exact rfl
    case h7 =>
      intro K hK
      obtain ⟨-, q1⟩ := HSd.out.at
      go_simp
      clear q1
      refine hK.out _ _ ?_ (fun hHeld => ?_)
      · exact trivial
      clear hK K
      try simp only [List.getElem_toArray, List.getElem_cons_succ, List.getElem_cons_zero, Act.put, List.setIfInBounds_toArray, List.set_cons_zero, List.set_cons_succ]
      refine wpAnyH_ready (rs := [6]) (by kernel_rfl) (by simp) ?_
      refine' AllReadyH.cons (o := ?o8) ?ho8 ?h8 ?hs8
      case ho8 => exact rfl
      case h8 =>
        intro K hK
        have HL2 := Lib.hid (sp_len HSd.out HK.out)
        go_simp
        refine HL2.out.mono ?_
        rintro e w9 ⟨rfl, e9⟩
        subst w9
        go_wp2_with fail
        refine hK.out _ _ ?_ (fun hHeld => ?_)
        · exact trivial
        clear hK K
        try simp only [List.getElem_toArray, List.getElem_cons_succ, List.getElem_cons_zero, Act.put, List.setIfInBounds_toArray, List.set_cons_zero, List.set_cons_succ]
        refine wpAnyH_ready (rs := [8]) (by kernel_rfl) (by simp) ?_
        refine' AllReadyH.cons (o := ?o9) ?ho9 ?h9 ?hs9
        case ho9 => exact rfl
        case h9 =>
          intro K hK
          have HL3 := Lib.hid (blank_ok wD L.length n)
          go_simp
          refine HL3.out.mono ?_
          rintro e W3 ⟨ub, rfl, hub, oub, gg3⟩
          obtain ⟨ab, cb, hvb, -⟩ := hub.slice
          have HB3 := Lib.hid hub
          subst hvb
          have HS3 := Lib.hid (HSd.out.grow gg3)
          have HG3 := Lib.hid (grown_trans HGd.out gg3)
          clear hub oub gg3
          go_wp2_with fail
          refine hK.out _ _ ?_ (fun hHeld => ?_)
          · exact trivial
          clear hK K
          try simp only [List.getElem_toArray, List.getElem_cons_succ, List.getElem_cons_zero, Act.put, List.setIfInBounds_toArray, List.set_cons_zero, List.set_cons_succ]
          refine wpAnyH_ready (rs := [9]) (by kernel_rfl) (by simp) ?_
          refine' AllReadyH.cons (o := ?o10) ?ho10 ?h10 ?hs10
          case ho10 => exact rfl
          case h10 =>
            intro K hK
            have gg4 := World.grownBy_alloc W3 (.cells #[.slice sa (runsJ L).length sc, .slice ab (blankJ L.length n).length cb] 43) none
            have hn4 := heap_alloc_new W3 (.cells #[.slice sa (runsJ L).length sc, .slice ab (blankJ L.length n).length cb] 43)
            go_simp
            generalize hw4 : W3.alloc (.cells #[.slice sa (runsJ L).length sc, .slice ab (blankJ L.length n).length cb] 43 (0, 0)) = W4 at hn4 gg4 ⊢
            have HS4 := Lib.hid (HS3.out.grow gg4)
            have HG4 := Lib.hid (grown_trans HG3.out gg4)
            have HB4 := Lib.hid (HB3.out.grow gg4)
            have HP4 := Lib.hid (parts_two hn4 HS4.out.row HB4.out)
            clear hn4 gg4 hw4
            refine hK.out _ _ ?_ (fun hHeld => ?_)
            · exact trivial
            clear hK K
            try simp only [List.getElem_toArray, List.getElem_cons_succ, List.getElem_cons_zero, Act.put, List.setIfInBounds_toArray, List.set_cons_zero, List.set_cons_succ]
            refine wpAnyH_ready (rs := [10]) (by kernel_rfl) (by simp) ?_
            refine' AllReadyH.cons (o := ?o11) ?ho11 ?h11 ?hs11
            case ho11 => exact rfl
            case h11 =>
              intro K hK
              have hj5 := join_ok HP4.out (by simp) HLen.out
              rw [HGr.out] at hj5
              have HJ5 := Lib.hid hj5
              clear hj5
              go_simp
              refine HJ5.out.mono ?_
              rintro e W5 ⟨uJ, rfl, hJ, oJ, gg5⟩
              obtain ⟨aJ, cJ, hvJ, -⟩ := hJ.slice
              have HR5 := Lib.hid hJ
              have HS5 := Lib.hid (HS4.out.grow gg5)
              have HG5 := Lib.hid (grown_trans HG4.out gg5)
              have HO5 := Lib.hid (HSD.out.other HG5.out hJ fun b e => by have := oJ b e; have := HG4.out.size; omega)
              subst hvJ
              clear hJ oJ gg5
              go_wp2_with fail
              refine hK.out _ _ ?_ (fun hHeld => ?_)
              · exact trivial
              clear hK K
              try simp only [List.getElem_toArray, List.getElem_cons_succ, List.getElem_cons_zero, Act.put, List.setIfInBounds_toArray, List.set_cons_zero, List.set_cons_succ]
              refine' wpAnyH_take (i := 11) (oi := ?oi12) (v := ?v12) ?hi12 ?hs12 ?hf12 ?hr12 ?hQ12 ?hy12 ?hS12 ?rest12
              case hi12 => exact rfl
              case hs12 => kernel_rfl
              case hf12 => kernel_rfl
              case hr12 => kernel_rfl
              case hQ12 => exact fun _ _ _ h => h
              case hS12 => assumption
              case hy12 =>
                refine Or.inl ⟨by rfl, ?_⟩
                intro w hSw
                try dsimp only at hSw
                go_simp
                try with_reducible rfl
              try simp only [Act.put, List.setIfInBounds_toArray, List.set_cons_zero, List.set_cons_succ]
              refine' wpAnyH_take (i := 12) (oi := ?oi13) (v := ?v13) ?hi13 ?hs13 ?hf13 ?hr13 ?hQ13 ?hy13 ?hS13 ?rest13
              case hi13 => exact rfl
              case hs13 => kernel_rfl
              case hf13 => kernel_rfl
              case hr13 => kernel_rfl
              case hQ13 => exact fun _ _ _ h => h
              case hS13 => assumption
              case hy13 =>
                refine Or.inl ⟨by rfl, ?_⟩
                intro w hSw
                try dsimp only at hSw
                go_simp
                try with_reducible rfl
              try simp only [Act.put, List.setIfInBounds_toArray, List.set_cons_zero, List.set_cons_succ]
              refine wpAnyH_ready (rs := [13]) (by kernel_rfl) (by simp) ?_
              refine' AllReadyH.cons (o := ?o14) ?ho14 ?h14 ?hs14
              case ho14 => exact rfl
              case h14 =>
                intro K hK
                obtain ⟨-, q1⟩ := HS5.out.at
                have qf := HS5.out.frozen 1
                go_simp
                clear q1 qf
                refine hK.out _ _ ?_ (fun hHeld => ?_)
                · exact trivial
                clear hK K
                try simp only [List.getElem_toArray, List.getElem_cons_succ, List.getElem_cons_zero, Act.put, List.setIfInBounds_toArray, List.set_cons_zero, List.set_cons_succ]
                refine wpAnyH_done (by kernel_rfl) ?_ _
                try simp only [List.getElem_toArray, List.getElem_cons_succ, List.getElem_cons_zero, Act.put, List.setIfInBounds_toArray, List.set_cons_zero, List.set_cons_succ]
                go_wp2_with fail
                go_ret
                exact ⟨rfl, HO5.out⟩
              exact AllReadyH.nil
            exact AllReadyH.nil
          exact AllReadyH.nil
        exact AllReadyH.nil
      exact AllReadyH.nil
    refine' AllReadyH.cons (o := ?o15) ?ho15 ?h15 ?hs15
    case ho15 => exact rfl
    case h15 =>
      intro K hK
      have HL7 := Lib.hid (sp_len HSd.out HK.out)
      go_simp
      refine HL7.out.mono ?_
      rintro e w9 ⟨rfl, e9⟩
      subst w9
      go_wp2_with fail
      refine hK.out _ _ ?_ (fun hHeld => ?_)
      · exact trivial
      clear hK K
      try simp only [List.getElem_toArray, List.getElem_cons_succ, List.getElem_cons_zero, Act.put, List.setIfInBounds_toArray, List.set_cons_zero, List.set_cons_succ]
      refine wpAnyH_ready (rs := [4, 8]) (by kernel_rfl) (by simp) ?_
      refine' AllReadyH.cons (o := ?o16) ?ho16 ?h16 ?hs16
      case ho16 => exact rfl
      case h16 =>
        intro K hK
        obtain ⟨-, q1⟩ := HSd.out.at
        go_simp
        clear q1
        refine hK.out _ _ ?_ (fun hHeld => ?_)
        · exact trivial
        clear hK K
        try simp only [List.getElem_toArray, List.getElem_cons_succ, List.getElem_cons_zero, Act.put, List.setIfInBounds_toArray, List.set_cons_zero, List.set_cons_succ]
        refine wpAnyH_ready (rs := [8]) (by kernel_rfl) (by simp) ?_
        refine' AllReadyH.cons (o := ?o17) ?ho17 ?h17 ?hs17
        case ho17 => exact rfl
        case h17 =>
          intro K hK
          have HL9 := Lib.hid (blank_ok wD L.length n)
          go_simp
          refine HL9.out.mono ?_
          rintro e W9 ⟨ub, rfl, hub, oub, gg9⟩
          obtain ⟨ab, cb, hvb, -⟩ := hub.slice
          have HB9 := Lib.hid hub
          subst hvb
          have HS9 := Lib.hid (HSd.out.grow gg9)
          have HG9 := Lib.hid (grown_trans HGd.out gg9)
          clear hub oub gg9
          go_wp2_with fail
          refine hK.out _ _ ?_ (fun hHeld => ?_)
          · exact trivial
          clear hK K
          try simp only [List.getElem_toArray, List.getElem_cons_succ, List.getElem_cons_zero, Act.put, List.setIfInBounds_toArray, List.set_cons_zero, List.set_cons_succ]
          refine wpAnyH_ready (rs := [9]) (by kernel_rfl) (by simp) ?_
          refine' AllReadyH.cons (o := ?o18) ?ho18 ?h18 ?hs18
          case ho18 => exact rfl
          case h18 =>
            intro K hK
            have gg10 := World.grownBy_alloc W9 (.cells #[.slice sa (runsJ L).length sc, .slice ab (blankJ L.length n).length cb] 43) none
            have hn10 := heap_alloc_new W9 (.cells #[.slice sa (runsJ L).length sc, .slice ab (blankJ L.length n).length cb] 43)
            go_simp
            generalize hw10 : W9.alloc (.cells #[.slice sa (runsJ L).length sc, .slice ab (blankJ L.length n).length cb] 43 (0, 0)) = W10 at hn10 gg10 ⊢
            have HS10 := Lib.hid (HS9.out.grow gg10)
            have HG10 := Lib.hid (grown_trans HG9.out gg10)
            have HB10 := Lib.hid (HB9.out.grow gg10)
            have HP10 := Lib.hid (parts_two hn10 HS10.out.row HB10.out)
            clear hn10 gg10 hw10
            refine hK.out _ _ ?_ (fun hHeld => ?_)
            · exact trivial
            clear hK K
            try simp only [List.getElem_toArray, List.getElem_cons_succ, List.getElem_cons_zero, Act.put, List.setIfInBounds_toArray, List.set_cons_zero, List.set_cons_succ]
            refine wpAnyH_ready (rs := [10]) (by kernel_rfl) (by simp) ?_
            refine' AllReadyH.cons (o := ?o19) ?ho19 ?h19 ?hs19
            case ho19 => exact rfl
            case h19 =>
              intro K hK
              have hj11 := join_ok HP10.out (by simp) HLen.out
              rw [HGr.out] at hj11
              have HJ11 := Lib.hid hj11
              clear hj11
              go_simp
              refine HJ11.out.mono ?_
              rintro e W11 ⟨uJ, rfl, hJ, oJ, gg11⟩
              obtain ⟨aJ, cJ, hvJ, -⟩ := hJ.slice
              have HR11 := Lib.hid hJ
              have HS11 := Lib.hid (HS10.out.grow gg11)
              have HG11 := Lib.hid (grown_trans HG10.out gg11)
              have HO11 := Lib.hid (HSD.out.other HG11.out hJ fun b e => by have := oJ b e; have := HG10.out.size; omega)
              subst hvJ
              clear hJ oJ gg11
              go_wp2_with fail
              refine hK.out _ _ ?_ (fun hHeld => ?_)
              · exact trivial
              clear hK K
              try simp only [List.getElem_toArray, List.getElem_cons_succ, List.getElem_cons_zero, Act.put, List.setIfInBounds_toArray, List.set_cons_zero, List.set_cons_succ]
              refine' wpAnyH_take (i := 11) (oi := ?oi20) (v := ?v20) ?hi20 ?hs20 ?hf20 ?hr20 ?hQ20 ?hy20 ?hS20 ?rest20
              case hi20 => exact rfl
              case hs20 => kernel_rfl
              case hf20 => kernel_rfl
              case hr20 => kernel_rfl
              case hQ20 => exact fun _ _ _ h => h
              case hS20 => assumption
              case hy20 =>
                refine Or.inl ⟨by rfl, ?_⟩
                intro w hSw
                try dsimp only at hSw
                go_simp
                try with_reducible rfl
              try simp only [Act.put, List.setIfInBounds_toArray, List.set_cons_zero, List.set_cons_succ]
              refine' wpAnyH_take (i := 12) (oi := ?oi21) (v := ?v21) ?hi21 ?hs21 ?hf21 ?hr21 ?hQ21 ?hy21 ?hS21 ?rest21
              case hi21 => exact rfl
              case hs21 => kernel_rfl
              case hf21 => kernel_rfl
              case hr21 => kernel_rfl
              case hQ21 => exact fun _ _ _ h => h
              case hS21 => assumption
              case hy21 =>
                refine Or.inl ⟨by rfl, ?_⟩
                intro w hSw
                try dsimp only at hSw
                go_simp
                try with_reducible rfl
              try simp only [Act.put, List.setIfInBounds_toArray, List.set_cons_zero, List.set_cons_succ]
              refine wpAnyH_ready (rs := [13]) (by kernel_rfl) (by simp) ?_
              refine' AllReadyH.cons (o := ?o22) ?ho22 ?h22 ?hs22
              case ho22 => exact rfl
              case h22 =>
                intro K hK
                obtain ⟨-, q1⟩ := HS11.out.at
                have qf := HS11.out.frozen 1
                go_simp
                clear q1 qf
                refine hK.out _ _ ?_ (fun hHeld => ?_)
                · exact trivial
                clear hK K
                try simp only [List.getElem_toArray, List.getElem_cons_succ, List.getElem_cons_zero, Act.put, List.setIfInBounds_toArray, List.set_cons_zero, List.set_cons_succ]
                refine wpAnyH_done (by kernel_rfl) ?_ _
                try simp only [List.getElem_toArray, List.getElem_cons_succ, List.getElem_cons_zero, Act.put, List.setIfInBounds_toArray, List.set_cons_zero, List.set_cons_succ]
                go_wp2_with fail
                go_ret
                exact ⟨rfl, HO11.out⟩
              exact AllReadyH.nil
            exact AllReadyH.nil
          exact AllReadyH.nil
        exact AllReadyH.nil
      refine' AllReadyH.cons (o := ?o23) ?ho23 ?h23 ?hs23
      case ho23 => exact rfl
      case h23 =>
        intro K hK
        have HL13 := Lib.hid (blank_ok wD L.length n)
        go_simp
        refine HL13.out.mono ?_
        rintro e W13 ⟨ub, rfl, hub, oub, gg13⟩
        obtain ⟨ab, cb, hvb, -⟩ := hub.slice
        have HB13 := Lib.hid hub
        subst hvb
        have HS13 := Lib.hid (HSd.out.grow gg13)
        have HG13 := Lib.hid (grown_trans HGd.out gg13)
        clear hub oub gg13
        go_wp2_with fail
        refine hK.out _ _ ?_ (fun hHeld => ?_)
        · exact trivial
        clear hK K
        try simp only [List.getElem_toArray, List.getElem_cons_succ, List.getElem_cons_zero, Act.put, List.setIfInBounds_toArray, List.set_cons_zero, List.set_cons_succ]
        refine wpAnyH_ready (rs := [4]) (by kernel_rfl) (by simp) ?_
        refine' AllReadyH.cons (o := ?o24) ?ho24 ?h24 ?hs24
        case ho24 => exact rfl
        case h24 =>
          intro K hK
          obtain ⟨-, q1⟩ := HS13.out.at
          go_simp
          clear q1
          refine hK.out _ _ ?_ (fun hHeld => ?_)
          · exact trivial
          clear hK K
          try simp only [List.getElem_toArray, List.getElem_cons_succ, List.getElem_cons_zero, Act.put, List.setIfInBounds_toArray, List.set_cons_zero, List.set_cons_succ]
          refine wpAnyH_ready (rs := [9]) (by kernel_rfl) (by simp) ?_
          refine' AllReadyH.cons (o := ?o25) ?ho25 ?h25 ?hs25
          case ho25 => exact rfl
          case h25 =>
            intro K hK
            have gg15 := World.grownBy_alloc W13 (.cells #[.slice sa (runsJ L).length sc, .slice ab (blankJ L.length n).length cb] 43) none
            have hn15 := heap_alloc_new W13 (.cells #[.slice sa (runsJ L).length sc, .slice ab (blankJ L.length n).length cb] 43)
            go_simp
            generalize hw15 : W13.alloc (.cells #[.slice sa (runsJ L).length sc, .slice ab (blankJ L.length n).length cb] 43 (0, 0)) = W15 at hn15 gg15 ⊢
            have HS15 := Lib.hid (HS13.out.grow gg15)
            have HG15 := Lib.hid (grown_trans HG13.out gg15)
            have HB15 := Lib.hid (HB13.out.grow gg15)
            have HP15 := Lib.hid (parts_two hn15 HS15.out.row HB15.out)
            clear hn15 gg15 hw15
            refine hK.out _ _ ?_ (fun hHeld => ?_)
            · exact trivial
            clear hK K
            try simp only [List.getElem_toArray, List.getElem_cons_succ, List.getElem_cons_zero, Act.put, List.setIfInBounds_toArray, List.set_cons_zero, List.set_cons_succ]
            refine wpAnyH_ready (rs := [10]) (by kernel_rfl) (by simp) ?_
            refine' AllReadyH.cons (o := ?o26) ?ho26 ?h26 ?hs26
            case ho26 => exact rfl
            case h26 =>
              intro K hK
              have hj16 := join_ok HP15.out (by simp) HLen.out
              rw [HGr.out] at hj16
              have HJ16 := Lib.hid hj16
              clear hj16
              go_simp
              refine HJ16.out.mono ?_
              rintro e W16 ⟨uJ, rfl, hJ, oJ, gg16⟩
              obtain ⟨aJ, cJ, hvJ, -⟩ := hJ.slice
              have HR16 := Lib.hid hJ
              have HS16 := Lib.hid (HS15.out.grow gg16)
              have HG16 := Lib.hid (grown_trans HG15.out gg16)
              have HO16 := Lib.hid (HSD.out.other HG16.out hJ fun b e => by have := oJ b e; have := HG15.out.size; omega)
              subst hvJ
              clear hJ oJ gg16
              go_wp2_with fail
              refine hK.out _ _ ?_ (fun hHeld => ?_)
              · exact trivial
              clear hK K
              try simp only [List.getElem_toArray, List.getElem_cons_succ, List.getElem_cons_zero, Act.put, List.setIfInBounds_toArray, List.set_cons_zero, List.set_cons_succ]
              refine' wpAnyH_take (i := 11) (oi := ?oi27) (v := ?v27) ?hi27 ?hs27 ?hf27 ?hr27 ?hQ27 ?hy27 ?hS27 ?rest27
              case hi27 => exact rfl
              case hs27 => kernel_rfl
              case hf27 => kernel_rfl
              case hr27 => kernel_rfl
              case hQ27 => exact fun _ _ _ h => h
              case hS27 => assumption
              case hy27 =>
                refine Or.inl ⟨by rfl, ?_⟩
                intro w hSw
                try dsimp only at hSw
                go_simp
                try with_reducible rfl
              try simp only [Act.put, List.setIfInBounds_toArray, List.set_cons_zero, List.set_cons_succ]
              refine' wpAnyH_take (i := 12) (oi := ?oi28) (v := ?v28) ?hi28 ?hs28 ?hf28 ?hr28 ?hQ28 ?hy28 ?hS28 ?rest28
              case hi28 => exact rfl
              case hs28 => kernel_rfl
              case hf28 => kernel_rfl
              case hr28 => kernel_rfl
              case hQ28 => exact fun _ _ _ h => h
              case hS28 => assumption
              case hy28 =>
                refine Or.inl ⟨by rfl, ?_⟩
                intro w hSw
                try dsimp only at hSw
                go_simp
                try with_reducible rfl
              try simp only [Act.put, List.setIfInBounds_toArray, List.set_cons_zero, List.set_cons_succ]
              refine wpAnyH_ready (rs := [13]) (by kernel_rfl) (by simp) ?_
              refine' AllReadyH.cons (o := ?o29) ?ho29 ?h29 ?hs29
              case ho29 => exact rfl
              case h29 =>
                intro K hK
                obtain ⟨-, q1⟩ := HS16.out.at
                have qf := HS16.out.frozen 1
                go_simp
                clear q1 qf
                refine hK.out _ _ ?_ (fun hHeld => ?_)
                · exact trivial
                clear hK K
                try simp only [List.getElem_toArray, List.getElem_cons_succ, List.getElem_cons_zero, Act.put, List.setIfInBounds_toArray, List.set_cons_zero, List.set_cons_succ]
                refine wpAnyH_done (by kernel_rfl) ?_ _
                try simp only [List.getElem_toArray, List.getElem_cons_succ, List.getElem_cons_zero, Act.put, List.setIfInBounds_toArray, List.set_cons_zero, List.set_cons_succ]
                go_wp2_with fail
                go_ret
                exact ⟨rfl, HO16.out⟩
              exact AllReadyH.nil
            exact AllReadyH.nil
          exact AllReadyH.nil
        exact AllReadyH.nil
      exact AllReadyH.nil
    exact AllReadyH.nil
  · rw [show growJ L n = (2, L) by unfold growJ; rw [if_neg hr]]
    have HRes := Lib.hid (h.same (grown_refl w none))
    rcases (show n < (L.length : Int) ∨ (¬ n < (L.length : Int) ∧ n > 4096) by omega) with d0 | ⟨d0, d1⟩
    all_goals
      clear h hk hr hn
      go_enter Try.func11, Try.ntmps11
      go_wp2_with fail
      refine HT.out.mono ?_
      rintro e w2 ⟨rfl, e2⟩
      subst w2
      go_wp2_with fail
      refine HLn.out.mono ?_
      rintro e w2 ⟨rfl, e2⟩
      subst w2
      go_wp2_with fail
      go_ret
      exact ⟨rfl, HRes.out⟩
end
end Go.Proofs.Ytohealhkgmagmaa
