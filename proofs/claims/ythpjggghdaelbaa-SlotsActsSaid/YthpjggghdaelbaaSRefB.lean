/- The document's layer 8: set, Give, Spoil, TakeRun, Take. -/
import Derived.Test.YthpjggghdaelbaaSRefA
namespace Go.Proofs.Ythpjggghdaelbaa
open Go.ChangeShapes Go.WideShapes Go.ChangeAt Go.RowKit Go.Deep
set_option linter.unusedVariables false

section
variable {w w' : World} {q g c : Nat} {L : List Int}
set_option maxHeartbeats 1000000 in
theorem rf_set (h : RS w q L g c) (i : Nat) (hi : i < L.length) (x : Int) (hx : x = 0 ∨ x = 1 ∨ x = 2) :
    Calls Try.prog 28 #[.pointer (some ⟨q, 0, none⟩), .int .i64 (i : Int), .int .i64 x] w fun e w' => e = .returned (.tuple #[]) ∧ RLeft w w' q (L.set i x) g := by
  have gc := World.grownBy_alloc w (.cells #[] 3 (0, 0)) none
  have HN := Lib.hid (heap_alloc_new w (.cells #[] 3 (0, 0)))
  have HC := Lib.hid (h.grow gc)
  obtain ⟨c0, f0⟩ := (h.grow gc).at
  have HG := Lib.hid gc
  have HL := Lib.hid h
  have HI := Lib.hid hi
  have HX := Lib.hid hx
  have hl0 : 1 ≤ L.length := by omega
  have hl1 := h.good.len
  have hqw := Lib.hid h.qlt
  clear gc h hx
  go_enter Try.func28, Try.ntmps28
  go_wp2_with (at_builtin; refine wpList_ints rfl _ _ rfl HN.out rfl rfl HC.out.row hl0 hl1 ?_; intro g9 c9 w9 hle9 hrow9 gr9; have HR9 := Lib.hid hrow9; have HLE := Lib.hid hle9; have G9 := Lib.hid gr9; have hp9 := (gr9.block q HC.out.qlt (fun e => (by have := hqw.out; have := Option.some.inj e; omega))).trans HC.out.head; have cp9 : w9.cell? ⟨q, 0, none⟩ = some (.slice (some ⟨g, 0, none⟩) L.length c) := (by rw [cell_of_row _ _ _ _ _ _ hp9]; rfl); have fp9 := frozen_of_row w9 q 0 _ _ hp9; have HP9 := Lib.hid hp9; have hne9 : g9 ≠ q := (by have := hqw.out; have : w.heap.size ≤ g9 := hle9; omega); have z9 := (hrow9.at (get_getD hi)).2; have e9 := ((hrow9.kept (heap_setCell_other w9 ⟨q, 0, none⟩ g9 (.slice (some ⟨g9, 0, none⟩) L.length c9) (by first | exact hne9 | exact hne9.symm))).at (get_getD hi)).1; clear hp9 hle9 hrow9 gr9)
  go_end0
  have hk : ∀ v : Value, (w9.setCell ⟨q, 0, none⟩ v).heap[g9]? = w9.heap[g9]? := fun v => heap_setCell_other w9 ⟨q, 0, none⟩ g9 v (by first | exact hne9 | exact hne9.symm)
  have hhead : ∀ W : World, ∀ v : Value, (W.setCell ⟨g9, i, none⟩ v).heap[q]? = W.heap[q]? := fun W v => heap_setCell_other W ⟨g9, i, none⟩ q v (by first | exact hne9 | exact hne9.symm)
  refine ⟨rfl, g9, c9, ⟨?_, (HR9.out.kept (hk _)).set i x, HL.out.good.set i HX.out⟩, ?_, .inr HLE.out⟩
  · rw [hhead, List.length_set]
    exact heap_setCell_same w9 q 0 _ _ _ HP9.out
  · refine ((Turn.grown (grown_at HG.out G9.out (Nat.le_refl _))).trans' (Turn.setCell [q] w9 q 0 _ (by simp))).trans (O' := [g9]) (Turn.setCell [g9] _ g9 i _ (by simp)) fun b hb => ?_
    right
    have hb1 : b = g9 := by simpa using hb
    have := HLE.out
    omega

theorem RLeft.trans {w2 : World} {L1 L2 : List Int} (h : RLeft w w' q L1 g) (hk : ∀ g' c', RS w' q L1 g' c' → RLeft w' w2 q L2 g') : RLeft w w2 q L2 g := by
  obtain ⟨g1, c1, h1, h2, h3⟩ := h
  obtain ⟨g2, c2, k1, k2, k3⟩ := hk g1 c1 h1
  refine ⟨g2, c2, k1, h2.trans' k2, ?_⟩
  rcases k3 with rfl | k3
  · exact h3
  · right; have := h2.size; omega

theorem rf_give (h : RS w q L g c) (i : Int) : Calls Try.prog 16 #[.pointer (some ⟨q, 0, none⟩), .int .i64 i] w fun e w' => e = .returned (.bool (giveL L i).b) ∧ RLeft w w' q (giveL L i).L g := by
  have HS := Lib.hid (rf_state h i)
  have H := Lib.hid h
  by_cases h1 : stL L i = 1
  · obtain ⟨k, rfl, hk, hst⟩ := stL_lives (show stL L i ≠ -1 by omega)
    have HW := Lib.hid (rf_set h k hk 0 (.inl rfl))
    unfold giveL
    rw [if_pos h1]
    simp only [Int.toNat_natCast]
    rw [h1] at HS
    clear h h1 hk hst
    go_enter Try.func16, Try.ntmps16
    go_wp2_with fail
    refine HS.out.mono ?_
    rintro e w2 ⟨rfl, e2⟩
    subst w2
    go_wp2_with fail
    refine HW.out.mono ?_
    rintro e w2 ⟨rfl, h2⟩
    have H2 := Lib.hid h2
    clear h2
    go_wp2_with fail
    go_ret
    exact ⟨rfl, H2.out⟩
  · unfold giveL
    rw [if_neg h1]
    have d : (stL L i == 1) = false := beq_eq_false_iff_ne.2 h1
    simp only
    clear h h1
    generalize stL L i = x at *
    go_enter Try.func16, Try.ntmps16
    go_wp2_with fail
    refine HS.out.mono ?_
    rintro e w2 ⟨rfl, e2⟩
    subst w2
    go_wp2_with fail
    go_ret
    exact ⟨rfl, H.out.stay⟩
theorem rf_spoil (h : RS w q L g c) (i : Int) : Calls Try.prog 18 #[.pointer (some ⟨q, 0, none⟩), .int .i64 i] w fun e w' => e = .returned (.bool (spoilL L i).b) ∧ RLeft w w' q (spoilL L i).L g := by
  have HS := Lib.hid (rf_state h i)
  have H := Lib.hid h
  have hge := stL_ge h.good i
  by_cases h1 : stL L i = 0 ∨ stL L i = 1
  · obtain ⟨k, rfl, hk, hst⟩ := stL_lives (show stL L i ≠ -1 by omega)
    have HW := Lib.hid (rf_set h k hk 2 (.inr (.inr rfl)))
    unfold spoilL
    rw [if_pos h1]
    simp only [Int.toNat_natCast]
    clear h hk hst hge
    generalize stL L k = x at *
    rcases h1 with rfl | rfl
    all_goals
      go_enter Try.func18, Try.ntmps18
      go_wp2_with fail
      refine HS.out.mono ?_
      rintro e w2 ⟨rfl, e2⟩
      subst w2
      go_wp2_with fail
      try (refine HS.out.mono ?_; rintro e w2 ⟨rfl, e2⟩; subst w2; go_wp2_with fail)
      refine HW.out.mono ?_
      rintro e w2 ⟨rfl, h2⟩
      have H2 := Lib.hid h2
      clear h2
      go_wp2_with fail
      go_ret
      exact ⟨rfl, H2.out⟩
  · unfold spoilL
    rw [if_neg h1]
    have d0 : (stL L i != 0) = true := bne_iff_ne.2 (by omega)
    have d1 : (stL L i != 1) = true := bne_iff_ne.2 (by omega)
    simp only
    clear h h1 hge
    generalize stL L i = x at *
    go_enter Try.func18, Try.ntmps18
    go_wp2_with fail
    refine HS.out.mono ?_
    rintro e w2 ⟨rfl, e2⟩
    subst w2
    go_wp2_with fail
    refine HS.out.mono ?_
    rintro e w2 ⟨rfl, e2⟩
    subst w2
    go_wp2_with fail
    go_ret
    exact ⟨rfl, H.out.stay⟩

set_option maxHeartbeats 2000000 in
theorem rf_takeRun (h : RS w q L g c) (k : Int) (hk : okI k) : Calls Try.prog 14 #[.pointer (some ⟨q, 0, none⟩), .int .i64 k] w fun e w' => e = .returned (.tuple #[.int .i64 (takeL L k).n, .bool (takeL L k).b]) ∧ RLeft w w' q (takeL L k).L g := by
  obtain ⟨c0, f0⟩ := h.at
  have H := Lib.hid h
  have hl := h.good.len
  have hk1 := hk.2
  by_cases h1 : 1 ≤ k
  · obtain ⟨m, rfl⟩ := Int.eq_ofNat_of_zero_le (show 0 ≤ k by omega)
    have hm1 : 1 ≤ m := by omega
    have hrun : runL L (m : Int) = runN L m := by unfold runL; rw [if_pos h1, Int.toNat_natCast]
    have d0 : decide ((m : Int) ≥ 1) = true := decide_eq_true (by omega)
    obtain ⟨T, hT⟩ : ∃ T, takeL L (m : Int) = T := ⟨_, rfl⟩
    have HT := Lib.hid (show takeL L (m : Int) = T from hT)
    have HRn := Lib.hid hrun
    rw [hT]
    clear h hT hrun hk h1
    go_enter Try.func14, Try.ntmps14
    go_wp2_with fail
    go_loopw [6] (fun fv wr => ∃ f : Nat, f ≤ L.length ∧ fv = .int .i64 f ∧ Hid (∀ j, j < f → ¬ FreeRun L j m) ∧ Hid (wr = w)) (fun fv _ => L.length - (intOf fv).toNat)
    case atStart => exact ⟨0, by omega, rfl, fun j hj => by omega, rfl⟩
    case round =>
      obtain ⟨f, hf, rfl, HF, HW⟩ := hrel
      have hw := HW.out.symm
      subst hw
      by_cases hfit : f + m ≤ L.length
      · have e0 : decide ((m : Int) ≤ (L.length : Int) - (f : Int)) = true := by simp; omega
        go_wp2_with fail
        go_loopw [7, 8] (fun bv iv wr => ∃ (i : Nat) (b : Bool), f ≤ i ∧ i ≤ f + m ∧ iv = .int .i64 i ∧ bv = .bool b ∧ Hid (b = true ↔ ∀ h, f ≤ h → h < i → L.getD h 0 = 0) ∧ Hid (wr = w)) (fun _ iv _ => f + m - (intOf iv).toNat)
        case atStart => exact ⟨f, true, Nat.le_refl _, by omega, rfl, rfl, ⟨fun _ h h1 h2 => by omega, fun _ => rfl⟩, rfl⟩
        case round =>
          obtain ⟨i, b, hi0, hi1, rfl, rfl, HI, HW2⟩ := hrel
          have hw2 := HW2.out.symm
          subst hw2
          by_cases hlt : i < f + m
          · obtain ⟨x, hx⟩ : ∃ x, L.getD i 0 = x := ⟨_, rfl⟩
            have hxi : L[i]? = some x := by rw [get_getD (by omega), hx]
            obtain ⟨cx, -⟩ := H.out.row.at hxi
            have HX := Lib.hid hx
            clear hx hxi
            have HI2 := Lib.hid (show ((b && x == 0) = true ↔ ∀ h, f ≤ h → h < i + 1 → L.getD h 0 = 0) from by
              rw [Bool.and_eq_true, HI.out, beq_iff_eq]
              constructor
              · rintro ⟨a1, a2⟩ h b1 b2
                by_cases e : h = i
                · subst e; rw [HX.out]; exact a2
                · exact a1 h b1 (by omega)
              · intro a1
                exact ⟨fun h b1 b2 => a1 h b1 (by omega), HX.out ▸ a1 i hi0 (by omega)⟩)
            cases b
            · go_wp2_with fail
              go_roundw
              case rel => exact ⟨i + 1, false, by omega, by omega, by go_num, rfl, by simpa using HI2, by first | exact rfl | exact trivial⟩
              case measure => simp [intOf]; omega
            · go_wp2_with fail
              go_roundw
              case rel => exact ⟨i + 1, x == 0, by omega, by omega, by go_num, by first | rfl | trivial, by simpa using HI2, by first | exact rfl | exact trivial⟩
              case measure => simp [intOf]; omega
          · obtain rfl : i = f + m := by omega
            cases b
            · have HN := Lib.hid (show ∀ j, j < f + 1 → ¬ FreeRun L j m from fun j hj hr => by
                by_cases hjf : j < f
                · exact HF.out j hjf hr
                · have e : j = f := by omega
                  subst e
                  have := HI.out.2 hr.2
                  cases this)
              go_wp2_with fail
              go_roundw
              case rel => exact ⟨f + 1, by omega, by go_num, HN.out, by first | exact rfl | exact trivial⟩
              case measure => simp [intOf]; omega
            · have hfr : FreeRun L f m := ⟨hfit, HI.out.1 rfl⟩
              have hrs : runN L m = some f := runN_some hfr HF.out
              have e := HT.out.symm.trans (show takeL L (m : Int) = ⟨f, true, markL L f m⟩ by unfold takeL; rw [HRn.out, hrs]; simp)
              subst e
              clear hfr hrs
              go_wp2_with fail
              go_loopw [9] (fun iv wr => ∃ i : Nat, f ≤ i ∧ i ≤ f + m ∧ iv = .int .i64 i ∧ Hid (RLeft w wr q (markL L f (i - f)) g)) (fun iv _ => f + m - (intOf iv).toNat)
              case atStart => exact ⟨f, Nat.le_refl _, by omega, rfl, by rw [Nat.sub_self]; exact H.out.stay⟩
              case round =>
                obtain ⟨i, hi0, hi1, rfl, HR⟩ := hrel
                by_cases hlt : i < f + m
                · obtain ⟨g1, c1, r1, t1, o1⟩ := HR.out
                  have hset := rf_set r1 i (by rw [mark_len]; omega) 1 (.inr (.inl rfl))
                  rw [show (markL L f (i - f)).set i 1 = markL L f (i + 1 - f) by rw [show i + 1 - f = (i - f) + 1 by omega, markL, show f + (i - f) = i by omega]] at hset
                  have HC := Lib.hid hset
                  have HZ := Lib.hid (show ∀ w2, RLeft wr w2 q (markL L f (i + 1 - f)) g1 → RLeft w w2 q (markL L f (i + 1 - f)) g from fun w2 k1 => by
                    obtain ⟨g2, c2, k1, k2, k3⟩ := k1
                    refine ⟨g2, c2, k1, t1.trans' k2, ?_⟩
                    rcases k3 with rfl | k3
                    · exact o1
                    · right; have := t1.size; omega)
                  clear hset r1 t1 o1
                  go_wp2_with fail
                  refine HC.out.mono ?_
                  rintro e w2 ⟨rfl, h2⟩
                  have H2 := Lib.hid (HZ.out w2 h2)
                  clear h2
                  go_wp2_with fail
                  go_roundw
                  case rel => exact ⟨i + 1, by omega, by omega, by go_num, H2⟩
                  case measure => simp [intOf]; omega
                · obtain rfl : i = f + m := by omega
                  have hr := HR.out
                  rw [show f + m - f = m by omega] at hr
                  have HR2 := Lib.hid hr
                  clear hr
                  go_wp2_with fail
                  go_ret2
                  exact ⟨rfl, HR2.out⟩
      · have e0 : decide ((m : Int) ≤ (L.length : Int) - (f : Int)) = false := by simp; omega
        have hnone : runN L m = none := runN_none fun j hr => by
          by_cases hjf : j < f
          · exact HF.out j hjf hr
          · have := hr.1; omega
        have e := HT.out.symm.trans (show takeL L (m : Int) = ⟨0, false, L⟩ by unfold takeL; rw [HRn.out, hnone])
        subst e
        clear hnone
        go_wp2_with fail
        go_ret2
        exact ⟨rfl, H.out.stay⟩
  · have d0 : decide (k ≥ 1) = false := decide_eq_false (by omega)
    rw [show takeL L k = ⟨0, false, L⟩ by unfold takeL runL; rw [if_neg h1]]
    clear h h1 hk
    go_enter Try.func14, Try.ntmps14
    go_wp2_with fail
    go_loopw [6] (fun fv wr => fv = .int .i64 0 ∧ Hid (wr = w)) (fun _ _ => 0)
    case atStart => exact ⟨rfl, rfl⟩
    case round =>
      obtain ⟨rfl, HW⟩ := hrel
      have hw := HW.out.symm
      subst hw
      go_wp2_with fail
      go_ret2
      exact ⟨rfl, H.out.stay⟩
theorem rf_take (h : RS w q L g c) : Calls Try.prog 12 #[.pointer (some ⟨q, 0, none⟩)] w fun e w' => e = .returned (.tuple #[.int .i64 (takeL L 1).n, .bool (takeL L 1).b]) ∧ RLeft w w' q (takeL L 1).L g := by
  have HT := Lib.hid (rf_takeRun h 1 ⟨by decide, by decide⟩)
  clear h
  generalize takeL L 1 = T at *
  go_enter Try.func12, Try.ntmps12
  go_wp2_with fail
  refine HT.out.mono ?_
  rintro e w2 ⟨rfl, h2⟩
  have H2 := Lib.hid h2
  clear h2
  go_wp2_with fail
  go_ret2
  exact ⟨rfl, H2.out⟩
end
end Go.Proofs.Ythpjggghdaelbaa
