/- The document's layer 4: Place. -/
import Derived.Test.YtomkhdefjfjlnaaWState
namespace Go.Proofs.Ytomkhdefjfjlnaa
open Go.ChangeShapes Go.WideShapes Go.RowKit
set_option linter.unusedVariables false

section
variable {w0 w w' : World} {r f n : Nat} {R : List Nat} {L : List UInt8}

set_option maxHeartbeats 1000000 in
theorem ref_place (h : RS w0 w r f n R L) (root v : Int) :
    Calls Try.prog 14 #[.pointer (some ⟨r, 0, none⟩), .int .i64 root, .int .i64 v] w fun e w' => e = .returned (plV v (placeOf n L root v)) ∧ w.grownBy w' none := by
  have H := Lib.hid h
  by_cases hr : 0 ≤ root ∧ root < n
  · have HI := Lib.hid (is_any h root true (by simpa using hr))
    by_cases hv0 : v < 0
    · have d0 : decide (v < 0) = true := by simpa using hv0
      have hp : placeOf n L root v = none := by unfold placeOf; rw [if_neg (by omega)]
      rw [hp]
      clear h hr hv0 hp
      go_enter Try.func14, Try.ntmps14
      go_wp2_with fail
      refine HI.out.mono ?_
      rintro e w' ⟨rfl, rfl⟩
      go_wp2_with fail
      go_ret3
      exact ⟨rfl, grown_refl _ _⟩
    · have d0 : decide (v < 0) = false := by simpa using hv0
      by_cases hv1 : v ≥ 134217728
      · have d1 : decide (v ≥ 134217728) = true := by simpa using hv1
        have hp : placeOf n L root v = none := by unfold placeOf; rw [if_neg (by omega)]
        rw [hp]
        clear h hr hv0 hv1 hp
        go_enter Try.func14, Try.ntmps14
        go_wp2_with fail
        refine HI.out.mono ?_
        rintro e w' ⟨rfl, rfl⟩
        go_wp2_with fail
        go_ret3
        exact ⟨rfl, grown_refl _ _⟩
      · have d1 : decide (v ≥ 134217728) = false := by simpa using hv1
        have hp : placeOf n L root v = downOf n L v 2 root := by unfold placeOf; rw [if_pos (by omega)]
        rw [hp]
        have HR := Lib.hid hr
        obtain ⟨D, hD⟩ : ∃ D, downOf n L v 2 root = D := ⟨_, rfl⟩
        rw [hD]
        clear h hr hv0 hv1 hp
        have HD := Lib.hid hD
        clear hD
        go_enter Try.func14, Try.ntmps14
        go_wp2_with fail
        refine HI.out.mono ?_
        rintro e w' ⟨rfl, rfl⟩
        go_wp2_with fail
        go_loopw [9, 10] (fun fv lv wr => ∃ (q : Nat) (fr : Int), q ≤ 2 ∧ lv = .int .i64 q ∧ fv = .int .i64 fr ∧ Hid (0 ≤ fr ∧ fr < n) ∧ Hid (downOf n L v q fr = D) ∧ Hid (w.grownBy wr none) ∧ Hid (RS w0 wr r f n R L)) (fun _ lv _ => (intOf lv).toNat)
        case atStart => exact ⟨2, root, by omega, rfl, rfl, HR.out, HD.out, grown_refl _ _, H.out⟩
        case round =>
          obtain ⟨q, fr, hq, rfl, rfl, HF, HE, HG, HS⟩ := hrel
          match q, hq with
          | 0, _ =>
            have e := Lib.hid (show D = some fr from HE.out.symm)
            go_wp2_with fail
            refine (ref_index_ok _ _ _).mono ?_
            rintro e w' ⟨rfl, rfl⟩
            go_wp2_with fail
            go_ret3
            rw [e.out]
            exact ⟨rfl, HG.out⟩
          | k + 1, hq =>
            have hl : ((k + 1 : Nat) : Int) = (k : Int) + 1 := by omega
            have hx := wordI_ok n L fr (indexOf v ((k : Int) + 1))
            obtain ⟨X, hX⟩ : ∃ X, wordI n L fr (indexOf v ((k : Int) + 1)) = X := ⟨_, rfl⟩
            rw [hX] at hx
            have HDc := Lib.hid (ref_decode_ok X hx)
            have HK0 := ref_kind_ok (flagOf X) (ppnOf X)
            have hnext : nextOf n L v fr ((k + 1 : Nat) : Int) = if kindOf (flagOf X) = 1 ∧ 0 ≤ ppnOf X ∧ ppnOf X < n then some (ppnOf X) else none := by unfold nextOf; rw [hl, hX]
            have HX := Lib.hid hX
            clear hx hX hl
            by_cases hk : kindOf (flagOf X) = 1
            · rw [hk] at HK0
              by_cases hb : 0 ≤ ppnOf X ∧ ppnOf X < n
              · rw [if_pos ⟨hk, hb⟩] at hnext
                have HB := Lib.hid hb
                have HE2 := Lib.hid ((down_some hnext).symm.trans HE.out)
                have HK := Lib.hid HK0
                clear hk hb hnext HK0
                generalize flagOf X = A at *
                generalize ppnOf X = B at *
                go_wp2_with fail
                refine (ref_index_ok _ _ _).mono ?_
                rintro e w' ⟨rfl, rfl⟩
                go_wp2_with fail
                refine (rword_at HS.out _ _).mono ?_
                rintro e w' ⟨rfl, rfl⟩
                rw [HX.out]
                go_wp2_with fail
                refine (HDc.out _).mono ?_
                rintro e w2 ⟨rfl, h2⟩
                have HN2 := Lib.hid (EntAt.new w2 A B 40)
                have HG2 := Lib.hid (grown_trans HG.out (grown_trans (grown_of_below' h2) (World.grownBy_alloc w2 (.cells #[.int .i64 A, .int .i64 B] 40) none)))
                have HS2 := Lib.hid ((HS.out.grow (grown_of_below' h2)).grow (World.grownBy_alloc w2 (.cells #[.int .i64 A, .int .i64 B] 40) none))
                clear h2
                go_wp2_with fail
                refine (HK.out _).mono ?_
                rintro e w3 ⟨rfl, h3⟩
                have hpp := (HN2.out.past h3).ppn
                have HG3 := Lib.hid (grown_trans HG2.out (grown_of_below' h3))
                have HS3 := Lib.hid (HS2.out.grow (grown_of_below' h3))
                clear h3
                go_wp2_with fail
                refine (is_any HS3.out B true (by simpa using HB.out)).mono ?_
                rintro e w' ⟨rfl, rfl⟩
                go_wp2_with fail
                go_round
                case rel => exact ⟨k, B, by omega, by go_num, rfl, HB.out, HE2.out, HG3.out, HS3.out⟩
                case measure => simp [intOf]
              · rw [if_neg (fun h => hb h.2)] at hnext
                have HB := Lib.hid hb
                have HE2 := Lib.hid ((down_none hnext).symm.trans HE.out)
                have HK := Lib.hid HK0
                clear hk hb hnext HK0
                generalize flagOf X = A at *
                generalize ppnOf X = B at *
                go_wp2_with fail
                refine (ref_index_ok _ _ _).mono ?_
                rintro e w' ⟨rfl, rfl⟩
                go_wp2_with fail
                refine (rword_at HS.out _ _).mono ?_
                rintro e w' ⟨rfl, rfl⟩
                rw [HX.out]
                go_wp2_with fail
                refine (HDc.out _).mono ?_
                rintro e w2 ⟨rfl, h2⟩
                have HN2 := Lib.hid (EntAt.new w2 A B 40)
                have HG2 := Lib.hid (grown_trans HG.out (grown_trans (grown_of_below' h2) (World.grownBy_alloc w2 (.cells #[.int .i64 A, .int .i64 B] 40) none)))
                have HS2 := Lib.hid ((HS.out.grow (grown_of_below' h2)).grow (World.grownBy_alloc w2 (.cells #[.int .i64 A, .int .i64 B] 40) none))
                clear h2
                go_wp2_with fail
                refine (HK.out _).mono ?_
                rintro e w3 ⟨rfl, h3⟩
                have hpp := (HN2.out.past h3).ppn
                have HG3 := Lib.hid (grown_trans HG2.out (grown_of_below' h3))
                have HS3 := Lib.hid (HS2.out.grow (grown_of_below' h3))
                clear h3
                go_wp2_with fail
                refine (is_any HS3.out B false (by simpa using HB.out)).mono ?_
                rintro e w' ⟨rfl, rfl⟩
                go_wp2_with fail
                go_ret3
                rw [← HE2.out]
                exact ⟨rfl, HG3.out⟩
            · rw [if_neg (fun h => hk h.1)] at hnext
              have HE2 := Lib.hid ((down_none hnext).symm.trans HE.out)
              have HK := Lib.hid HK0
              have e0 : (kindOf (flagOf X) != 1) = true := by simp [hk]
              clear hk hnext HK0
              generalize kindOf (flagOf X) = kd at *
              generalize flagOf X = A at *
              generalize ppnOf X = B at *
              go_wp2_with fail
              refine (ref_index_ok _ _ _).mono ?_
              rintro e w' ⟨rfl, rfl⟩
              go_wp2_with fail
              refine (rword_at HS.out _ _).mono ?_
              rintro e w' ⟨rfl, rfl⟩
              rw [HX.out]
              go_wp2_with fail
              refine (HDc.out _).mono ?_
              rintro e w2 ⟨rfl, h2⟩
              have HN2 := Lib.hid (EntAt.new w2 A B 40)
              have HG2 := Lib.hid (grown_trans HG.out (grown_trans (grown_of_below' h2) (World.grownBy_alloc w2 (.cells #[.int .i64 A, .int .i64 B] 40) none)))
              have HS2 := Lib.hid ((HS.out.grow (grown_of_below' h2)).grow (World.grownBy_alloc w2 (.cells #[.int .i64 A, .int .i64 B] 40) none))
              clear h2
              go_wp2_with fail
              refine (HK.out _).mono ?_
              rintro e w3 ⟨rfl, h3⟩
              have hpp := (HN2.out.past h3).ppn
              have HG3 := Lib.hid (grown_trans HG2.out (grown_of_below' h3))
              have HS3 := Lib.hid (HS2.out.grow (grown_of_below' h3))
              clear h3
              go_wp2_with fail
              go_ret3
              rw [← HE2.out]
              exact ⟨rfl, HG3.out⟩
  · have HI := Lib.hid (is_any h root false (by simpa using hr))
    have hp : placeOf n L root v = none := by unfold placeOf; rw [if_neg (by omega)]
    rw [hp]
    clear h hr hp
    go_enter Try.func14, Try.ntmps14
    go_wp2_with fail
    refine HI.out.mono ?_
    rintro e w' ⟨rfl, rfl⟩
    go_wp2_with fail
    go_ret3
    exact ⟨rfl, grown_refl _ _⟩
end
end Go.Proofs.Ytomkhdefjfjlnaa
