/- Calls of the document's layer 3: Prot, May. -/
import Derived.Test.YtomkhdefjfjlnaaPteG
namespace Go.Proofs.Ytomkhdefjfjlnaa
open Go.ChangeShapes Go.WideShapes Go.RowKit
set_option linter.unusedVariables false

theorem ref_may_ok (F P a : Int) (u : Bool) (w : World) :
    Calls Try.prog 41 #[.agg #[.int .i64 F, .int .i64 P], .int .i64 a, .bool u] w fun e w' => e = .returned (.bool (mayOf F a u)) ∧ Below w.heap.size w w' := by
  have f0 : 0 ≤ F % 256 := by omega
  have f1 : F % 256 ≤ 9223372036854775807 := by omega
  have C2 := is_ok (F % 256) 2 isBit_2 f0 f1
  have C4 := is_ok (F % 256) 4 isBit_4 f0 f1
  have C8 := is_ok (F % 256) 8 isBit_8 f0 f1
  have C16 := is_ok (F % 256) 16 isBit_16 f0 f1
  rw [bit_mod _ _ isBit_2] at C2
  rw [bit_mod _ _ isBit_4] at C4
  rw [bit_mod _ _ isBit_8] at C8
  rw [bit_mod _ _ isBit_16] at C16
  have H2 := Lib.hid C2
  have H4 := Lib.hid C4
  have H8 := Lib.hid C8
  have H16 := Lib.hid C16
  have HF := Lib.hid (flags_ok F P)
  have HK := Lib.hid (ref_kind_ok F P)
  have HB := Lib.hid (EntAt.new w F P 40)
  clear C2 C4 C8 C16
  by_cases hk : kindOf F = 2
  · have hm : mayOf F a u = ((bit F 16 == u) && ((decide (a = 1) && bit F 2) || (decide (a = 2) && bit F 4) || (decide (a = 4) && bit F 8))) := by unfold mayOf; simp [hk]
    rw [hm]
    rw [hk] at HK
    clear hk hm
    by_cases hu : bit F 16 = u
    · rw [hu] at H16 ⊢
      have e16 : (u != u) = false := by simp
      have e17 : (u == u) = true := by simp
      rw [e17, Bool.true_and]
      clear hu e17
      by_cases h1 : a = 1
      · subst h1
        have hv : ((decide ((1 : Int) = 1) && bit F 2) || (decide ((1 : Int) = 2) && bit F 4) || (decide ((1 : Int) = 4) && bit F 8)) = bit F 2 := by simp
        rw [hv]
        clear hv
        go_enter Try.func41, Try.ntmps41
        go_wp2_with fail
        refine (HF.out _).mono ?_
        rintro e w2 ⟨rfl, h2⟩
        have HX := Lib.hid (HB.out.past h2)
        have hc := HX.out.flags
        have hc1 := HX.out.ppn
        have H2W := Lib.hid (below_box h2)
        clear h2
        go_wp2_with fail
        refine (HK.out _).mono ?_
        rintro e w3 ⟨rfl, h3⟩
        have H3W := Lib.hid (H2W.out.trans (h3.mono H2W.out.size))
        clear h3 hc hc1
        go_wp2_with fail
        refine (H16.out _).mono ?_
        rintro e w' ⟨rfl, rfl⟩
        go_wp2_with fail
        refine (H2.out _).mono ?_
        rintro e w' ⟨rfl, rfl⟩
        go_wp2_with fail
        go_ret
        exact ⟨rfl, H3W.out⟩
      · by_cases h2 : a = 2
        · subst h2
          have hv : ((decide ((2 : Int) = 1) && bit F 2) || (decide ((2 : Int) = 2) && bit F 4) || (decide ((2 : Int) = 4) && bit F 8)) = bit F 4 := by simp
          rw [hv]
          clear hv
          go_enter Try.func41, Try.ntmps41
          go_wp2_with fail
          refine (HF.out _).mono ?_
          rintro e w2 ⟨rfl, h2⟩
          have HX := Lib.hid (HB.out.past h2)
          have hc := HX.out.flags
          have hc1 := HX.out.ppn
          have H2W := Lib.hid (below_box h2)
          clear h2
          go_wp2_with fail
          refine (HK.out _).mono ?_
          rintro e w3 ⟨rfl, h3⟩
          have H3W := Lib.hid (H2W.out.trans (h3.mono H2W.out.size))
          clear h3 hc hc1
          go_wp2_with fail
          refine (H16.out _).mono ?_
          rintro e w' ⟨rfl, rfl⟩
          go_wp2_with fail
          refine (H4.out _).mono ?_
          rintro e w' ⟨rfl, rfl⟩
          go_wp2_with fail
          go_ret
          exact ⟨rfl, H3W.out⟩
        · by_cases h4 : a = 4
          · subst h4
            have hv : ((decide ((4 : Int) = 1) && bit F 2) || (decide ((4 : Int) = 2) && bit F 4) || (decide ((4 : Int) = 4) && bit F 8)) = bit F 8 := by simp
            rw [hv]
            clear hv
            go_enter Try.func41, Try.ntmps41
            go_wp2_with fail
            refine (HF.out _).mono ?_
            rintro e w2 ⟨rfl, h2⟩
            have HX := Lib.hid (HB.out.past h2)
            have hc := HX.out.flags
            have hc1 := HX.out.ppn
            have H2W := Lib.hid (below_box h2)
            clear h2
            go_wp2_with fail
            refine (HK.out _).mono ?_
            rintro e w3 ⟨rfl, h3⟩
            have H3W := Lib.hid (H2W.out.trans (h3.mono H2W.out.size))
            clear h3 hc hc1
            go_wp2_with fail
            refine (H16.out _).mono ?_
            rintro e w' ⟨rfl, rfl⟩
            go_wp2_with fail
            refine (H8.out _).mono ?_
            rintro e w' ⟨rfl, rfl⟩
            go_wp2_with fail
            go_ret
            exact ⟨rfl, H3W.out⟩
          · have e1 : (a == 1) = false := by simp [h1]
            have e2 : (a == 2) = false := by simp [h2]
            have e4 : (a == 4) = false := by simp [h4]
            have hv : ((decide (a = 1) && bit F 2) || (decide (a = 2) && bit F 4) || (decide (a = 4) && bit F 8)) = false := by simp [h1, h2, h4]
            rw [hv]
            clear hv h1 h2 h4
            go_enter Try.func41, Try.ntmps41
            go_wp2_with fail
            refine (HF.out _).mono ?_
            rintro e w2 ⟨rfl, h2⟩
            have HX := Lib.hid (HB.out.past h2)
            have hc := HX.out.flags
            have hc1 := HX.out.ppn
            have H2W := Lib.hid (below_box h2)
            clear h2
            go_wp2_with fail
            refine (HK.out _).mono ?_
            rintro e w3 ⟨rfl, h3⟩
            have H3W := Lib.hid (H2W.out.trans (h3.mono H2W.out.size))
            clear h3 hc hc1
            go_wp2_with fail
            refine (H16.out _).mono ?_
            rintro e w' ⟨rfl, rfl⟩
            go_wp2_with fail
            go_ret
            exact ⟨rfl, H3W.out⟩
    · have e16 : (!(bit F 16 == u)) = true := by simp [hu]
      have e17 : (bit F 16 == u) = false := by simp [hu]
      rw [e17, Bool.false_and]
      clear hu e17
      go_enter Try.func41, Try.ntmps41
      go_wp2_with fail
      refine (HF.out _).mono ?_
      rintro e w2 ⟨rfl, h2⟩
      have HX := Lib.hid (HB.out.past h2)
      have hc := HX.out.flags
      have hc1 := HX.out.ppn
      have H2W := Lib.hid (below_box h2)
      clear h2
      go_wp2_with fail
      refine (HK.out _).mono ?_
      rintro e w3 ⟨rfl, h3⟩
      have H3W := Lib.hid (H2W.out.trans (h3.mono H2W.out.size))
      clear h3 hc hc1
      go_wp2_with fail
      refine (H16.out _).mono ?_
      rintro e w' ⟨rfl, rfl⟩
      go_wp2_with fail
      go_ret
      exact ⟨rfl, H3W.out⟩
  · have e0 : (kindOf F != 2) = true := by simp [hk]
    have hp : mayOf F a u = false := by unfold mayOf; simp [hk]
    rw [hp]
    clear hk hp
    go_enter Try.func41, Try.ntmps41
    go_wp2_with fail
    refine (HF.out _).mono ?_
    rintro e w2 ⟨rfl, h2⟩
    have HX := Lib.hid (HB.out.past h2)
    have hc := HX.out.flags
    have hc1 := HX.out.ppn
    have H2W := Lib.hid (below_box h2)
    clear h2
    go_wp2_with fail
    refine (HK.out _).mono ?_
    rintro e w3 ⟨rfl, h3⟩
    have H3W := Lib.hid (H2W.out.trans (h3.mono H2W.out.size))
    clear h3 hc hc1
    go_wp2_with fail
    go_ret
    exact ⟨rfl, H3W.out⟩
end Go.Proofs.Ytomkhdefjfjlnaa
