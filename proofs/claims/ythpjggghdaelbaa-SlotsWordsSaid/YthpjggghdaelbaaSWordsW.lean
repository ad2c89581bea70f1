/- SlotsWords, walked. -/
import Derived.Test.YthpjggghdaelbaaSAct
namespace Go.Proofs.Ythpjggghdaelbaa
open Go.ChangeShapes Go.WideShapes Go.ChangeAt Go.RowKit Go.Deep
set_option linter.unusedVariables false

/-- What an act leaves. -/
def doneL (L : List Int) (A : SActV) : List Int := if A.k = 0 then (takeL L 1).L else if A.k = 1 then (takeL L A.n).L else if A.k = 2 then (giveL L A.n).L else if A.k = 3 then (spoilL L A.n).L else L

set_option maxRecDepth 100000 in
set_option maxHeartbeats 4000000 in
theorem words_walk8 (w : World) (n0 : Int) (s : Option Addr) (l c : Nat) (As : List SActV) (hA : SActsAre w s l As) (hn : okU n0) :
    Calls Try.prog 7 #[.int .u64 n0, .slice s l c] w fun e w' => e = .returned (.bool true) ∧ w.grownBy w' none := by
  have HLv := Lib.hid lives8
  have hq := eql_slots_nil
  have hq2 := neq_slots_nil
  obtain ⟨n, hnn⟩ : ∃ n : Nat, n0 % 257 = n := Int.eq_ofNat_of_zero_le (by omega)
  have hn256 : n ≤ 256 := by omega
  have u0 := hn.1
  have u1 := hn.2
  have HN := Lib.hid (sl_new_ok n w hn256)
  have HA := Lib.hid hA
  clear hn hA
  go_enter Try.func7, Try.ntmps7
  go_wp2_with fail
  refine HN.out.mono ?_
  rintro e w1 ⟨r, gu, gs, rfl, h1, g1, o1⟩
  have H1 := Lib.hid (show LS w w1 r (List.replicate n 0) gu gs from ⟨h1, o1, g1⟩)
  clear h1 g1 o1 HN
  by_cases hl : l > 100
  · have hb : decide ((l : Int) > 100) = true := by simp; omega
    go_wp2_with fail
    refine (HLv.out _).mono ?_
    rintro e w2 ⟨rfl, g2⟩
    have G2 := Lib.hid (grown_trans H1.out.grown g2)
    clear g2
    go_wp2_with fail
    go_ret
    exact ⟨rfl, G2.out⟩
  · have hb : decide ((l : Int) > 100) = false := by simp; omega
    have hl2 : l ≤ 100 := by omega
    clear hl
    go_wp2_with fail
    go_loopw [8, 30] (fun _ iv wr => ∃ (j : Nat) (L : List Int), j ≤ l ∧ iv = .int .i64 j ∧ Hid (LS w wr r L gu gs) ∧ Hid (L.length = n)) (fun _ iv _ => l - (intOf iv).toNat)
    case atStart => exact ⟨0, _, by omega, rfl, H1.out, List.length_replicate⟩
    case round =>
      obtain ⟨j, L, hj, rfl, HJ, HLn⟩ := hrel
      by_cases hlt : j < l
      · obtain ⟨A, hAj⟩ : ∃ A, As[j]? = some A := ⟨_, List.getElem?_eq_getElem (by rw [HA.out.len]; exact hlt)⟩
        have hok := HA.out.ok A (List.mem_of_getElem? hAj)
        obtain ⟨b, o, hs, a0, a1⟩ := HA.out.at HJ.out.grown hAj
        subst hs
        have HR := Lib.hid (LR.new HJ.out A)
        obtain ⟨k, m⟩ := A
        simp only at a0 a1 HR
        generalize hwB : wr.alloc (.cells #[.int .i64 k, .int .i64 m] 29 (0, 0)) = wB at *
        obtain ⟨b0, b1⟩ := HR.out.b.at
        simp only at b0 b1
        have HM := Lib.hid hok.n
        clear hAj hok HJ
        generalize hY : wr.heap.size = Y at *
        by_cases k0 : k = 0
        · have e0 : (k == 0) = true := by simpa using k0
          have HC := Lib.hid (sl_take HR.out.i.sp)
          have HLn2 := Lib.hid ((take_len (L := L) 1).trans HLn.out)
          generalize takeL L 1 = T at *
          clear k0
          go_wp2_with fail
          refine HC.out.mono ?_
          rintro e w2 ⟨rfl, h2⟩
          have H2 := Lib.hid (HR.out.left h2)
          clear h2
          go_wp2_with fail
          go_roundw
          case rel => exact ⟨j + 1, T.L, by omega, by go_num, H2.out.i, HLn2.out⟩
          case measure => simp [intOf]; omega
        · have e0 : (k == 0) = false := by simpa using k0
          by_cases k1 : k = 1
          · have e1 : (k == 1) = true := by simpa using k1
            have HC := Lib.hid (sl_takeRun HR.out.i.sp m HM.out)
            have HLn2 := Lib.hid ((take_len (L := L) m).trans HLn.out)
            generalize takeL L m = T at *
            clear k0 k1
            go_wp2_with fail
            refine HC.out.mono ?_
            rintro e w2 ⟨rfl, h2⟩
            have H2 := Lib.hid (HR.out.left h2)
            clear h2
            go_wp2_with fail
            go_roundw
            case rel => exact ⟨j + 1, T.L, by omega, by go_num, H2.out.i, HLn2.out⟩
            case measure => simp [intOf]; omega
          · have e1 : (k == 1) = false := by simpa using k1
            by_cases k2 : k = 2
            · have e2 : (k == 2) = true := by simpa using k2
              have HC := Lib.hid (sl_give HR.out.i.sp m)
              have HLn2 := Lib.hid ((give_len (L := L) m).trans HLn.out)
              generalize giveL L m = T at *
              clear k0 k1 k2
              go_wp2_with fail
              refine HC.out.mono ?_
              rintro e w2 ⟨rfl, h2⟩
              have H2 := Lib.hid (HR.out.left h2)
              clear h2
              go_wp2_with fail
              go_roundw
              case rel => exact ⟨j + 1, T.L, by omega, by go_num, H2.out.i, HLn2.out⟩
              case measure => simp [intOf]; omega
            · have e2 : (k == 2) = false := by simpa using k2
              by_cases k3 : k = 3
              · have e3 : (k == 3) = true := by simpa using k3
                have HC := Lib.hid (sl_spoil HR.out.i.sp m)
                have HLn2 := Lib.hid ((spoil_len (L := L) m).trans HLn.out)
                generalize spoilL L m = T at *
                clear k0 k1 k2 k3
                go_wp2_with fail
                refine HC.out.mono ?_
                rintro e w2 ⟨rfl, h2⟩
                have H2 := Lib.hid (HR.out.left h2)
                clear h2
                go_wp2_with fail
                go_roundw
                case rel => exact ⟨j + 1, T.L, by omega, by go_num, H2.out.i, HLn2.out⟩
                case measure => simp [intOf]; omega
              · have e3 : (k == 3) = false := by simpa using k3
                clear k0 k1 k2 k3
                go_wp2_with fail
                go_roundw
                case rel => exact ⟨j + 1, L, by omega, by go_num, HR.out.i, HLn.out⟩
                case measure => simp [intOf]; omega
      · obtain rfl : j = l := by omega
        have HW := Lib.hid (sl_words HJ.out.sp)
        have hmo : ((n : Int) + 63) / 64 = (mOf L : Int) := by unfold mOf; rw [HLn.out]; omega
        have hm4 := mOf_le HJ.out.sp.good
        obtain ⟨m, hm⟩ : ∃ m, mOf L = m := ⟨_, rfl⟩
        rw [hm] at HW hmo hm4
        clear hm hlt
        go_wp2_with fail
        refine HW.out.mono ?_
        rintro e w2 ⟨g9, us, rfl, h2, p2, g2, -⟩
        have HJ2 := Lib.hid (HJ.out.grow g2)
        have HU := Lib.hid h2
        have HP := Lib.hid p2
        clear h2 p2 g2 HW
        go_wp2_with fail
        go_loopw [10] (fun iv wr => ∃ i : Nat, i ≤ 64 * m ∧ iv = .int .i64 i ∧ Hid (w2.grownBy wr none)) (fun iv _ => 64 * m - (intOf iv).toNat)
        case atStart => exact ⟨0, by omega, rfl, grown_refl _ _⟩
        case round =>
          obtain ⟨i, hi, rfl, HGr⟩ := hrel
          by_cases hlt : i < 64 * m
          · obtain ⟨u, hu, hlt64, hbit⟩ := HP.out.get hlt
            have hwr := HJ2.out.grow HGr.out
            obtain ⟨cu, -⟩ := (HU.out.kept (HGr.out.block _ HU.out.lt (by simp))).at hu
            have h2 := test_word u (i % 64) hlt64
            rw [hbit] at h2
            have HSt := Lib.hid fun k => sl_state (hwr.grow (grown_draws wr k)).sp (i : Int)
            have hpos : decide (stL L i > 0) = usedB L i := by
              unfold usedB
              by_cases hin : i < L.length
              · rw [stL_in hin]
                rcases hwr.sp.good.at i with e | e | e <;> rw [e] <;> decide
              · rw [stL_out (by omega), getD_out (by omega)]
                decide
            obtain ⟨x, hx⟩ : ∃ x, stL L i = x := ⟨_, rfl⟩
            rw [hx] at hpos HSt
            obtain ⟨d, hd⟩ : ∃ d, usedB L i = d := ⟨_, rfl⟩
            rw [hd] at hpos h2
            obtain ⟨y, hy⟩ : ∃ y, i / 64 = y := ⟨_, rfl⟩
            obtain ⟨k, hk⟩ : ∃ k, i % 64 = k := ⟨_, rfl⟩
            have hk64 : k < 64 := by omega
            have hym : y < m := by omega
            rw [hy] at cu
            rw [hk] at h2
            have h4 : (i : Int) / 64 = (y : Int) := by omega
            have h5 : (i : Int) % 64 = (k : Int) := by omega
            clear hwr hu hbit hx hd hy hk
            go_wp2_with fail
            go_quiet (with_reducible exact Calls.quiet_of_same (HSt.out _))
            go_wp2_with fail
            go_roundw
            case rel => exact ⟨i + 1, by omega, by go_num, grown_trans HGr.out (grown_draws _ _)⟩
            case measure => simp [intOf]; omega
          · obtain rfl : i = 64 * m := by omega
            go_wp2_with fail
            refine (HLv.out _).mono ?_
            rintro e w6 ⟨rfl, g6⟩
            have HG8 := Lib.hid (grown_trans (HJ2.out.grow HGr.out).grown g6)
            clear g6
            go_wp2_with fail
            go_ret
            exact ⟨rfl, HG8.out⟩
end Go.Proofs.Ythpjggghdaelbaa
