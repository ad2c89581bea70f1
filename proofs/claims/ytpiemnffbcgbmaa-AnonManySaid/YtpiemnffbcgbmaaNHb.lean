/- Package anon's heap (landed): sink. -/
import Derived.Test.YtpiemnffbcgbmaaNHa
namespace Go.Proofs.Ytpiemnffbcgbmaa
open Go.ChangeShapes Go.WideShapes Go.ChangeAt Go.RowKit Go.Deep
set_option linter.unusedVariables false

section
variable {w w' w2 : World} {base g c : Nat} {zs zs' : List Int} {k : Nat}
set_option maxHeartbeats 4000000 in
theorem sink_ok (h : ZOwn w base (.slice (some ⟨g, 0, none⟩) zs.length c) zs) (hu : DownOk zs k) (hk : k < zs.length ∨ zs.length = 0) (hk2 : k ≤ 4096) (hl : zs.length ≤ 4096) :
    Calls Try.prog 36 #[.slice (some ⟨g, 0, none⟩) zs.length c, .int .i64 k] w fun e w' => e = .returned (.tuple #[]) ∧ ∃ zs', HeapOk zs' ∧ HeapW w w' base g c (.slice (some ⟨g, 0, none⟩) zs.length c) zs zs' := by
  have HR := Lib.hid h
  have HU := Lib.hid hu
  obtain ⟨n, hn⟩ : ∃ n, zs.length = n := ⟨_, rfl⟩
  rw [hn] at HR hl hk ⊢
  have HN := Lib.hid hn
  clear h hu hn
  go_enter Try.func36, Try.ntmps36
  go_wp2_with fail
  go_loopw [1] (fun kv wr => ∃ (k : Nat) (zs' : List Int), kv = .int .i64 k ∧ (k < n ∨ n = 0) ∧ k ≤ 4096 ∧ Hid (DownOk zs' k) ∧ Hid (zs'.length = n) ∧ Hid (HeapW w wr base g c (.slice (some ⟨g, 0, none⟩) n c) zs zs')) (fun kv _ => n - (intOf kv).toNat)
  case atStart => exact ⟨k, zs, rfl, hk, hk2, HU, HN, Lib.hid ⟨HR.out, List.Perm.refl _, grown_refl _ _⟩⟩
  case round =>
    clear HU HR hk hk2 HN
    obtain ⟨k, zs1, rfl, hk, hk2, HU, HL, HW⟩ := hrel
    generalize hwr0 : wr = wr0 at *
    clear hwr0
    go_wp2_with fail
    go_loopw [4, 5] (fun lv bv wr => ∃ l b : Nat, lv = .int .i64 l ∧ bv = .int .i64 b ∧ 2 * k + 1 ≤ b ∧ b ≤ 2 * k + 3 ∧ l ≤ 8194 ∧ Hid (Least zs1 k b l) ∧ Hid (wr0.grownBy wr none)) (fun _ bv _ => 2 * k + 3 - (intOf bv).toNat)
    case atStart => exact ⟨k, 2 * k + 1, rfl, by go_num, by omega, by omega, by omega, Lib.hid (Least.start zs1 k), Lib.hid (grown_refl _ _)⟩
    case round =>
      obtain ⟨l, b, rfl, rfl, hb0, hb1, hl2, HS, HG⟩ := hrel
      have hown := OwnOf.grow HW.out.own HG.out
      have e1 := HL.out
      rw [← e1] at hown
      by_cases hin : b ≤ 2 * k + 2 ∧ b < n
      · have d0 : decide ((b : Int) ≤ 2 * (k : Int) + 2) = true := decide_eq_true (by omega)
        have d1 : decide ((b : Int) < (n : Int)) = true := decide_eq_true (by omega)
        have hln : l < n := by rcases HS.out.lt with e | e <;> omega
        have c1 := own_z hown (get_zat (zs := zs1) (k := b) (by omega))
        have c2 := own_z hown (get_zat (zs := zs1) (k := l) (by omega))
        by_cases hlt : zat zs1 b < zat zs1 l
        · have b0 : decide (zat zs1 b < zat zs1 l) = true := decide_eq_true hlt
          have HS2 := Lib.hid (HS.out.less (by omega) hb0 hlt)
          generalize zat zs1 b = x1 at *
          generalize zat zs1 l = x2 at *
          clear hown e1 hlt
          go_wp2_with fail
          go_quiet (fail)
          go_wp2_with fail
          go_roundw
          case rel => exact ⟨b, b + 1, rfl, by go_num, by omega, by omega, by omega, HS2, Lib.hid (grown_trans HG.out (grown_draws _ _))⟩
          case measure => simp [intOf]; omega
        · have b0 : decide (zat zs1 b < zat zs1 l) = false := decide_eq_false hlt
          have HS2 := Lib.hid (HS.out.same (by omega) hlt)
          generalize zat zs1 b = x1 at *
          generalize zat zs1 l = x2 at *
          clear hown e1 hlt
          go_wp2_with fail
          go_quiet (fail)
          go_wp2_with fail
          go_roundw
          case rel => exact ⟨l, b + 1, rfl, by go_num, by omega, by omega, by omega, HS2, Lib.hid (grown_trans HG.out (grown_draws _ _))⟩
          case measure => simp [intOf]; omega
      · have hout : 2 * k + 2 < b ∨ zs1.length ≤ b := by omega
        have dd : (decide ((b : Int) ≤ 2 * (k : Int) + 2) = false) ∨ (decide ((b : Int) ≤ 2 * (k : Int) + 2) = true ∧ n ≤ b) := by
          by_cases h1 : b ≤ 2 * k + 2
          · exact .inr ⟨decide_eq_true (by omega), by omega⟩
          · exact .inl (decide_eq_false (by omega))
        clear hin
        by_cases hlk : l = k
        · subst hlk
          have HF := Lib.hid (HU.out.done HS.out hout)
          clear hout hown e1
          rcases dd with d0 | ⟨d0, d1⟩
          all_goals
            go_wp2_with fail
            refine bodyPost_ret (results_none rfl _ _ _) rfl ?_
            exact ⟨rfl, zs1, HF.out, OwnOf.grow HW.out.own HG.out, HW.out.perm, grown_then HW.out.grown HG.out⟩
        · have hln : l < n ∧ k < n ∧ k < l := by rcases HS.out.lt with e | e <;> omega
          have bk : ((l : Int) == (k : Int)) = false := by simp; omega
          have HF := Lib.hid (HU.out.step HS.out hout hb1 (by omega) hlk)
          have HP := Lib.hid ((swap_perm (zs := zs1) (a := l) (b := k) (by omega) (by omega)).trans HW.out.perm)
          have HL2 := Lib.hid ((swap_len (zs := zs1) (a := l) (b := k)).trans HL.out)
          have HO := Lib.hid fun (wx : World) (h : ZOwn wx base (.slice (some ⟨g, 0, none⟩) n c) zs1) => own_swap (a := l) (b := k) h HL.out
          have c1 := own_z hown (get_zat (zs := zs1) (k := k) (by omega))
          have c2 := own_z hown (get_zat (zs := zs1) (k := l) (by omega))
          have f1 := OwnOf.frozen hown k
          have f2 := OwnOf.frozen hown l
          generalize hx1 : zat zs1 k = x1 at *
          generalize hx2 : zat zs1 l = x2 at *
          generalize swapL zs1 l k = zs2 at *
          clear hout hown e1 hlk hx1 hx2 HU HS
          rcases dd with d0 | ⟨d0, d1⟩
          all_goals
            go_wp2_with fail
            go_region
            go_wp2_with fail
            go_roundw
            case rel => exact ⟨l, zs2, rfl, by omega, by omega, HF, HL2, Lib.hid ⟨OwnOf.kept (HO.out _ (OwnOf.grow HW.out.own HG.out)) (fun _ _ => rfl), HP.out, grown_then (grown_trans (grown_then HW.out.grown HG.out) (grown_swap _ _ _ _)) (grown_drew1 _)⟩⟩
            case measure => simp [intOf]; omega
end
end Go.Proofs.Ytpiemnffbcgbmaa
