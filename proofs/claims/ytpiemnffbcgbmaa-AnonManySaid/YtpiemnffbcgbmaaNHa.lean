/- Package anon's heap (landed): rise. -/
import Derived.Test.YtpiemnffbcgbmaaNList
import Derived.Test.YtpiemnffbcgbmaaNHeap
import Derived.Test.YtpiemnffbcgbmaaZRow
namespace Go.Proofs.Ytpiemnffbcgbmaa
open Go.ChangeShapes Go.WideShapes Go.ChangeAt Go.RowKit Go.Deep
set_option linter.unusedVariables false

/-- A row that is a heap of the same numbers, in the same block. -/
structure HeapW (w w' : World) (base g c : Nat) (v : Value) (zs zs' : List Int) : Prop where
  own : ZOwn w' base v zs'
  perm : zs'.Perm zs
  grown : w.grownBy w' (some g)
section
variable {w w' w2 : World} {base g c : Nat} {zs zs' : List Int} {k : Nat}
theorem own_swap {n a b : Nat} (h : ZOwn w base (.slice (some ⟨g, 0, none⟩) n c) zs) (hn : zs.length = n) : ZOwn ((w.setCell ⟨g, a, none⟩ (.int .i64 (zat zs b))).setCell ⟨g, b, none⟩ (.int .i64 (zat zs a))) base (.slice (some ⟨g, 0, none⟩) n c) (swapL zs a b) := by
  subst hn
  have h1 := ZOwn.set h a (zat zs b)
  have e : (zs.set a (zat zs b)).length = zs.length := List.length_set
  rw [← e] at h1
  have h2 := ZOwn.set h1 b (zat zs a)
  rw [e] at h2
  exact h2
theorem grown_swap (a b : Nat) (x y : Value) : w.grownBy ((w.setCell ⟨g, a, none⟩ x).setCell ⟨g, b, none⟩ y) (some g) := grown_trans (grown_set _ _ _ _) (grown_set _ _ _ _)
theorem own_drew {v : Value} (h : ZOwn w base v zs) (n : Nat) : ZOwn (w.drewN n) base v zs := OwnOf.kept h fun _ _ => rfl

set_option maxHeartbeats 2000000 in
theorem rise_ok (h : ZOwn w base (.slice (some ⟨g, 0, none⟩) zs.length c) zs) (hu : UpOk zs k) (hl : zs.length ≤ 4096) :
    Calls Try.prog 35 #[.slice (some ⟨g, 0, none⟩) zs.length c, .int .i64 k] w fun e w' => e = .returned (.tuple #[]) ∧ ∃ zs', HeapOk zs' ∧ HeapW w w' base g c (.slice (some ⟨g, 0, none⟩) zs.length c) zs zs' := by
  have hk := hu.lt
  have HR := Lib.hid h
  have HU := Lib.hid hu
  obtain ⟨n, hn⟩ : ∃ n, zs.length = n := ⟨_, rfl⟩
  rw [hn] at HR hl hk ⊢
  have HN := Lib.hid hn
  clear h hu hn
  go_enter Try.func35, Try.ntmps35
  go_wp2_with fail
  go_loopw [1] (fun kv wr => ∃ (k : Nat) (zs' : List Int), kv = .int .i64 k ∧ k < n ∧ Hid (UpOk zs' k) ∧ Hid (zs'.length = n) ∧ Hid (HeapW w wr base g c (.slice (some ⟨g, 0, none⟩) n c) zs zs')) (fun kv _ => (intOf kv).toNat)
  case atStart => exact ⟨k, zs, rfl, hk, HU, HN, Lib.hid ⟨HR.out, List.Perm.refl _, grown_refl _ _⟩⟩
  case round =>
    clear HU HR hk
    obtain ⟨k, zs1, rfl, hk, HU, HL, HW⟩ := hrel
    by_cases h0 : k = 0
    · subst h0
      have HF := Lib.hid (HU.out.done (.inl rfl))
      go_wp2_with fail
      go_end0
      exact ⟨rfl, zs1, HF.out, HW.out⟩
    · obtain ⟨q, a, hq2, hq3, han, hpar⟩ : ∃ q a : Nat, (k : Int) - 1 = (q : Int) ∧ (q : Int) / 2 = (a : Int) ∧ a < k ∧ (k - 1) / 2 = a := ⟨k - 1, (k - 1) / 2, by omega, by omega, by omega, rfl⟩
      have d0 : decide ((k : Int) > 0) = true := by simp; omega
      have hown := HW.out.own
      have e1 := HL.out
      rw [← e1] at hown
      have c1 := own_z hown (get_zat (zs := zs1) (k := a) (by omega))
      have c2 := own_z hown (get_zat (zs := zs1) (k := k) (by omega))
      have f1 := OwnOf.frozen hown a
      have f2 := OwnOf.frozen hown k
      by_cases hle : zat zs1 a ≤ zat zs1 k
      · have HF := Lib.hid (HU.out.done (.inr (by rw [hpar]; exact hle)))
        have b0 : decide (zat zs1 a ≤ zat zs1 k) = true := decide_eq_true hle
        generalize zat zs1 a = x1 at *
        generalize zat zs1 k = x2 at *
        clear hle hown e1 h0 hpar f1 f2 HU
        go_wp2_with fail
        go_quiet (fail)
        go_wp2_with fail
        refine bodyPost_ret (results_none rfl _ _ _) rfl ?_
        exact ⟨rfl, zs1, HF.out, own_drew HW.out.own _, HW.out.perm, grown_then HW.out.grown (grown_draws _ _)⟩
      · have HF := Lib.hid (HU.out.step (by omega) (by rw [hpar]; omega))
        rw [hpar] at HF
        have b0 : decide (zat zs1 a ≤ zat zs1 k) = false := decide_eq_false hle
        have HP := Lib.hid ((swap_perm (zs := zs1) (a := a) (b := k) (by omega) (by omega)).trans HW.out.perm)
        have HL2 := Lib.hid ((swap_len (zs := zs1) (a := a) (b := k)).trans HL.out)
        have HO := Lib.hid fun (wx : World) (h : ZOwn wx base (.slice (some ⟨g, 0, none⟩) n c) zs1) => own_swap (a := a) (b := k) h HL.out
        generalize hx1 : zat zs1 a = x1 at *
        generalize hx2 : zat zs1 k = x2 at *
        generalize swapL zs1 a k = zs2 at *
        clear hle hown e1 h0 hpar HU hx1 hx2
        go_wp2_with fail
        go_quiet (fail)
        go_wp2_with fail
        go_region
        go_wp2_with fail
        go_roundw
        case rel => exact ⟨a, zs2, rfl, by omega, HF, HL2, Lib.hid ⟨HO.out _ (own_drew HW.out.own _), HP.out, grown_trans (grown_then HW.out.grown (grown_draws _ _)) (grown_swap _ _ _ _)⟩⟩
        case measure => simp [intOf]; omega
end
end Go.Proofs.Ytpiemnffbcgbmaa
