/- Layer 16: an act on a map that no call made, and VmapNone, walked. Written by wip/genvnoneb.py. -/
import Derived.Test.YtamkmmhjmpjibaaVmpNoneA
import Derived.Test.YtamkmmhjmpjibaaVmpPagesP
import Derived.OwnWalk
namespace Go.Proofs.Ytamkmmhjmpjibaa
open Go.ChangeShapes Go.WideShapes Go.ChangeAt Go.RowKit Go.Deep
set_option linter.unusedVariables false
set_option linter.unusedSimpArgs false

set_option maxRecDepth 100000 in
set_option maxHeartbeats 16000000 in
theorem act_no {w : World} {pv : Value} (h : NM w pv) (A : VAct) (hA : A.Ok) (hk : 0 ≤ A.k ∧ A.k < 6) :
    Calls Try.prog 12 #[pv, .agg #[.int .i64 A.k, .int .i64 A.lo, .int .i64 A.n, .int .i64 A.how, .int .i64 A.x.s, .int .i64 A.x.e, .int .i64 A.x.f, .int .i64 A.x.o, .bool A.x.sh, .int .i64 A.x.p, .int .i64 A.x.m, .int .i64 A.x.i, .int .i64 A.x.a, .bool A.x.wi, .bool A.on]] w fun e w' => e = .returned (.tuple #[pv, .int .i64 0, .slice none 0 0, .int .i64 1]) ∧ w.grownBy w' none := by
  have g1 := World.grownBy_alloc w (.cells #[.int .i64 A.k, .int .i64 A.lo, .int .i64 A.n, .int .i64 A.how, .int .i64 A.x.s, .int .i64 A.x.e, .int .i64 A.x.f, .int .i64 A.x.o, .bool A.x.sh, .int .i64 A.x.p, .int .i64 A.x.m, .int .i64 A.x.i, .int .i64 A.x.a, .bool A.x.wi, .bool A.on] 33) none
  obtain ⟨k, lo, n, how, x, on⟩ := A
  simp only at *
  obtain h0 | h1 | h2 | h3 | h4 | h5 : k = 0 ∨ k = 1 ∨ k = 2 ∨ k = 3 ∨ k = 4 ∨ k = 5 := by omega
  · subst h0
    have HC := Lib.hid (map_no (h.grow g1) lo x on hA.x)
    have HG := Lib.hid g1
    clear h hA g1
    go_enter Try.func12, Try.ntmps12
    go_wp2_with fail
    refine HC.out.mono ?_
    rintro e w2 ⟨rfl, k4⟩
    have HG4 := Lib.hid (grown_trans HG.out k4)
    clear k4
    go_wp2_with fail
    refine bodyPost_ret (results_tmp4 rfl _ _ _) rfl ?_
    exact ⟨rfl, HG4.out⟩
  · subst h1
    have HC := Lib.hid (unmap_no (h.grow g1) lo n)
    have HG := Lib.hid g1
    clear h hA g1
    go_enter Try.func12, Try.ntmps12
    go_wp2_with fail
    refine HC.out.mono ?_
    rintro e w2 ⟨rfl, k4⟩
    have HG4 := Lib.hid (grown_trans HG.out k4)
    clear k4
    go_wp2_with fail
    refine bodyPost_ret (results_tmp4 rfl _ _ _) rfl ?_
    exact ⟨rfl, HG4.out⟩
  · subst h2
    have HC := Lib.hid (protect_no (h.grow g1) lo n how)
    have HG := Lib.hid g1
    clear h hA g1
    go_enter Try.func12, Try.ntmps12
    go_wp2_with fail
    refine HC.out.mono ?_
    rintro e w2 ⟨rfl, k4⟩
    have HG4 := Lib.hid (grown_trans HG.out k4)
    clear k4
    go_wp2_with fail
    refine bodyPost_ret (results_tmp4 rfl _ _ _) rfl ?_
    exact ⟨rfl, HG4.out⟩
  · subst h3
    have HC := Lib.hid (inherit_no (h.grow g1) lo n how)
    have HG := Lib.hid g1
    clear h hA g1
    go_enter Try.func12, Try.ntmps12
    go_wp2_with fail
    refine HC.out.mono ?_
    rintro e w2 ⟨rfl, k4⟩
    have HG4 := Lib.hid (grown_trans HG.out k4)
    clear k4
    go_wp2_with fail
    refine bodyPost_ret (results_tmp4 rfl _ _ _) rfl ?_
    exact ⟨rfl, HG4.out⟩
  · subst h4
    have HC := Lib.hid (advise_no (h.grow g1) lo n how)
    have HG := Lib.hid g1
    clear h hA g1
    go_enter Try.func12, Try.ntmps12
    go_wp2_with fail
    refine HC.out.mono ?_
    rintro e w2 ⟨rfl, k4⟩
    have HG4 := Lib.hid (grown_trans HG.out k4)
    clear k4
    go_wp2_with fail
    refine bodyPost_ret (results_tmp4 rfl _ _ _) rfl ?_
    exact ⟨rfl, HG4.out⟩
  · subst h5
    have HC := Lib.hid (wire_no (h.grow g1) lo n on)
    have HG := Lib.hid g1
    clear h hA g1
    go_enter Try.func12, Try.ntmps12
    go_wp2_with fail
    refine HC.out.mono ?_
    rintro e w2 ⟨rfl, k4⟩
    have HG4 := Lib.hid (grown_trans HG.out k4)
    clear k4
    go_wp2_with fail
    refine bodyPost_ret (results_tmp4 rfl _ _ _) rfl ?_
    exact ⟨rfl, HG4.out⟩
/-- The same act of another kind. -/
def VAct.as (A : VAct) (k : Int) : VAct := ⟨k, A.lo, A.n, A.how, A.x, A.on⟩
theorem VAct.as_ok {A : VAct} (h : A.Ok) (k : Int) : (A.as k).Ok := ⟨h.lo, h.n, h.how, h.x⟩
theorem VBox.frozen {w : World} {y : Nat} {A : VAct} (h : VBox w y A) (o : Nat) : w.frozen? ⟨y, o, none⟩ = false := frozen_of_row _ _ _ _ _ h
theorem VBox.setK {w : World} {y : Nat} {A : VAct} {k0 : Int} (h : VBox w y (A.as k0)) (k : Int) : VBox (w.setCell ⟨y, 0, none⟩ (.int .i64 k)) y (A.as k) := by
  have h1 := heap_setCell_same w y 0 _ _ (.int .i64 k) h
  simp only [List.setIfInBounds_toArray, List.set_cons_zero] at h1
  exact h1
theorem NM.far {w : World} {pv : Value} {y o : Nat} {u : Value} (h : NM w pv) (hy : ∀ r, pv = .pointer (some ⟨r, 0, none⟩) → y ≠ r) : NM (w.setCell ⟨y, o, none⟩ u) pv := h.imp id fun ⟨r, e, hb⟩ => ⟨r, e, (heap_setCell_other w ⟨y, o, none⟩ r u (by first | exact hy r e | exact (hy r e).symm)).trans hb⟩
set_option maxRecDepth 100000 in
set_option maxHeartbeats 32000000 in
theorem none_walk (W : World) (B : VAct) (hB : B.Ok) :
    Calls Try.prog 7 #[.agg #[.int .i64 B.k, .int .i64 B.lo, .int .i64 B.n, .int .i64 B.how, .int .i64 B.x.s, .int .i64 B.x.e, .int .i64 B.x.f, .int .i64 B.x.o, .bool B.x.sh, .int .i64 B.x.p, .int .i64 B.x.m, .int .i64 B.x.i, .int .i64 B.x.a, .bool B.x.wi, .bool B.on]] W fun e w' => e = .returned (.bool true) ∧ W.grownBy w' none := by
  have HLv := Lib.hid (fun wx => lives_ok wx)
  have HO := Lib.hid hB
  have hX0 := World.size_alloc W (.cells #[.int .i64 B.k, .int .i64 B.lo, .int .i64 B.n, .int .i64 B.how, .int .i64 B.x.s, .int .i64 B.x.e, .int .i64 B.x.f, .int .i64 B.x.o, .bool B.x.sh, .int .i64 B.x.p, .int .i64 B.x.m, .int .i64 B.x.i, .int .i64 B.x.a, .bool B.x.wi, .bool B.on] 33)
  have g1 := World.grownBy_alloc W (.cells #[.int .i64 B.k, .int .i64 B.lo, .int .i64 B.n, .int .i64 B.how, .int .i64 B.x.s, .int .i64 B.x.e, .int .i64 B.x.f, .int .i64 B.x.o, .bool B.x.sh, .int .i64 B.x.p, .int .i64 B.x.m, .int .i64 B.x.i, .int .i64 B.x.a, .bool B.x.wi, .bool B.on] 33) none
  have g2 := World.grownBy_alloc (W.alloc (.cells #[.int .i64 B.k, .int .i64 B.lo, .int .i64 B.n, .int .i64 B.how, .int .i64 B.x.s, .int .i64 B.x.e, .int .i64 B.x.f, .int .i64 B.x.o, .bool B.x.sh, .int .i64 B.x.p, .int .i64 B.x.m, .int .i64 B.x.i, .int .i64 B.x.a, .bool B.x.wi, .bool B.on] 33)) (.cells #[.slice none 0 0, .bool false] 50) none
  have HI0 := (VBox.new W B).grow g2
  have HZ0 : NM ((W.alloc (.cells #[.int .i64 B.k, .int .i64 B.lo, .int .i64 B.n, .int .i64 B.how, .int .i64 B.x.s, .int .i64 B.x.e, .int .i64 B.x.f, .int .i64 B.x.o, .bool B.x.sh, .int .i64 B.x.p, .int .i64 B.x.m, .int .i64 B.x.i, .int .i64 B.x.a, .bool B.x.wi, .bool B.on] 33)).alloc (.cells #[.slice none 0 0, .bool false] 50)) (.pointer (some ⟨W.heap.size + 1, 0, none⟩)) := .inr ⟨_, rfl, by rw [← hX0]; exact heap_alloc_new _ _⟩
  have HG0 := Lib.hid (grown_trans g1 g2)
  obtain ⟨X, hX⟩ : ∃ X, W.heap.size = X := ⟨_, rfl⟩
  rw [hX] at HI0 HZ0
  have HI := Lib.hid (show VBox _ X (B.as B.k) from HI0)
  have HZI := Lib.hid HZ0
  have HFz := Lib.hid (show ∀ r, (Value.pointer (some ⟨X + 1, 0, none⟩)) = .pointer (some ⟨r, 0, none⟩) → X ≠ r from fun r e => by cases e; omega)
  clear HI0 HZ0 g1 g2 hX0 hB
  go_enter Try.func7, Try.ntmps7
  go_wp2_with fail
  go_loopw [14] (fun iv wr => ∃ (q : Nat) (k0 : Int), q ≤ 2 ∧ iv = .int .i64 q ∧ Hid (VBox wr X (B.as k0)) ∧ Hid (NM wr (.pointer (some ⟨X + 1, 0, none⟩))) ∧ Hid (W.grownBy wr none)) (fun iv _ => 2 - (intOf iv).toNat)
  case atStart => exact ⟨0, _, by omega, rfl, HI, HZI, HG0⟩
  case round =>
    clear HI HZI HG0
    obtain ⟨q, k0, hq, rfl, HV, HZ, HG⟩ := hrel
    by_cases hlt : q < 2
    · obtain ⟨pv, hv, HPV, HF⟩ : ∃ v : Value, (∀ W, (Instr.index 51 (.agg #[.pointer none, .pointer (some ⟨X + 1, 0, none⟩)]) (.int .i64 (q : Int))).run Try.prog W = .ok v W) ∧ Hid (∀ wx, NM wx (.pointer (some ⟨X + 1, 0, none⟩)) → NM wx v) ∧ Hid (∀ r, v = .pointer (some ⟨r, 0, none⟩) → X ≠ r) := by
        rcases (show q = 0 ∨ q = 1 by omega) with rfl | rfl
        · exact ⟨.pointer none, fun _ => by kernel_rfl, Lib.hid (fun wx h => .inl rfl), Lib.hid (fun r e => by cases e)⟩
        · exact ⟨.pointer (some ⟨X + 1, 0, none⟩), fun _ => by kernel_rfl, Lib.hid (fun wx h => h), HFz⟩
      have hjb : decide ((q : Int) < 2) = true := by simp; omega
      have HP := Lib.hid (HPV.out _ HZ.out)
      go_wp2_with fail
      go_loopw [6] (fun jv wq => ∃ (j : Nat) (k1 : Int), j ≤ 6 ∧ jv = .int .i64 j ∧ Hid (VBox wq X (B.as k1)) ∧ Hid (NM wq pv) ∧ Hid (NM wq (.pointer (some ⟨X + 1, 0, none⟩))) ∧ Hid (W.grownBy wq none)) (fun jv _ => 6 - (intOf jv).toNat)
      case atStart => exact ⟨0, k0, by omega, rfl, HV, HP, HZ, HG⟩
      case round =>
        clear HV HP HZ HG
        obtain ⟨j, k1, hj, rfl, HV, HP, HZ, HG⟩ := hrel
        by_cases hlt : j < 6
        · have HV2 := Lib.hid (HV.out.setK (j : Int))
          have HP2 := Lib.hid (HP.out.far (o := 0) (u := .int .i64 j) HF.out)
          have HZ2 := Lib.hid (HZ.out.far (o := 0) (u := .int .i64 j) HFz.out)
          have HG2 := Lib.hid (set_new 0 (.int .i64 j) HG.out (Nat.le_of_eq hX))
          have fz := HV.out.frozen 0
          have HAc := Lib.hid (act_no HP2.out (B.as j) (VAct.as_ok HO.out _) ⟨by show (0:Int) ≤ (j:Int); omega, by show (j:Int) < 6; omega⟩)
          obtain ⟨c0, c1, c2, c3, c4, c5, c6, c7, c8, c9, c10, c11, c12, c13, c14⟩ := HV.out.at
          simp only [Nat.zero_add, VAct.as] at c0 c1 c2 c3 c4 c5 c6 c7 c8 c9 c10 c11 c12 c13 c14
          unfold VAct.as at HAc
          simp only at HAc
          go_wp2_with fail
          refine HAc.out.mono ?_
          rintro e w2 ⟨rfl, g2⟩
          have HV3 := Lib.hid (HV2.out.grow g2)
          have HP3 := Lib.hid (HP2.out.grow g2)
          have HZ3 := Lib.hid (HZ2.out.grow g2)
          have HG3 := Lib.hid (grown_trans HG2.out g2)
          clear g2 c0 c1 c2 c3 c4 c5 c6 c7 c8 c9 c10 c11 c12 c13 c14 fz
          go_wp2_with fail
          go_roundw
          case rel => exact ⟨j + 1, _, by omega, by go_num, HV3, HP3, HZ3, HG3⟩
          case measure => simp [intOf]; omega
        · obtain rfl : j = 6 := by omega
          obtain ⟨c0, c1, c2, c3, c4, c5, c6, c7, c8, c9, c10, c11, c12, c13, c14⟩ := HV.out.at
          simp only [Nat.zero_add, VAct.as] at c0 c1 c2 c3 c4 c5 c6 c7 c8 c9 c10 c11 c12 c13 c14
          have HAt := Lib.hid (at_no HP.out B.lo)
          go_wp2_with fail
          refine HAt.out.mono ?_
          rintro e w3 ⟨x, rfl, g3⟩
          have hgx := grown_trans g3 (World.grownBy_alloc w3 (.cells #[.int .i64 x.s, .int .i64 x.e, .int .i64 x.f, .int .i64 x.o, .bool x.sh, .int .i64 x.p, .int .i64 x.m, .int .i64 x.i, .int .i64 x.a, .bool x.wi] 31) none)
          have HV4 := Lib.hid (HV.out.grow hgx)
          have HP4 := Lib.hid (HP.out.grow hgx)
          have HZ4 := Lib.hid (HZ.out.grow hgx)
          have HG4 := Lib.hid (grown_trans HG.out hgx)
          clear g3 hgx c0 c1 c2 c3 c4 c5 c6 c7 c8 c9 c10 c11 c12 c13 c14
          have HEn := Lib.hid (entries_no HP4.out)
          have HFk := Lib.hid (fork_no HP4.out)
          go_wp2_with fail
          refine HEn.out.mono ?_
          rintro e w5 ⟨rfl, e5⟩
          subst e5
          go_wp2_with fail
          refine HFk.out.mono ?_
          rintro e w6 ⟨rfl, e6⟩
          subst e6
          go_wp2_with fail
          go_roundw
          case rel => exact ⟨q + 1, _, by omega, by go_num, HV4, HZ4, HG4⟩
          case measure => simp [intOf]; omega
    · obtain rfl : q = 2 := by omega
      go_wp2_with fail
      refine (HLv.out _).mono ?_
      rintro e w10 ⟨rfl, g10⟩
      have HG10 := Lib.hid (grown_trans HG.out g10)
      clear g10
      go_wp2_with fail
      go_ret
      exact ⟨rfl, HG10.out⟩
theorem none_say (W : World) (B : VAct) (hB : B.Ok) : Calls Try.prog 7 #[.agg #[.int .i64 B.k, .int .i64 B.lo, .int .i64 B.n, .int .i64 B.how, .int .i64 B.x.s, .int .i64 B.x.e, .int .i64 B.x.f, .int .i64 B.x.o, .bool B.x.sh, .int .i64 B.x.p, .int .i64 B.x.m, .int .i64 B.x.i, .int .i64 B.x.a, .bool B.x.wi, .bool B.on]] W fun e w' => e = .returned (.bool true) ∧ Below W.heap.size W w' := said (none_walk W B hB)
end Go.Proofs.Ytamkmmhjmpjibaa
