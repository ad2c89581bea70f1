/- Layer 17 (landed): FlatNone, walked. -/
import Derived.Test.YtefiiooibbkffaaGreatFlMl
namespace Go.Proofs.YtefiiooibbkffaaGreat
open Go.ChangeShapes Go.WideShapes Go.ChangeAt Go.RowKit Go.Deep Go.Sort
set_option linter.unusedVariables false
set_option linter.unusedSimpArgs false

set_option maxRecDepth 100000 in
set_option maxHeartbeats 32000000 in
theorem none_walk (W : World) (o : FOp) :
    Calls Tryz.prog 6 #[.agg #[.int .i64 o.k, .int .i64 o.proc, .int .i64 o.addr, .int .i64 o.n, .int .i64 o.prot, .bool o.sh, .int .i64 o.file, .int .i64 o.off, .bool o.fixed, .int .i64 o.how, .int .i64 o.ati, .int .i64 o.v, .int .i64 o.hd, .int .i64 o.to]] W fun e w' => e = .returned (.bool true) ∧ W.grownBy w' none := by
  have HLv := Lib.hid (fun wx => lives_ok wx)
  have hX0 := World.size_alloc W (.cells #[.int .i64 o.k, .int .i64 o.proc, .int .i64 o.addr, .int .i64 o.n, .int .i64 o.prot, .bool o.sh, .int .i64 o.file, .int .i64 o.off, .bool o.fixed, .int .i64 o.how, .int .i64 o.ati, .int .i64 o.v, .int .i64 o.hd, .int .i64 o.to] 34)
  have g1 := World.grownBy_alloc W (.cells #[.int .i64 o.k, .int .i64 o.proc, .int .i64 o.addr, .int .i64 o.n, .int .i64 o.prot, .bool o.sh, .int .i64 o.file, .int .i64 o.off, .bool o.fixed, .int .i64 o.how, .int .i64 o.ati, .int .i64 o.v, .int .i64 o.hd, .int .i64 o.to] 34) none
  have g2 := World.grownBy_alloc (W.alloc (.cells #[.int .i64 o.k, .int .i64 o.proc, .int .i64 o.addr, .int .i64 o.n, .int .i64 o.prot, .bool o.sh, .int .i64 o.file, .int .i64 o.off, .bool o.fixed, .int .i64 o.how, .int .i64 o.ati, .int .i64 o.v, .int .i64 o.hd, .int .i64 o.to] 34)) nmCells none
  have HI0 := (OpB.new W o).grow g2
  have HZ0 : NMf ((W.alloc (.cells #[.int .i64 o.k, .int .i64 o.proc, .int .i64 o.addr, .int .i64 o.n, .int .i64 o.prot, .bool o.sh, .int .i64 o.file, .int .i64 o.off, .bool o.fixed, .int .i64 o.how, .int .i64 o.ati, .int .i64 o.v, .int .i64 o.hd, .int .i64 o.to] 34)).alloc nmCells) (.pointer (some ⟨W.heap.size + 1, 0, none⟩)) := .inr ⟨_, rfl, by rw [← hX0]; exact heap_alloc_new _ _⟩
  have HG0 := Lib.hid (grown_trans g1 g2)
  obtain ⟨X, hX⟩ : ∃ X, W.heap.size = X := ⟨_, rfl⟩
  rw [hX] at HI0 HZ0
  have HI := Lib.hid HI0
  have HZI := Lib.hid HZ0
  unfold nmCells at HG0 HI HZI
  clear HI0 HZ0 g1 g2 hX0
  go_enter Tryz.func6, Tryz.ntmps6
  go_wp2_with fail
  go_loopw [11] (fun iv wr => ∃ (q : Nat), q ≤ 2 ∧ iv = .int .i64 q ∧ Hid (OpB wr X o) ∧ Hid (NMf wr (.pointer (some ⟨X + 1, 0, none⟩))) ∧ Hid (W.grownBy wr none)) (fun iv _ => 2 - (intOf iv).toNat)
  case atStart => exact ⟨0, by omega, rfl, HI, HZI, HG0⟩
  case round =>
    clear HI HZI HG0
    obtain ⟨q, hq, rfl, HV, HZ, HG⟩ := hrel
    by_cases hlt : q < 2
    · obtain ⟨pv, hv, HPV⟩ : ∃ v : Value, (∀ W, (Instr.index 59 (.agg #[.pointer none, .pointer (some ⟨X + 1, 0, none⟩)]) (.int .i64 (q : Int))).run Tryz.prog W = .ok v W) ∧ Hid (∀ wx, NMf wx (.pointer (some ⟨X + 1, 0, none⟩)) → NMf wx v) := by
        rcases (show q = 0 ∨ q = 1 by omega) with rfl | rfl
        · exact ⟨.pointer none, fun _ => by kernel_rfl, Lib.hid (fun wx h => .inl rfl)⟩
        · exact ⟨.pointer (some ⟨X + 1, 0, none⟩), fun _ => by kernel_rfl, Lib.hid (fun wx h => h)⟩
      have hjb : decide ((q : Int) < 2) = true := by simp; omega
      have HP := Lib.hid (HPV.out _ HZ.out)
      have HBy := Lib.hid (byte_no HP.out o.proc o.addr o.ati)
      obtain ⟨c0, c1, c2, c3, c4, c5, c6, c7, c8, c9, c10, c11, c12, c13⟩ := HV.out.at
      go_wp2_with fail
      refine HBy.out.mono ?_
      rintro e w3 ⟨rfl, g3⟩
      have HFb := Lib.hid (fileByte_no (HP.out.grow g3) o.file o.off o.ati)
      have HG3 := Lib.hid g3
      clear c0 c1 c2 c3 c4 c5 c6 c7 c8 c9 c10 c11 c12 c13 HBy
      obtain ⟨c0, c1, c2, c3, c4, c5, c6, c7, c8, c9, c10, c11, c12, c13⟩ := (HV.out.grow g3).at
      clear g3
      go_wp2_with fail
      refine HFb.out.mono ?_
      rintro e w4 ⟨rfl, g4⟩
      have HG4 := Lib.hid (grown_trans HG3.out g4)
      have h4 := HP.out.grow HG4.out
      clear c0 c1 c2 c3 c4 c5 c6 c7 c8 c9 c10 c11 c12 c13 HFb HG3 g4
      obtain ⟨c0, c1, c2, c3, c4, c5, c6, c7, c8, c9, c10, c11, c12, c13⟩ := (HV.out.grow HG4.out).at
      have hc1 := Calls.regrown_g (w := w4) fun W g => do_no (h4.grow g) o
      have hc2 := Calls.regrown_g (w := w4) fun W g => procs_no (h4.grow g)
      have hc3 := Calls.regrown_g (w := w4) fun W g => entries_no (h4.grow g) o.proc
      have hc4 := Calls.regrown_g (w := w4) fun W g => handles_no (h4.grow g)
      have r0 := cell_regrown c0
      have r1 := cell_regrown c1
      have r2 := cell_regrown c2
      have r3 := cell_regrown c3
      have r4 := cell_regrown c4
      have r5 := cell_regrown c5
      have r6 := cell_regrown c6
      have r7 := cell_regrown c7
      have r8 := cell_regrown c8
      have r9 := cell_regrown c9
      have r10 := cell_regrown c10
      have r11 := cell_regrown c11
      have r12 := cell_regrown c12
      have r13 := cell_regrown c13
      clear c0 c1 c2 c3 c4 c5 c6 c7 c8 c9 c10 c11 c12 c13 h4
      go_upto_region 7 with fail
      refine wp_region_quiet_below (by kernel_rfl) (by kernel_rfl) ?_
      repeat (go_big_quiet_step (first | exact hc1 _ _ | exact hc2 _ _ | exact hc3 _ _ | exact hc4 _ _ | fail))
      refine wpQuiet_nil ?_
      intro _ hw'
      obtain ⟨⟨dq, osq⟩, hw''⟩ := hw'
      subst hw''
      have HQ := Lib.hid (regrown_grown w4 dq osq)
      clear r0 r1 r2 r3 r4 r5 r6 r7 r8 r9 r10 r11 r12 r13
      generalize grow (redrawn w4 dq) osq = w5 at *
      have HV5 := Lib.hid (HV.out.grow (grown_trans HG4.out HQ.out))
      have HZ5 := Lib.hid (HZ.out.grow (grown_trans HG4.out HQ.out))
      have HG5 := Lib.hid (grown_trans HG.out (grown_trans HG4.out HQ.out))
      clear HV HZ HG HP HPV HG4 HQ hc1 hc2 hc3 hc4
      go_wp2_with fail
      go_roundw
      case rel => exact ⟨q + 1, by omega, by go_num, HV5, HZ5, HG5⟩
      case measure => simp [intOf]; omega
    · obtain rfl : q = 2 := by omega
      go_wp2_with fail
      refine (HLv.out _).mono ?_
      rintro e w10 ⟨rfl, g10⟩
      have HG10 := Lib.hid (grown_trans HG.out g10)
      clear g10
      go_wp2_with fail
      go_ret
      exact ⟨rfl, HG10.out⟩
theorem none_say (W : World) (o : FOp) (ho : OkO o) : Calls Tryz.prog 6 #[.agg #[.int .i64 o.k, .int .i64 o.proc, .int .i64 o.addr, .int .i64 o.n, .int .i64 o.prot, .bool o.sh, .int .i64 o.file, .int .i64 o.off, .bool o.fixed, .int .i64 o.how, .int .i64 o.ati, .int .i64 o.v, .int .i64 o.hd, .int .i64 o.to]] W fun e w' => e = .returned (.bool true) ∧ Below W.heap.size W w' := said (none_walk W o)
end Go.Proofs.YtefiiooibbkffaaGreat
