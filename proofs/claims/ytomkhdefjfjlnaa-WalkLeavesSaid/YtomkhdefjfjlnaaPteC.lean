/- Calls of package pte, and of the document's, that make an entry a number and back. -/
import Derived.Test.YtomkhdefjfjlnaaPteB
namespace Go.Proofs.Ytomkhdefjfjlnaa
open Go.ChangeShapes Go.WideShapes Go.RowKit
set_option linter.unusedVariables false

theorem calls_flip {P : Program} {f : FuncId} {args : Array Value} {w : World} {X : Ending} (h : Calls P f args w fun e w' => e = X ∧ w = w') : Calls P f args w fun e w' => e = X ∧ w' = w :=
  h.mono fun _ _ ⟨a, b⟩ => ⟨a, b.symm⟩

theorem Below.drewK {B : Nat} {a w : World} (h : Below B a w) (n : Nat) : Below B a (w.drewN n) := by
  refine ⟨?_, ?_, ?_, ?_, ?_⟩
  · exact h.os
  · exact h.tape
  · exact h.output
  · exact h.size
  · exact h.block

/-- An entry that a call lays into a new block. -/
theorem heap_entry (w : World) (k : Nat) (x y x' y' : Value) (t : TypeId) (h1 : x'.oneCell' = true) (h2 : y'.oneCell' = true) :
    ((((w.alloc (.cells #[x, y] t)).drewN k).setCell ⟨w.heap.size, 0, none⟩ x').setCell ⟨w.heap.size, 1, none⟩ y').heap[w.heap.size]? = some (.cells #[x', y'] t (0, 0)) := by
  have h : ((w.alloc (.cells #[x, y] t)).drewN k).heap[w.heap.size]? = some (.cells [x, y].toArray t (0, 0)) := heap_alloc_new w _
  exact heap_setCells h [x', y'] (by simp) (by intro v hv; simp at hv; rcases hv with rfl | rfl <;> assumption)

theorem below_entry (w : World) (k : Nat) (o : Obj) (x' y' : Value) :
    Below w.heap.size w ((((w.alloc o).drewN k).setCell ⟨w.heap.size, 0, none⟩ x').setCell ⟨w.heap.size, 1, none⟩ y') :=
  (Below.drewK ((Below.refl _ w).alloc (Nat.le_refl _) o) k).grown (grown_setCells ((w.alloc o).drewN k) w.heap.size 0 [x', y']) (by show w.heap.size ≤ (w.heap.push o).size; simp) (by intro k hk; cases hk; exact Nat.le_refl _)

theorem cut_0_44 (x : Int) : cutOf (x % 18446744073709551616) 0 44 = x % 17592186044416 := by unfold cutOf; simp
theorem cut_0_8 (x : Int) : cutOf (x % 18446744073709551616) 0 8 = x % 256 := by unfold cutOf; simp
theorem cut_v_8 (x : Int) : cutOf x 0 8 = x % 256 := by unfold cutOf; simp
theorem cut_v_44 (x : Int) : cutOf x 10 44 = x / 1024 % 17592186044416 := by unfold cutOf; rfl
theorem okU_mod (x : Int) : okU (x % 18446744073709551616) := ⟨by omega, by omega⟩

theorem or_parts (p f : Int) (hp : 0 ≤ p) (hp1 : p < 17592186044416) (hf : 0 ≤ f) (hf1 : f < 256) : bits .or .u64 (p * 1024) f = p * 1024 + f := by
  exact bits_join .u64 64 (by decide) (fun m h0 h1 => by rw [IntKind.wrap_u64]; omega) 10 _ _ (by omega) (by omega) (by omega) hf (by omega) (by omega)

theorem encode_ok (F P : Int) (w : World) :
    Calls Try.prog 59 #[.agg #[.int .i64 F, .int .i64 P]] w fun e w' => e = .returned (.int .u64 (encOf F P)) ∧ Below w.heap.size w w' := by
  have hu : IntKind.u64.wrap F = F % 18446744073709551616 := IntKind.wrap_u64 F
  have hv : IntKind.u64.wrap P = P % 18446744073709551616 := IntKind.wrap_u64 P
  have C1 := cut_ok (P % 18446744073709551616) 0 44 0 44 (okU_mod P) (by decide) (by decide) rfl rfl
  have C2 := cut_ok (F % 18446744073709551616) 0 8 0 8 (okU_mod F) (by decide) (by decide) rfl rfl
  rw [cut_0_44] at C1
  rw [cut_0_8] at C2
  have H1 := Lib.hid C1
  have H2 := Lib.hid C2
  have HO := Lib.hid (or_parts (P % 17592186044416) (F % 256) (by omega) (by omega) (by omega) (by omega))
  have b0 : ∀ (w : World) n, Below w.heap.size w ((w.alloc (.cells #[.int .i64 F, .int .i64 P] 40)).drewN n) := fun w n => Below.drewK ((Below.refl _ _).alloc (Nat.le_refl _) _) n
  have B0 := Lib.hid b0
  clear C1 C2 b0
  go_enter Try.func59, Try.ntmps59
  go_wp2_with fail
  go_quiet (first | (with_reducible exact Calls.quiet_of (H1.out _)) | (with_reducible exact Calls.quiet_of (H2.out _)))
  go_wp2_with fail
  go_ret
  refine ⟨?_, B0.out _ _⟩
  unfold encOf
  rw [← HO.out]
  rfl

theorem ref_encode_ok (F P : Int) (w : World) :
    Calls Try.prog 24 #[.agg #[.int .i64 F, .int .i64 P]] w fun e w' => e = .returned (.int .u64 (encOf F P)) ∧ Below w.heap.size w w' := by
  have hu : IntKind.u64.wrap F = F % 18446744073709551616 := IntKind.wrap_u64 F
  have hv : IntKind.u64.wrap P = P % 18446744073709551616 := IntKind.wrap_u64 P
  have C1 := fun w => calls_flip (low_ok (P % 18446744073709551616) 44 44 (okU_mod P) (by decide) rfl w)
  have C2 := fun w => calls_flip (low_ok (F % 18446744073709551616) 8 8 (okU_mod F) (by decide) rfl w)
  rw [show P % 18446744073709551616 % 2 ^ 44 = P % 17592186044416 by omega] at C1
  rw [show F % 18446744073709551616 % 2 ^ 8 = F % 256 by omega] at C2
  have H1 := Lib.hid C1
  have H2 := Lib.hid C2
  have b0 : ∀ (w : World) n, Below w.heap.size w ((w.alloc (.cells #[.int .i64 F, .int .i64 P] 40)).drewN n) := fun w n => Below.drewK ((Below.refl _ _).alloc (Nat.le_refl _) _) n
  have B0 := Lib.hid b0
  clear C1 C2 b0
  go_enter Try.func24, Try.ntmps24
  go_wp2_with fail
  go_quiet (first | (with_reducible exact Calls.quiet_of_same (H1.out _)) | (with_reducible exact Calls.quiet_of_same (H2.out _)))
  go_wp2_with fail
  go_ret
  refine ⟨?_, B0.out _ _⟩
  unfold encOf
  rw [Int.add_comm]
  rfl

theorem decode_ok (v : Int) (hv : okU v) (w : World) :
    Calls Try.prog 58 #[.int .u64 v] w fun e w' => e = .returned (.agg #[.int .i64 (flagOf v), .int .i64 (ppnOf v)]) ∧ Below w.heap.size w w' := by
  have C1 := cut_ok v 0 8 0 8 hv (by decide) (by decide) rfl rfl
  have C2 := cut_ok v 10 44 10 44 hv (by decide) (by decide) rfl rfl
  rw [cut_v_8] at C1
  rw [cut_v_44] at C2
  have H1 := Lib.hid C1
  have H2 := Lib.hid C2
  clear C1 C2 hv
  go_enter Try.func58, Try.ntmps58
  go_wp2_with fail
  refine (H1.out _).mono ?_
  rintro e w' ⟨rfl, k, rfl⟩
  go_wp2_with fail
  refine (H2.out _).mono ?_
  rintro e w' ⟨rfl, k2, rfl⟩
  go_wp2_with fail
  refine bodyPost_ret (results_cell_row rfl _ _ w.heap.size _ #[.int .i64 (v % 256), .int .i64 (v / 1024 % 17592186044416)] (0, 0) _ rfl (heap_entry w (k + k2) _ _ _ _ _ rfl rfl) Try.underlying40 (by kernel_rfl) (by kernel_rfl)) rfl ?_
  exact ⟨rfl, below_entry w _ _ _ _⟩

theorem ref_decode_ok (v : Int) (hv : okU v) (w : World) :
    Calls Try.prog 39 #[.int .u64 v] w fun e w' => e = .returned (.agg #[.int .i64 (flagOf v), .int .i64 (ppnOf v)]) ∧ Below w.heap.size w w' := by
  have h0 := hv.1
  have h1 := hv.2
  have C1 := fun w => calls_flip (low_ok v 8 8 hv (by decide) rfl w)
  have C2 := fun w => calls_flip (low_ok (v / 1024) 44 44 ⟨by omega, by omega⟩ (by decide) rfl w)
  rw [show v % 2 ^ 8 = v % 256 by omega] at C1
  rw [show v / 1024 % 2 ^ 44 = v / 1024 % 17592186044416 by omega] at C2
  have H1 := Lib.hid C1
  have H2 := Lib.hid C2
  clear C1 C2 hv
  go_enter Try.func39, Try.ntmps39
  go_wp2_with fail
  refine (H1.out _).mono ?_
  rintro e w' ⟨rfl, rfl⟩
  go_wp2_with fail
  refine (H2.out _).mono ?_
  rintro e w' ⟨rfl, rfl⟩
  go_wp2_with fail
  refine bodyPost_ret (results_cell_row rfl _ _ w.heap.size _ #[.int .i64 (v % 256), .int .i64 (v / 1024 % 17592186044416)] (0, 0) _ rfl (heap_alloc_new w _) Try.underlying40 (by kernel_rfl) (by kernel_rfl)) rfl ?_
  exact ⟨rfl, (Below.refl _ w).alloc (Nat.le_refl _) _⟩
end Go.Proofs.Ytomkhdefjfjlnaa
