/- Calls of package pte, and of the document's: what an entry allows, and the flags of what is to be allowed. Calls of package pte, and of the document's: May, Flags, and the document's Prot. Calls of the document's layer 3: Prot, May. The document's examples of layer 3, and cells kept past calls. -/
import Derived.Test.YtlieommbomjdaaaPteB1
import Derived.Laws.StructEq
namespace Go.Proofs.Ytlieommbomjdaaa
open Go.ChangeShapes Go.WideShapes Go.RowKit
set_option linter.unusedVariables false

theorem bit_mod (F : Int) (k : Int) (hk : IsBit k) : bit (F % 256) k = bit F k := by
  unfold bit
  apply decide_eq_decide.2
  rcases hk with rfl | rfl | rfl | rfl | rfl <;> omega

/-- The cells of an entry that is boxed. -/
structure EntAt (w : World) (b : Nat) (F P : Int) : Prop where
  flags : w.cell? ⟨b, 0, none⟩ = some (.int .i64 F)
  ppn : w.cell? ⟨b, 1, none⟩ = some (.int .i64 P)

theorem EntAt.new (w : World) (F P : Int) (t : TypeId) : EntAt (w.alloc (.cells #[.int .i64 F, .int .i64 P] t)) w.heap.size F P :=
  ⟨by rw [cell_of_row _ _ _ _ _ _ (heap_alloc_new w _)]; rfl, by rw [cell_of_row _ _ _ _ _ _ (heap_alloc_new w _)]; rfl⟩
theorem EntAt.past {w w' : World} {b : Nat} {F P : Int} (h : EntAt w b F P) (k : Below w.heap.size w w') : EntAt w' b F P :=
  ⟨(k.cell (p := ⟨b, 0, none⟩) (World.block_lt_of_cell? w _ h.flags)).trans h.flags, (k.cell (p := ⟨b, 1, none⟩) (World.block_lt_of_cell? w _ h.ppn)).trans h.ppn⟩

/-- Behind the box, and behind a call that followed. -/
theorem below_box {w w' : World} {o : Obj} (k : Below (w.alloc o).heap.size (w.alloc o) w') : Below w.heap.size w w' :=
  ((Below.refl _ w).alloc (Nat.le_refl _) o).trans (k.mono (by simp))

theorem Ints.drew {w : World} {s : Option Addr} {l : Nat} {xs : List Int} (h : Ints w s l xs) : Ints w.drew s l xs := ⟨h.len, h.cells⟩

theorem flags_ok (F P : Int) (w : World) :
    Calls Try.prog 79 #[.agg #[.int .i64 F, .int .i64 P]] w fun e w' => e = .returned (.int .i64 (F % 256)) ∧ Below w.heap.size w w' := by
  have hu : IntKind.u64.wrap F = F % 18446744073709551616 := IntKind.wrap_u64 F
  have C2 := low_ok (F % 18446744073709551616) 8 8 (okU_mod F) (by decide) rfl
  rw [show F % 18446744073709551616 % 2 ^ 8 = F % 256 by omega] at C2
  have H2 := Lib.hid C2
  have b0 : ∀ w : World, Below w.heap.size w (w.alloc (.cells #[.int .i64 F, .int .i64 P] 44)) := fun w => (Below.refl _ _).alloc (Nat.le_refl _) _
  have B0 := Lib.hid b0
  clear b0 C2
  go_enter Try.func79, Try.ntmps79
  go_wp2_with fail
  refine (H2.out _).mono ?_
  rintro e w' ⟨rfl, rfl⟩
  go_wp2_with fail
  go_ret
  exact ⟨rfl, B0.out _⟩

theorem ref_kind_ok (F P : Int) (w : World) :
    Calls Try.prog 51 #[.agg #[.int .i64 F, .int .i64 P]] w fun e w' => e = .returned (.int .i64 (kindOf F)) ∧ Below w.heap.size w w' := by
  rw [kindOf_eq]
  have f0 : 0 ≤ F % 256 := by omega
  have f1 : F % 256 ≤ 9223372036854775807 := by omega
  have C1 := is_ok (F % 256) 1 isBit_1 f0 f1
  have C2 := is_ok (F % 256) 2 isBit_2 f0 f1
  have C4 := is_ok (F % 256) 4 isBit_4 f0 f1
  have C8 := is_ok (F % 256) 8 isBit_8 f0 f1
  rw [bit_mod _ _ isBit_1] at C1
  rw [bit_mod _ _ isBit_2] at C2
  rw [bit_mod _ _ isBit_4] at C4
  rw [bit_mod _ _ isBit_8] at C8
  have H1 := Lib.hid C1
  have H2 := Lib.hid C2
  have H4 := Lib.hid C4
  have H8 := Lib.hid C8
  have HF := Lib.hid (flags_ok F P)
  clear C1 C2 C4 C8
  generalize bit F 1 = b1 at *
  generalize bit F 2 = b2 at *
  generalize bit F 4 = b4 at *
  generalize bit F 8 = b8 at *
  cases b1
  · go_enter Try.func51, Try.ntmps51
    go_wp2_with fail
    refine (HF.out _).mono ?_
    rintro e w2 ⟨rfl, h2⟩
    have H2W := Lib.hid (below_box h2)
    clear h2
    go_wp2_with fail
    refine (H1.out _).mono ?_
    rintro e w' ⟨rfl, rfl⟩
    go_wp2_with fail
    go_ret
    exact ⟨rfl, H2W.out⟩
  · cases b4
    · cases b2
      · cases b8
        · go_enter Try.func51, Try.ntmps51
          go_wp2_with fail
          refine (HF.out _).mono ?_
          rintro e w2 ⟨rfl, h2⟩
          have H2W := Lib.hid (below_box h2)
          clear h2
          go_wp2_with fail
          refine (H1.out _).mono ?_
          rintro e w' ⟨rfl, rfl⟩
          go_wp2_with fail
          refine (H4.out _).mono ?_
          rintro e w' ⟨rfl, rfl⟩
          go_wp2_with fail
          refine (H2.out _).mono ?_
          rintro e w' ⟨rfl, rfl⟩
          go_wp2_with fail
          refine (H8.out _).mono ?_
          rintro e w' ⟨rfl, rfl⟩
          go_wp2_with fail
          go_ret
          exact ⟨rfl, H2W.out⟩
        · go_enter Try.func51, Try.ntmps51
          go_wp2_with fail
          refine (HF.out _).mono ?_
          rintro e w2 ⟨rfl, h2⟩
          have H2W := Lib.hid (below_box h2)
          clear h2
          go_wp2_with fail
          refine (H1.out _).mono ?_
          rintro e w' ⟨rfl, rfl⟩
          go_wp2_with fail
          refine (H4.out _).mono ?_
          rintro e w' ⟨rfl, rfl⟩
          go_wp2_with fail
          refine (H2.out _).mono ?_
          rintro e w' ⟨rfl, rfl⟩
          go_wp2_with fail
          refine (H8.out _).mono ?_
          rintro e w' ⟨rfl, rfl⟩
          go_wp2_with fail
          go_ret
          exact ⟨rfl, H2W.out⟩
      · go_enter Try.func51, Try.ntmps51
        go_wp2_with fail
        refine (HF.out _).mono ?_
        rintro e w2 ⟨rfl, h2⟩
        have H2W := Lib.hid (below_box h2)
        clear h2
        go_wp2_with fail
        refine (H1.out _).mono ?_
        rintro e w' ⟨rfl, rfl⟩
        go_wp2_with fail
        refine (H4.out _).mono ?_
        rintro e w' ⟨rfl, rfl⟩
        go_wp2_with fail
        refine (H2.out _).mono ?_
        rintro e w' ⟨rfl, rfl⟩
        go_wp2_with fail
        go_ret
        exact ⟨rfl, H2W.out⟩
    · cases b2
      · go_enter Try.func51, Try.ntmps51
        go_wp2_with fail
        refine (HF.out _).mono ?_
        rintro e w2 ⟨rfl, h2⟩
        have H2W := Lib.hid (below_box h2)
        clear h2
        go_wp2_with fail
        refine (H1.out _).mono ?_
        rintro e w' ⟨rfl, rfl⟩
        go_wp2_with fail
        refine (H4.out _).mono ?_
        rintro e w' ⟨rfl, rfl⟩
        go_wp2_with fail
        refine (H2.out _).mono ?_
        rintro e w' ⟨rfl, rfl⟩
        go_wp2_with fail
        go_ret
        exact ⟨rfl, H2W.out⟩
      · go_enter Try.func51, Try.ntmps51
        go_wp2_with fail
        refine (HF.out _).mono ?_
        rintro e w2 ⟨rfl, h2⟩
        have H2W := Lib.hid (below_box h2)
        clear h2
        go_wp2_with fail
        refine (H1.out _).mono ?_
        rintro e w' ⟨rfl, rfl⟩
        go_wp2_with fail
        refine (H4.out _).mono ?_
        rintro e w' ⟨rfl, rfl⟩
        go_wp2_with fail
        refine (H2.out _).mono ?_
        rintro e w' ⟨rfl, rfl⟩
        go_wp2_with fail
        refine (H2.out _).mono ?_
        rintro e w' ⟨rfl, rfl⟩
        go_wp2_with fail
        go_ret
        exact ⟨rfl, H2W.out⟩

end Go.Proofs.Ytlieommbomjdaaa

namespace Go.Proofs.Ytlieommbomjdaaa
open Go.ChangeShapes Go.WideShapes Go.RowKit
set_option linter.unusedVariables false

theorem prot_bits (F : Int) : bit (protOf F) 1 = (decide (kindOf F = 2) && bit F 2) ∧ bit (protOf F) 2 = (decide (kindOf F = 2) && bit F 4) ∧ bit (protOf F) 4 = (decide (kindOf F = 2) && bit F 8) := by
  unfold protOf
  by_cases h : kindOf F = 2
  · rw [if_pos h]
    cases bit F 2 <;> cases bit F 4 <;> cases bit F 8 <;> simp [h, one, bit]
  · rw [if_neg h]
    simp [h, bit]

theorem may_1 (F : Int) (u : Bool) : mayOf F 1 u = (bit (protOf F) 1 && (bit F 16 == u)) := by
  rw [(prot_bits F).1]; unfold mayOf
  cases bit F 2 <;> cases bit F 4 <;> cases bit F 8 <;> cases bit F 16 == u <;> simp
theorem may_2 (F : Int) (u : Bool) : mayOf F 2 u = (bit (protOf F) 2 && (bit F 16 == u)) := by
  rw [(prot_bits F).2.1]; unfold mayOf
  cases bit F 2 <;> cases bit F 4 <;> cases bit F 8 <;> cases bit F 16 == u <;> simp
theorem may_4 (F : Int) (u : Bool) : mayOf F 4 u = (bit (protOf F) 4 && (bit F 16 == u)) := by
  rw [(prot_bits F).2.2]; unfold mayOf
  cases bit F 2 <;> cases bit F 4 <;> cases bit F 8 <;> cases bit F 16 == u <;> simp
theorem may_no (F a : Int) (u : Bool) (h1 : a ≠ 1) (h2 : a ≠ 2) (h4 : a ≠ 4) : mayOf F a u = false := by
  unfold mayOf; simp [h1, h2, h4]

theorem low_bits (p : Int) : p % 8 = 0 ↔ (bit p 1 = false ∧ bit p 2 = false ∧ bit p 4 = false) := by
  unfold bit; simp; omega

theorem flags_sum (b1 b2 b4 u : Bool) : gath [1, one (b1 || b2) 2, one b2 4, one b4 8, one u 16] = 1 + one (b1 || b2) 2 + one b2 4 + one b4 8 + one u 16 := by
  cases b1 <;> cases b2 <;> cases b4 <;> cases u <;> decide

def flagsB (b1 b2 b4 u : Bool) : Int := if b1 = false ∧ b2 = false ∧ b4 = false then 0 else gath [1, one (b1 || b2) 2, one b2 4, one b4 8, one u 16]
theorem flagsOf_eq (p : Int) (u : Bool) : flagsOf p u = flagsB (bit p 1) (bit p 2) (bit p 4) u := by
  unfold flagsOf flagsB
  rw [flags_sum]
  by_cases h : p % 8 = 0
  · rw [if_pos h, if_pos ((low_bits p).1 h)]
  · rw [if_neg h, if_neg (fun g => h ((low_bits p).2 g))]

theorem flagsOf_ok (p : Int) (u : Bool) (w : World) :
    Calls Try.prog 38 #[.int .i64 p, .bool u] w fun e w' => e = .returned (.int .i64 (flagsOf p u)) ∧ Below w.heap.size w w' := by
  rw [flagsOf_eq]
  have H1 := Lib.hid (has_ok p 1 isBit_1)
  have H2 := Lib.hid (has_ok p 2 isBit_2)
  have H4 := Lib.hid (has_ok p 4 isBit_4)
  generalize bit p 1 = b1 at *
  generalize bit p 2 = b2 at *
  generalize bit p 4 = b4 at *
  have HG : ∀ x2 x4 x8 x16 : Int, Calls Try.prog 66 #[.slice (some ⟨w.heap.size, 0, none⟩) 5 5] (w.alloc (.cells #[.int .i64 1, .int .i64 x2, .int .i64 x4, .int .i64 x8, .int .i64 x16] 3)) fun e w' => e = .returned (.int .i64 (gath [1, x2, x4, x8, x16])) ∧ w.alloc (.cells #[.int .i64 1, .int .i64 x2, .int .i64 x4, .int .i64 x8, .int .i64 x16] 3) = w' :=
    fun x2 x4 x8 x16 => gather_ok _ _ 5 5 _ (ints_new w 0 [1, x2, x4, x8, x16] 3) (by decide)
  have HG := Lib.hid HG
  have b0 : ∀ o : Obj, Below w.heap.size w (w.alloc o) := fun o => (Below.refl _ _).alloc (Nat.le_refl _) _
  have B0 := Lib.hid b0
  clear b0
  cases b1 <;> cases b2 <;> cases b4
  · go_enter Try.func38, Try.ntmps38
    go_wp2_with fail
    refine (H1.out _).mono ?_
    rintro e w' ⟨rfl, rfl⟩
    go_wp2_with fail
    refine (H2.out _).mono ?_
    rintro e w' ⟨rfl, rfl⟩
    go_wp2_with fail
    refine (H4.out _).mono ?_
    rintro e w' ⟨rfl, rfl⟩
    go_wp2_with fail
    go_ret
    exact ⟨rfl, Below.refl _ _⟩
  · go_enter Try.func38, Try.ntmps38
    go_wp2_with fail
    refine (H1.out _).mono ?_
    rintro e w' ⟨rfl, rfl⟩
    go_wp2_with fail
    refine (H2.out _).mono ?_
    rintro e w' ⟨rfl, rfl⟩
    go_wp2_with fail
    refine (H4.out _).mono ?_
    rintro e w' ⟨rfl, rfl⟩
    go_wp2_with fail
    refine (when_ok _ _ _).mono ?_
    rintro e w' ⟨rfl, rfl⟩
    go_wp2_with fail
    refine (when_ok _ _ _).mono ?_
    rintro e w' ⟨rfl, rfl⟩
    go_wp2_with fail
    refine (when_ok _ _ _).mono ?_
    rintro e w' ⟨rfl, rfl⟩
    go_wp2_with fail
    refine (when_ok _ _ _).mono ?_
    rintro e w' ⟨rfl, rfl⟩
    go_wp2_with fail
    refine (HG.out _ _ _ _).mono ?_
    rintro e w' ⟨rfl, rfl⟩
    go_wp2_with fail
    go_ret
    exact ⟨rfl, B0.out _⟩
  · go_enter Try.func38, Try.ntmps38
    go_wp2_with fail
    refine (H1.out _).mono ?_
    rintro e w' ⟨rfl, rfl⟩
    go_wp2_with fail
    refine (H2.out _).mono ?_
    rintro e w' ⟨rfl, rfl⟩
    go_wp2_with fail
    refine (H4.out _).mono ?_
    rintro e w' ⟨rfl, rfl⟩
    go_wp2_with fail
    refine (when_ok _ _ _).mono ?_
    rintro e w' ⟨rfl, rfl⟩
    go_wp2_with fail
    refine (when_ok _ _ _).mono ?_
    rintro e w' ⟨rfl, rfl⟩
    go_wp2_with fail
    refine (when_ok _ _ _).mono ?_
    rintro e w' ⟨rfl, rfl⟩
    go_wp2_with fail
    refine (when_ok _ _ _).mono ?_
    rintro e w' ⟨rfl, rfl⟩
    go_wp2_with fail
    refine (HG.out _ _ _ _).mono ?_
    rintro e w' ⟨rfl, rfl⟩
    go_wp2_with fail
    go_ret
    exact ⟨rfl, B0.out _⟩
  · go_enter Try.func38, Try.ntmps38
    go_wp2_with fail
    refine (H1.out _).mono ?_
    rintro e w' ⟨rfl, rfl⟩
    go_wp2_with fail
    refine (H2.out _).mono ?_
    rintro e w' ⟨rfl, rfl⟩
    go_wp2_with fail
    refine (H4.out _).mono ?_
    rintro e w' ⟨rfl, rfl⟩
    go_wp2_with fail
    refine (when_ok _ _ _).mono ?_
    rintro e w' ⟨rfl, rfl⟩
    go_wp2_with fail
    refine (when_ok _ _ _).mono ?_
    rintro e w' ⟨rfl, rfl⟩
    go_wp2_with fail
    refine (when_ok _ _ _).mono ?_
    rintro e w' ⟨rfl, rfl⟩
    go_wp2_with fail
    refine (when_ok _ _ _).mono ?_
    rintro e w' ⟨rfl, rfl⟩
    go_wp2_with fail
    refine (HG.out _ _ _ _).mono ?_
    rintro e w' ⟨rfl, rfl⟩
    go_wp2_with fail
    go_ret
    exact ⟨rfl, B0.out _⟩
  · go_enter Try.func38, Try.ntmps38
    go_wp2_with fail
    refine (H1.out _).mono ?_
    rintro e w' ⟨rfl, rfl⟩
    go_wp2_with fail
    refine (H2.out _).mono ?_
    rintro e w' ⟨rfl, rfl⟩
    go_wp2_with fail
    refine (H4.out _).mono ?_
    rintro e w' ⟨rfl, rfl⟩
    go_wp2_with fail
    refine (when_ok _ _ _).mono ?_
    rintro e w' ⟨rfl, rfl⟩
    go_wp2_with fail
    refine (when_ok _ _ _).mono ?_
    rintro e w' ⟨rfl, rfl⟩
    go_wp2_with fail
    refine (when_ok _ _ _).mono ?_
    rintro e w' ⟨rfl, rfl⟩
    go_wp2_with fail
    refine (when_ok _ _ _).mono ?_
    rintro e w' ⟨rfl, rfl⟩
    go_wp2_with fail
    refine (HG.out _ _ _ _).mono ?_
    rintro e w' ⟨rfl, rfl⟩
    go_wp2_with fail
    go_ret
    exact ⟨rfl, B0.out _⟩
  · go_enter Try.func38, Try.ntmps38
    go_wp2_with fail
    refine (H1.out _).mono ?_
    rintro e w' ⟨rfl, rfl⟩
    go_wp2_with fail
    refine (H2.out _).mono ?_
    rintro e w' ⟨rfl, rfl⟩
    go_wp2_with fail
    refine (H4.out _).mono ?_
    rintro e w' ⟨rfl, rfl⟩
    go_wp2_with fail
    refine (when_ok _ _ _).mono ?_
    rintro e w' ⟨rfl, rfl⟩
    go_wp2_with fail
    refine (when_ok _ _ _).mono ?_
    rintro e w' ⟨rfl, rfl⟩
    go_wp2_with fail
    refine (when_ok _ _ _).mono ?_
    rintro e w' ⟨rfl, rfl⟩
    go_wp2_with fail
    refine (when_ok _ _ _).mono ?_
    rintro e w' ⟨rfl, rfl⟩
    go_wp2_with fail
    refine (HG.out _ _ _ _).mono ?_
    rintro e w' ⟨rfl, rfl⟩
    go_wp2_with fail
    go_ret
    exact ⟨rfl, B0.out _⟩
  · go_enter Try.func38, Try.ntmps38
    go_wp2_with fail
    refine (H1.out _).mono ?_
    rintro e w' ⟨rfl, rfl⟩
    go_wp2_with fail
    refine (H2.out _).mono ?_
    rintro e w' ⟨rfl, rfl⟩
    go_wp2_with fail
    refine (H4.out _).mono ?_
    rintro e w' ⟨rfl, rfl⟩
    go_wp2_with fail
    refine (when_ok _ _ _).mono ?_
    rintro e w' ⟨rfl, rfl⟩
    go_wp2_with fail
    refine (when_ok _ _ _).mono ?_
    rintro e w' ⟨rfl, rfl⟩
    go_wp2_with fail
    refine (when_ok _ _ _).mono ?_
    rintro e w' ⟨rfl, rfl⟩
    go_wp2_with fail
    refine (when_ok _ _ _).mono ?_
    rintro e w' ⟨rfl, rfl⟩
    go_wp2_with fail
    refine (HG.out _ _ _ _).mono ?_
    rintro e w' ⟨rfl, rfl⟩
    go_wp2_with fail
    go_ret
    exact ⟨rfl, B0.out _⟩
  · go_enter Try.func38, Try.ntmps38
    go_wp2_with fail
    refine (H1.out _).mono ?_
    rintro e w' ⟨rfl, rfl⟩
    go_wp2_with fail
    refine (H2.out _).mono ?_
    rintro e w' ⟨rfl, rfl⟩
    go_wp2_with fail
    refine (H4.out _).mono ?_
    rintro e w' ⟨rfl, rfl⟩
    go_wp2_with fail
    refine (when_ok _ _ _).mono ?_
    rintro e w' ⟨rfl, rfl⟩
    go_wp2_with fail
    refine (when_ok _ _ _).mono ?_
    rintro e w' ⟨rfl, rfl⟩
    go_wp2_with fail
    refine (when_ok _ _ _).mono ?_
    rintro e w' ⟨rfl, rfl⟩
    go_wp2_with fail
    refine (when_ok _ _ _).mono ?_
    rintro e w' ⟨rfl, rfl⟩
    go_wp2_with fail
    refine (HG.out _ _ _ _).mono ?_
    rintro e w' ⟨rfl, rfl⟩
    go_wp2_with fail
    go_ret
    exact ⟨rfl, B0.out _⟩

end Go.Proofs.Ytlieommbomjdaaa

namespace Go.Proofs.Ytlieommbomjdaaa
open Go.ChangeShapes Go.WideShapes Go.RowKit
set_option linter.unusedVariables false

end Go.Proofs.Ytlieommbomjdaaa

namespace Go.Proofs.Ytlieommbomjdaaa
open Go.ChangeShapes Go.WideShapes Go.RowKit
set_option linter.unusedVariables false

theorem toBelow {P : Program} {f : FuncId} {args : Array Value} {w : World} {X : Ending} (h : Calls P f args w fun e w' => e = X ∧ ∃ k, w' = w.drewN k) : Calls P f args w fun e w' => e = X ∧ Below w.heap.size w w' :=
  h.mono fun _ _ ⟨e, k, hk⟩ => ⟨e, hk ▸ Below.drewK (Below.refl _ _) k⟩
theorem toBelow0 {P : Program} {f : FuncId} {args : Array Value} {w : World} {X : Ending} (h : Calls P f args w fun e w' => e = X ∧ w = w') : Calls P f args w fun e w' => e = X ∧ Below w.heap.size w w' :=
  h.mono fun _ _ ⟨e, hk⟩ => ⟨e, hk ▸ Below.refl _ _⟩

/-- The cells of one entry, of two, past a call. -/
theorem past2 {w w' : World} {b : Nat} {x y : Value} (h : w.cell? ⟨b, 0, none⟩ = some x ∧ w.cell? ⟨b, 1, none⟩ = some y) (k : Below w.heap.size w w') :
    w'.cell? ⟨b, 0, none⟩ = some x ∧ w'.cell? ⟨b, 1, none⟩ = some y :=
  ⟨(k.cell (p := ⟨b, 0, none⟩) (World.block_lt_of_cell? w _ h.1)).trans h.1, (k.cell (p := ⟨b, 1, none⟩) (World.block_lt_of_cell? w _ h.2)).trans h.2⟩
theorem past4 {w w' : World} {b c : Nat} {x y x' y' : Value} (h : w.cell? ⟨b, 0, none⟩ = some x ∧ w.cell? ⟨b, 1, none⟩ = some y ∧ w.cell? ⟨c, 0, none⟩ = some x' ∧ w.cell? ⟨c, 1, none⟩ = some y') (k : Below w.heap.size w w') :
    w'.cell? ⟨b, 0, none⟩ = some x ∧ w'.cell? ⟨b, 1, none⟩ = some y ∧ w'.cell? ⟨c, 0, none⟩ = some x' ∧ w'.cell? ⟨c, 1, none⟩ = some y' :=
  ⟨(past2 ⟨h.1, h.2.1⟩ k).1, (past2 ⟨h.1, h.2.1⟩ k).2, (past2 h.2.2 k).1, (past2 h.2.2 k).2⟩
end Go.Proofs.Ytlieommbomjdaaa
