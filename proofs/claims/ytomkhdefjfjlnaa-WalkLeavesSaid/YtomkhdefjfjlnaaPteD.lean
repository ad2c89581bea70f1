/- Calls of package pte, and of the document's: what an entry allows, and the flags of what is to be allowed. -/
import Derived.Test.YtomkhdefjfjlnaaPteF
namespace Go.Proofs.Ytomkhdefjfjlnaa
open Go.ChangeShapes Go.WideShapes Go.RowKit
set_option linter.unusedVariables false

theorem bit_mod (F : Int) (k : Int) (hk : IsBit k) : bit (F % 256) k = bit F k := by
  unfold bit
  apply decide_eq_decide.2
  rcases hk with rfl | rfl | rfl | rfl | rfl <;> omega

/-- The cells of an entry that is boxed. -/
structure EntAt (w : World) (b : Nat) (F P : Int) : Prop where
  flags : w.cell? ⟨b, 0, none⟩ = some (.int .i64 F)
  ppn : w.cell? ⟨b, 1, none⟩ = some (.int .i64 P)

theorem EntAt.new (w : World) (F P : Int) (t : TypeId) : EntAt (w.alloc (.cells #[.int .i64 F, .int .i64 P] t)) w.heap.size F P :=
  ⟨by rw [cell_of_row _ _ _ _ _ _ (heap_alloc_new w _)]; rfl, by rw [cell_of_row _ _ _ _ _ _ (heap_alloc_new w _)]; rfl⟩
theorem EntAt.past {w w' : World} {b : Nat} {F P : Int} (h : EntAt w b F P) (k : Below w.heap.size w w') : EntAt w' b F P :=
  ⟨(k.cell (p := ⟨b, 0, none⟩) (World.block_lt_of_cell? w _ h.flags)).trans h.flags, (k.cell (p := ⟨b, 1, none⟩) (World.block_lt_of_cell? w _ h.ppn)).trans h.ppn⟩

/-- Behind the box, and behind a call that followed. -/
theorem below_box {w w' : World} {o : Obj} (k : Below (w.alloc o).heap.size (w.alloc o) w') : Below w.heap.size w w' :=
  ((Below.refl _ w).alloc (Nat.le_refl _) o).trans (k.mono (by simp))

theorem Ints.drew {w : World} {s : Option Addr} {l : Nat} {xs : List Int} (h : Ints w s l xs) : Ints w.drew s l xs := ⟨h.len, h.cells⟩

theorem flags_ok (F P : Int) (w : World) :
    Calls Try.prog 60 #[.agg #[.int .i64 F, .int .i64 P]] w fun e w' => e = .returned (.int .i64 (F % 256)) ∧ Below w.heap.size w w' := by
  have hu : IntKind.u64.wrap F = F % 18446744073709551616 := IntKind.wrap_u64 F
  have C2 := low_ok (F % 18446744073709551616) 8 8 (okU_mod F) (by decide) rfl
  rw [show F % 18446744073709551616 % 2 ^ 8 = F % 256 by omega] at C2
  have H2 := Lib.hid C2
  have b0 : ∀ w : World, Below w.heap.size w (w.alloc (.cells #[.int .i64 F, .int .i64 P] 40)) := fun w => (Below.refl _ _).alloc (Nat.le_refl _) _
  have B0 := Lib.hid b0
  clear b0 C2
  go_enter Try.func60, Try.ntmps60
  go_wp2_with fail
  refine (H2.out _).mono ?_
  rintro e w' ⟨rfl, rfl⟩
  go_wp2_with fail
  go_ret
  exact ⟨rfl, B0.out _⟩

theorem ref_kind_ok (F P : Int) (w : World) :
    Calls Try.prog 40 #[.agg #[.int .i64 F, .int .i64 P]] w fun e w' => e = .returned (.int .i64 (kindOf F)) ∧ Below w.heap.size w w' := by
  rw [kindOf_eq]
  have f0 : 0 ≤ F % 256 := by omega
  have f1 : F % 256 ≤ 9223372036854775807 := by omega
  have C1 := is_ok (F % 256) 1 isBit_1 f0 f1
  have C2 := is_ok (F % 256) 2 isBit_2 f0 f1
  have C4 := is_ok (F % 256) 4 isBit_4 f0 f1
  have C8 := is_ok (F % 256) 8 isBit_8 f0 f1
  rw [bit_mod _ _ isBit_1] at C1
  rw [bit_mod _ _ isBit_2] at C2
  rw [bit_mod _ _ isBit_4] at C4
  rw [bit_mod _ _ isBit_8] at C8
  have H1 := Lib.hid C1
  have H2 := Lib.hid C2
  have H4 := Lib.hid C4
  have H8 := Lib.hid C8
  have HF := Lib.hid (flags_ok F P)
  clear C1 C2 C4 C8
  generalize bit F 1 = b1 at *
  generalize bit F 2 = b2 at *
  generalize bit F 4 = b4 at *
  generalize bit F 8 = b8 at *
  cases b1
  · go_enter Try.func40, Try.ntmps40
    go_wp2_with fail
    refine (HF.out _).mono ?_
    rintro e w2 ⟨rfl, h2⟩
    have H2W := Lib.hid (below_box h2)
    clear h2
    go_wp2_with fail
    refine (H1.out _).mono ?_
    rintro e w' ⟨rfl, rfl⟩
    go_wp2_with fail
    go_ret
    exact ⟨rfl, H2W.out⟩
  · cases b4
    · cases b2
      · cases b8
        · go_enter Try.func40, Try.ntmps40
          go_wp2_with fail
          refine (HF.out _).mono ?_
          rintro e w2 ⟨rfl, h2⟩
          have H2W := Lib.hid (below_box h2)
          clear h2
          go_wp2_with fail
          refine (H1.out _).mono ?_
          rintro e w' ⟨rfl, rfl⟩
          go_wp2_with fail
          refine (H4.out _).mono ?_
          rintro e w' ⟨rfl, rfl⟩
          go_wp2_with fail
          refine (H2.out _).mono ?_
          rintro e w' ⟨rfl, rfl⟩
          go_wp2_with fail
          refine (H8.out _).mono ?_
          rintro e w' ⟨rfl, rfl⟩
          go_wp2_with fail
          go_ret
          exact ⟨rfl, H2W.out⟩
        · go_enter Try.func40, Try.ntmps40
          go_wp2_with fail
          refine (HF.out _).mono ?_
          rintro e w2 ⟨rfl, h2⟩
          have H2W := Lib.hid (below_box h2)
          clear h2
          go_wp2_with fail
          refine (H1.out _).mono ?_
          rintro e w' ⟨rfl, rfl⟩
          go_wp2_with fail
          refine (H4.out _).mono ?_
          rintro e w' ⟨rfl, rfl⟩
          go_wp2_with fail
          refine (H2.out _).mono ?_
          rintro e w' ⟨rfl, rfl⟩
          go_wp2_with fail
          refine (H8.out _).mono ?_
          rintro e w' ⟨rfl, rfl⟩
          go_wp2_with fail
          go_ret
          exact ⟨rfl, H2W.out⟩
      · go_enter Try.func40, Try.ntmps40
        go_wp2_with fail
        refine (HF.out _).mono ?_
        rintro e w2 ⟨rfl, h2⟩
        have H2W := Lib.hid (below_box h2)
        clear h2
        go_wp2_with fail
        refine (H1.out _).mono ?_
        rintro e w' ⟨rfl, rfl⟩
        go_wp2_with fail
        refine (H4.out _).mono ?_
        rintro e w' ⟨rfl, rfl⟩
        go_wp2_with fail
        refine (H2.out _).mono ?_
        rintro e w' ⟨rfl, rfl⟩
        go_wp2_with fail
        go_ret
        exact ⟨rfl, H2W.out⟩
    · cases b2
      · go_enter Try.func40, Try.ntmps40
        go_wp2_with fail
        refine (HF.out _).mono ?_
        rintro e w2 ⟨rfl, h2⟩
        have H2W := Lib.hid (below_box h2)
        clear h2
        go_wp2_with fail
        refine (H1.out _).mono ?_
        rintro e w' ⟨rfl, rfl⟩
        go_wp2_with fail
        refine (H4.out _).mono ?_
        rintro e w' ⟨rfl, rfl⟩
        go_wp2_with fail
        refine (H2.out _).mono ?_
        rintro e w' ⟨rfl, rfl⟩
        go_wp2_with fail
        go_ret
        exact ⟨rfl, H2W.out⟩
      · go_enter Try.func40, Try.ntmps40
        go_wp2_with fail
        refine (HF.out _).mono ?_
        rintro e w2 ⟨rfl, h2⟩
        have H2W := Lib.hid (below_box h2)
        clear h2
        go_wp2_with fail
        refine (H1.out _).mono ?_
        rintro e w' ⟨rfl, rfl⟩
        go_wp2_with fail
        refine (H4.out _).mono ?_
        rintro e w' ⟨rfl, rfl⟩
        go_wp2_with fail
        refine (H2.out _).mono ?_
        rintro e w' ⟨rfl, rfl⟩
        go_wp2_with fail
        refine (H2.out _).mono ?_
        rintro e w' ⟨rfl, rfl⟩
        go_wp2_with fail
        go_ret
        exact ⟨rfl, H2W.out⟩

set_option maxHeartbeats 2000000 in
theorem prot_ok (F P : Int) (w : World) :
    Calls Try.prog 52 #[.agg #[.int .i64 F, .int .i64 P]] w fun e w' => e = .returned (.int .i64 (protOf F)) ∧ Below w.heap.size w w' := by
  have HK := Lib.hid (kind_ok F P)
  have H2 := Lib.hid (has_ok F 2 isBit_2)
  have H4 := Lib.hid (has_ok F 4 isBit_4)
  have H8 := Lib.hid (has_ok F 8 isBit_8)
  have HB := Lib.hid (EntAt.new w F P 40)
  by_cases hk : kindOf F = 2
  · have hp : protOf F = one (bit F 2) 1 + one (bit F 4) 2 + one (bit F 8) 4 := by unfold protOf; rw [if_pos hk]
    rw [hp]
    rw [hk] at HK
    have HP := Lib.hid (when_ok (bit F 2) 1)
    have HQ := Lib.hid (when_ok (bit F 4) 2)
    have HR := Lib.hid (when_ok (bit F 8) 4)
    clear hk hp
    generalize bit F 2 = b2 at *
    generalize bit F 4 = b4 at *
    generalize bit F 8 = b8 at *
    go_enter Try.func52, Try.ntmps52
    go_wp2_with fail
    refine (HK.out _).mono ?_
    rintro e w2 ⟨rfl, h2⟩
    have hc := (HB.out.past h2).flags
    have H2W := Lib.hid (below_box h2)
    clear h2
    go_wp2_with fail
    have hd : w2.drew.cell? ⟨w.heap.size, 0, none⟩ = some (.int .i64 F) := hc
    have hd2 : ∀ o : Obj, (w2.alloc o).drew.cell? ⟨w.heap.size, 0, none⟩ = some (.int .i64 F) := fun o => by rw [World.cell?_drew, Lib.cell?_alloc_some o hc]
    have HG : ∀ w2 : World, Calls Try.prog 62 #[.slice (some ⟨w2.heap.size, 0, none⟩) 3 3] (w2.alloc (.cells #[.int .i64 (one b2 1), .int .i64 (one b4 2), .int .i64 (one b8 4)] 3)).drew fun e w' => e = .returned (.int .i64 (gath [one b2 1, one b4 2, one b8 4])) ∧ (w2.alloc (.cells #[.int .i64 (one b2 1), .int .i64 (one b4 2), .int .i64 (one b8 4)] 3)).drew = w' :=
      fun w2 => gather_ok _ _ 3 3 _ (Ints.drew (ints_new w2 0 [one b2 1, one b4 2, one b8 4] 3)) (by decide)
    have hg : gath [one b2 1, one b4 2, one b8 4] = one b2 1 + one b4 2 + one b8 4 := by cases b2 <;> cases b4 <;> cases b8 <;> decide
    rw [hg] at HG
    have HG := Lib.hid HG
    clear hg
    go_region_held3 (fun w' => w'.cell? ⟨w.heap.size, 0, none⟩ = some (.int .i64 F)) (first | exact hd | exact hd2 _)
      (first
        | (go_at_call 51; first | (with_reducible refine ((H2.out _).mono ?_); rintro e w' ⟨rfl, rfl⟩) | (with_reducible refine ((H4.out _).mono ?_); rintro e w' ⟨rfl, rfl⟩) | (with_reducible refine ((H8.out _).mono ?_); rintro e w' ⟨rfl, rfl⟩))
        | (go_at_call 63; first | (with_reducible refine ((HP.out _).mono ?_); rintro e w' ⟨rfl, rfl⟩) | (with_reducible refine ((HQ.out _).mono ?_); rintro e w' ⟨rfl, rfl⟩) | (with_reducible refine ((HR.out _).mono ?_); rintro e w' ⟨rfl, rfl⟩))
        | (go_at_call 62; refine ((HG.out _).mono ?_); rintro e w' ⟨rfl, rfl⟩))
    all_goals
      have H2X := Lib.hid ((H2W.out.alloc (H2W.out.size) (.cells #[.int .i64 (one b2 1), .int .i64 (one b4 2), .int .i64 (one b8 4)] 3)).drew)
      go_wp2_with fail
      go_ret
      exact ⟨rfl, H2X.out⟩
  · have e0 : (kindOf F != 2) = true := by simp [hk]
    have hp : protOf F = 0 := by unfold protOf; rw [if_neg hk]
    rw [hp]
    clear hk hp
    go_enter Try.func52, Try.ntmps52
    go_wp2_with fail
    refine (HK.out _).mono ?_
    rintro e w2 ⟨rfl, h2⟩
    have H2W := Lib.hid (below_box h2)
    clear h2
    go_wp2_with fail
    go_ret
    exact ⟨rfl, H2W.out⟩
end Go.Proofs.Ytomkhdefjfjlnaa
