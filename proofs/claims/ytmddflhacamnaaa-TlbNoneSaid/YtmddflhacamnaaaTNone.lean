/- TlbNone, walked out of what package tlb says of no table and of a table that no call made. -/
import Derived.Test.YtmddflhacamnaaaTSay
namespace Go.Proofs.Ytmddflhacamnaaa
open Go.ChangeShapes Go.WideShapes Go.ChangeAt Go.RowKit Go.Deep
set_option linter.unusedVariables false

/-- What package tlb must be shown to say of values that are no tables. -/
structure NoneOk (N : World → Value → Prop) : Prop where
  nil : ∀ w, N w (.pointer none)
  grow : ∀ {w w' v}, N w v → w.grownBy w' none → N w' v
  find : ∀ {w v}, N w v → ∀ a k, okI a → okI k → Calls Try.prog 19 #[v, .agg #[.int .i64 a, .int .i64 k]] w fun e w' => e = .returned (.tuple #[.agg #[.int .i64 0, .int .i64 0], .bool false]) ∧ w.grownBy w' none
  put : ∀ {w v}, N w v → ∀ a k f q, Calls Try.prog 11 #[v, .agg #[.int .i64 a, .int .i64 k], .agg #[.int .i64 f, .int .i64 q]] w fun e w' => e = .returned (.tuple #[]) ∧ w.grownBy w' none
  flush : ∀ {w v}, N w v → ∀ a k, okI a → okI k → Calls Try.prog 13 #[v, .agg #[.int .i64 a, .int .i64 k]] w fun e w' => e = .returned (.bool false) ∧ w.grownBy w' none
  flushAsid : ∀ {w v}, N w v → ∀ a, Calls Try.prog 15 #[v, .int .i64 a] w fun e w' => e = .returned (.int .i64 0) ∧ w.grownBy w' none
  flushAll : ∀ {w v}, N w v → Calls Try.prog 17 #[v] w fun e w' => e = .returned (.int .i64 0) ∧ w.grownBy w' none
  len : ∀ {w v}, N w v → Calls Try.prog 22 #[v] w fun e w' => e = .returned (.int .i64 0) ∧ w.grownBy w' none
  keys : ∀ {w v}, N w v → Calls Try.prog 21 #[v] w fun e w' => ∃ s c, e = .returned (.slice s 0 c) ∧ w.grownBy w' none

def tlbZero : Obj := .cells #[.int .i64 0, .map none, .slice none 0 0] 57 (0, 0)

/-- What the law reads. -/
structure NI (N : World → Value → Prop) (w wx : World) (A : TActV) : Prop where
  z : N wx (.pointer (some ⟨w.heap.size + 1, 0, none⟩))
  a : TActB wx w.heap.size A
  grown : w.grownBy wx none
theorem NI.grow {N : World → Value → Prop} (M : NoneOk N) {w wx w2 : World} {A : TActV} (h : NI N w wx A) (g : wx.grownBy w2 none) : NI N w w2 A :=
  ⟨M.grow h.z g, (g.block _ (Array.getElem?_eq_some_iff.1 h.a).1 (by simp)).trans h.a, grown_trans h.grown g⟩

set_option maxRecDepth 100000 in
set_option maxHeartbeats 4000000 in
theorem tnone_walk {T : World → Nat → Int → List KeptV → List Nat → Prop} (H : TlbOk T) {N : World → Value → Prop} (M : NoneOk N) (hz : ∀ w : World, N (w.alloc tlbZero) (.pointer (some ⟨w.heap.size, 0, none⟩))) (w : World) (A : TActV) (ha : okI A.a) (hv : okI A.v) :
    Calls Try.prog 6 #[.agg #[.int .i64 A.k, .int .i64 A.a, .int .i64 A.v, .int .i64 A.fl, .int .i64 A.pp]] w fun e w' => e = .returned (.bool true) ∧ w.grownBy w' none := by
  have HLv := Lib.hid (lives5 H)
  have HM := Lib.hid M
  have HZ := Lib.hid hz
  clear H M hz
  go_enter Try.func6, Try.ntmps6
  have hact := heap_alloc_new w (.cells #[.int .i64 A.k, .int .i64 A.a, .int .i64 A.v, .int .i64 A.fl, .int .i64 A.pp] 33 (0, 0))
  have g1 := World.grownBy_alloc w (.cells #[.int .i64 A.k, .int .i64 A.a, .int .i64 A.v, .int .i64 A.fl, .int .i64 A.pp] 33 (0, 0)) none
  have hsz := World.size_alloc w (.cells #[.int .i64 A.k, .int .i64 A.a, .int .i64 A.v, .int .i64 A.fl, .int .i64 A.pp] 33 (0, 0))
  go_wp2_with fail
  generalize hw1 : w.alloc (.cells #[.int .i64 A.k, .int .i64 A.a, .int .i64 A.v, .int .i64 A.fl, .int .i64 A.pp] 33 (0, 0)) = w1 at *
  have g2 := World.grownBy_alloc w1 tlbZero none
  have hN := HZ.out w1
  rw [hsz] at hN
  have HI := Lib.hid (show NI N w (w1.alloc tlbZero) A from ⟨hN, (g2.block _ (by omega) (by simp)).trans hact, grown_trans g1 g2⟩)
  unfold tlbZero at HI
  clear hact g1 g2 hN hsz hw1 HZ
  go_loopw [9] (fun i wr => ∃ j : Nat, j ≤ 2 ∧ i = .int .i64 j ∧ Hid (NI N w wr A)) (fun i _ => 2 - (intOf i).toNat)
  case atStart => exact ⟨0, by omega, rfl, HI⟩
  case round =>
    obtain ⟨j, hj, rfl, HJ⟩ := hrel
    by_cases hlt : j < 2
    · have hi0 : ∀ W, (Instr.index 58 (.agg #[.pointer none, .pointer (some ⟨w.heap.size + 1, 0, none⟩)]) (.int .i64 0)).run Try.prog W = .ok (.pointer none) W := fun _ => by kernel_rfl
      have hi1 : ∀ W, (Instr.index 58 (.agg #[.pointer none, .pointer (some ⟨w.heap.size + 1, 0, none⟩)]) (.int .i64 1)).run Try.prog W = .ok (.pointer (some ⟨w.heap.size + 1, 0, none⟩)) W := fun _ => by kernel_rfl
      rcases (show j = 0 ∨ j = 1 by omega) with rfl | rfl
      · have HV := Lib.hid (show ∀ wx, NI N w wx A → N wx (.pointer none) from fun wx h => HM.out.nil wx)
        obtain ⟨b0, b1, b2, b3, b4⟩ := HJ.out.a.at
        go_wp2_with fail
        refine (HM.out.put (HV.out _ HJ.out) A.a A.v A.fl A.pp).mono ?_
        rintro e w3 ⟨rfl, g3⟩
        have H3 := Lib.hid (HJ.out.grow HM.out g3)
        clear b0 b1 b2 b3 b4 g3
        obtain ⟨b0, b1, b2, b3, b4⟩ := H3.out.a.at
        go_wp2_with fail
        refine (HM.out.find (HV.out _ H3.out) A.a A.v ha hv).mono ?_
        rintro e w4 ⟨rfl, g4⟩
        have H4 := Lib.hid (H3.out.grow HM.out g4)
        clear b0 b1 b2 b3 b4 g4
        have ga := World.grownBy_alloc w4 (.cells #[.int .i64 0, .int .i64 0] 31) none
        have H5 := Lib.hid (H4.out.grow HM.out ga)
        clear ga
        obtain ⟨b0, b1, b2, b3, b4⟩ := H5.out.a.at
        go_wp2_with fail
        refine (HM.out.flush (HV.out _ H5.out) A.a A.v ha hv).mono ?_
        rintro e w6 ⟨rfl, g6⟩
        have H6 := Lib.hid (H5.out.grow HM.out g6)
        clear b0 b1 b2 b3 b4 g6
        obtain ⟨b0, b1, b2, b3, b4⟩ := H6.out.a.at
        go_wp2_with fail
        refine (HM.out.flushAsid (HV.out _ H6.out) A.a).mono ?_
        rintro e w7 ⟨rfl, g7⟩
        have H7 := Lib.hid (H6.out.grow HM.out g7)
        clear b0 b1 b2 b3 b4 g7
        obtain ⟨b0, b1, b2, b3, b4⟩ := H7.out.a.at
        go_wp2_with fail
        refine (HM.out.flushAll (HV.out _ H7.out)).mono ?_
        rintro e w8 ⟨rfl, g8⟩
        have H8 := Lib.hid (H7.out.grow HM.out g8)
        clear b0 b1 b2 b3 b4 g8
        obtain ⟨b0, b1, b2, b3, b4⟩ := H8.out.a.at
        go_wp2_with fail
        refine (HM.out.len (HV.out _ H8.out)).mono ?_
        rintro e w9 ⟨rfl, g9⟩
        have H9 := Lib.hid (H8.out.grow HM.out g9)
        clear b0 b1 b2 b3 b4 g9
        go_wp2_with fail
        refine (HM.out.keys (HV.out _ H9.out)).mono ?_
        rintro e w10 ⟨s10, c10, rfl, g10⟩
        have H10 := Lib.hid (H9.out.grow HM.out g10)
        clear g10
        go_wp2_with fail
        go_roundw
        case rel => exact ⟨1, by omega, by go_num, H10⟩
        case measure => simp [intOf]
      · have HV := Lib.hid (show ∀ wx, NI N w wx A → N wx (.pointer (some ⟨w.heap.size + 1, 0, none⟩)) from fun wx h => h.z)
        obtain ⟨b0, b1, b2, b3, b4⟩ := HJ.out.a.at
        go_wp2_with fail
        refine (HM.out.put (HV.out _ HJ.out) A.a A.v A.fl A.pp).mono ?_
        rintro e w3 ⟨rfl, g3⟩
        have H3 := Lib.hid (HJ.out.grow HM.out g3)
        clear b0 b1 b2 b3 b4 g3
        obtain ⟨b0, b1, b2, b3, b4⟩ := H3.out.a.at
        go_wp2_with fail
        refine (HM.out.find (HV.out _ H3.out) A.a A.v ha hv).mono ?_
        rintro e w4 ⟨rfl, g4⟩
        have H4 := Lib.hid (H3.out.grow HM.out g4)
        clear b0 b1 b2 b3 b4 g4
        have ga := World.grownBy_alloc w4 (.cells #[.int .i64 0, .int .i64 0] 31) none
        have H5 := Lib.hid (H4.out.grow HM.out ga)
        clear ga
        obtain ⟨b0, b1, b2, b3, b4⟩ := H5.out.a.at
        go_wp2_with fail
        refine (HM.out.flush (HV.out _ H5.out) A.a A.v ha hv).mono ?_
        rintro e w6 ⟨rfl, g6⟩
        have H6 := Lib.hid (H5.out.grow HM.out g6)
        clear b0 b1 b2 b3 b4 g6
        obtain ⟨b0, b1, b2, b3, b4⟩ := H6.out.a.at
        go_wp2_with fail
        refine (HM.out.flushAsid (HV.out _ H6.out) A.a).mono ?_
        rintro e w7 ⟨rfl, g7⟩
        have H7 := Lib.hid (H6.out.grow HM.out g7)
        clear b0 b1 b2 b3 b4 g7
        obtain ⟨b0, b1, b2, b3, b4⟩ := H7.out.a.at
        go_wp2_with fail
        refine (HM.out.flushAll (HV.out _ H7.out)).mono ?_
        rintro e w8 ⟨rfl, g8⟩
        have H8 := Lib.hid (H7.out.grow HM.out g8)
        clear b0 b1 b2 b3 b4 g8
        obtain ⟨b0, b1, b2, b3, b4⟩ := H8.out.a.at
        go_wp2_with fail
        refine (HM.out.len (HV.out _ H8.out)).mono ?_
        rintro e w9 ⟨rfl, g9⟩
        have H9 := Lib.hid (H8.out.grow HM.out g9)
        clear b0 b1 b2 b3 b4 g9
        go_wp2_with fail
        refine (HM.out.keys (HV.out _ H9.out)).mono ?_
        rintro e w10 ⟨s10, c10, rfl, g10⟩
        have H10 := Lib.hid (H9.out.grow HM.out g10)
        clear g10
        go_wp2_with fail
        go_roundw
        case rel => exact ⟨2, by omega, by go_num, H10⟩
        case measure => simp [intOf]
    · obtain rfl : j = 2 := by omega
      go_wp2_with fail
      refine (HLv.out _).mono ?_
      rintro e w6 ⟨rfl, g6⟩
      have HG8 := Lib.hid (grown_trans HJ.out.grown g6)
      clear g6
      go_wp2_with fail
      go_ret
      exact ⟨rfl, HG8.out⟩
theorem tnone_say {T : World → Nat → Int → List KeptV → List Nat → Prop} (H : TlbOk T) {N : World → Value → Prop} (M : NoneOk N) (hz : ∀ w : World, N (w.alloc tlbZero) (.pointer (some ⟨w.heap.size, 0, none⟩))) (W : World) (A : TActV) (ha : okI A.a) (hv : okI A.v) :
    Calls Try.prog 6 #[.agg #[.int .i64 A.k, .int .i64 A.a, .int .i64 A.v, .int .i64 A.fl, .int .i64 A.pp]] W fun e W' => e = .returned (.bool true) ∧ Below W.heap.size W W' :=
  (tnone_walk H M hz W A ha hv).mono fun e w' h => ⟨h.1, below_of h.2⟩
end Go.Proofs.Ytmddflhacamnaaa
