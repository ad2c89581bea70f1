/- FramesNone, walked out of what package frames says of no pool and of a pool that no call made. -/
import Derived.Test.YtabgfjmfhkfbmaaFHolds
namespace Go.Proofs.Ytabgfjmfhkfbmaa
open Go.ChangeShapes Go.WideShapes Go.ChangeAt Go.RowKit Go.Deep
set_option linter.unusedVariables false

/-- What package frames must be shown to say of values that are no pools. -/
structure NoneOk6 (N : World → Value → Prop) : Prop where
  nil : ∀ w, N w (.pointer none)
  kept : ∀ {w w' v}, N w v → w.heap.size ≤ w'.heap.size → (∀ a, v = .pointer (some a) → w'.heap[a.block]? = w.heap[a.block]?) → N w' v
  lt : ∀ {w a}, N w (.pointer (some a)) → a.block < w.heap.size
  take : ∀ {w v}, N w v → ∀ c o i, okI c → okI o → okI i → Calls Try.prog 18 #[v, .int .i64 c, .int .i64 o, .int .i64 i] w fun e w' => e = .returned (.tuple #[.int .i64 0, .int .i64 1]) ∧ w.grownBy w' none
  give : ∀ {w v}, N w v → ∀ fr, okI fr → Calls Try.prog 19 #[v, .int .i64 fr] w fun e w' => e = .returned (.int .i64 1) ∧ w.grownBy w' none
  own : ∀ {w v}, N w v → ∀ fr c o i, okI fr → okI c → okI o → okI i → Calls Try.prog 22 #[v, .int .i64 fr, .int .i64 c, .int .i64 o, .int .i64 i] w fun e w' => e = .returned (.int .i64 1) ∧ w.grownBy w' none
  wire : ∀ {w v}, N w v → ∀ fr b, okI fr → okI b → Calls Try.prog 20 #[v, .int .i64 fr, .int .i64 b] w fun e w' => e = .returned (.int .i64 1) ∧ w.grownBy w' none
  loan : ∀ {w v}, N w v → ∀ fr b, okI fr → okI b → Calls Try.prog 21 #[v, .int .i64 fr, .int .i64 b] w fun e w' => e = .returned (.int .i64 1) ∧ w.grownBy w' none
  get : ∀ {w v}, N w v → ∀ fr, okI fr → Calls Try.prog 16 #[v, .int .i64 fr] w fun e w' => e = .returned (.tuple #[.agg #[.int .i64 0, .int .i64 0, .int .i64 0, .int .i64 0, .int .i64 0], .bool false]) ∧ w.grownBy w' none
  free : ∀ {w v}, N w v → Calls Try.prog 13 #[v] w fun e w' => e = .returned (.int .i64 0) ∧ w.grownBy w' none
  count : ∀ {w v}, N w v → ∀ c, okI c → Calls Try.prog 15 #[v, .int .i64 c] w fun e w' => e = .returned (.int .i64 0) ∧ w.grownBy w' none

/-- The cells of a Pool that no call made: set to the landed Pool's. -/
def poolZero : Obj := .cells #[.slice none 0 0, .int .i64 0] 52 (0, 0)

section
variable {N : World → Value → Prop} {w w' : World} {v : Value}
theorem NoneOk6.grow (M : NoneOk6 N) (h : N w v) (g : w.grownBy w' none) : N w' v := M.kept h g.size fun a e => by
  subst e
  exact g.block _ (M.lt h) (by simp)

set_option maxRecDepth 100000 in
set_option maxHeartbeats 2000000 in
theorem none_act (M : NoneOk6 N) (h : N w v) (A : FActV) (hA : A.Ok) (hk : 0 ≤ A.k ∧ A.k < 5) :
    Calls Try.prog 11 #[v, .agg #[.int .i64 A.k, .int .i64 A.f, .int .i64 A.a, .int .i64 A.b, .int .i64 A.c]] w fun e w' => e = .returned (.tuple #[.int .i64 0, .int .i64 1]) ∧ w.grownBy w' none := by
  obtain ⟨of, oa, ob, oc⟩ := hA
  have ga := World.grownBy_alloc w (.cells #[.int .i64 A.k, .int .i64 A.f, .int .i64 A.a, .int .i64 A.b, .int .i64 A.c] 29 (0, 0)) none
  have hb := FActB.new w A
  have hg := M.grow h ga
  obtain ⟨k, f, a, b, c⟩ := A
  simp only at *
  generalize hwA : w.alloc (.cells #[.int .i64 k, .int .i64 f, .int .i64 a, .int .i64 b, .int .i64 c] 29 (0, 0)) = wA at *
  obtain ⟨z0, z1, z2, z3, z4⟩ := hb.at
  have HG := Lib.hid ga
  have HM := Lib.hid M
  rcases (show k = 0 ∨ k = 1 ∨ k = 2 ∨ k = 3 ∨ k = 4 by omega) with rfl | rfl | rfl | rfl | rfl
  · have HC := Lib.hid (M.take hg a b c oa ob oc)
    clear ga hb hg h M
    go_enter Try.func11, Try.ntmps11
    go_wp2_with fail
    refine HC.out.mono ?_
    rintro e w2 ⟨rfl, g2⟩
    have HG2 := Lib.hid (grown_trans HG.out g2)
    clear g2
    go_wp2_with fail
    go_ret2
    exact ⟨rfl, HG2.out⟩
  · have HC := Lib.hid (M.give hg f of)
    clear ga hb hg h M
    go_enter Try.func11, Try.ntmps11
    go_wp2_with fail
    refine HC.out.mono ?_
    rintro e w2 ⟨rfl, g2⟩
    have HG2 := Lib.hid (grown_trans HG.out g2)
    clear g2
    go_wp2_with fail
    go_ret2
    exact ⟨rfl, HG2.out⟩
  · have HC := Lib.hid (M.own hg f a b c of oa ob oc)
    clear ga hb hg h M
    go_enter Try.func11, Try.ntmps11
    go_wp2_with fail
    refine HC.out.mono ?_
    rintro e w2 ⟨rfl, g2⟩
    have HG2 := Lib.hid (grown_trans HG.out g2)
    clear g2
    go_wp2_with fail
    go_ret2
    exact ⟨rfl, HG2.out⟩
  · have HC := Lib.hid (M.wire hg f a of oa)
    clear ga hb hg h M
    go_enter Try.func11, Try.ntmps11
    go_wp2_with fail
    refine HC.out.mono ?_
    rintro e w2 ⟨rfl, g2⟩
    have HG2 := Lib.hid (grown_trans HG.out g2)
    clear g2
    go_wp2_with fail
    go_ret2
    exact ⟨rfl, HG2.out⟩
  · have HC := Lib.hid (M.loan hg f a of oa)
    clear ga hb hg h M
    go_enter Try.func11, Try.ntmps11
    go_wp2_with fail
    refine HC.out.mono ?_
    rintro e w2 ⟨rfl, g2⟩
    have HG2 := Lib.hid (grown_trans HG.out g2)
    clear g2
    go_wp2_with fail
    go_ret2
    exact ⟨rfl, HG2.out⟩
end

/-- What the law reads. -/
structure NI6 (N : World → Value → Prop) (w wx : World) (Y Z : Nat) (A : FActV) (k : Int) : Prop where
  z : N wx (.pointer (some ⟨Z, 0, none⟩))
  a : FActB wx Y ⟨k, A.f, A.a, A.b, A.c⟩
  yw : w.heap.size ≤ Y
  yz : Y ≠ Z
  grown : w.grownBy wx none
theorem NI6.grow {N : World → Value → Prop} (M : NoneOk6 N) {w wx w2 : World} {Y Z : Nat} {A : FActV} {k : Int} (h : NI6 N w wx Y Z A k) (g : wx.grownBy w2 none) : NI6 N w w2 Y Z A k := ⟨M.grow h.z g, h.a.grow g, h.yw, h.yz, grown_trans h.grown g⟩
theorem NI6.set {N : World → Value → Prop} (M : NoneOk6 N) {w wx : World} {Y Z : Nat} {A : FActV} {k : Int} (h : NI6 N w wx Y Z A k) (k' : Int) : NI6 N w (wx.setCell ⟨Y, 0, none⟩ (.int .i64 k')) Y Z A k' := by
  have g := grown_set wx Y 0 (.int .i64 k')
  refine ⟨M.kept h.z g.size fun a e => ?_, heap_setCell_same wx Y 0 _ _ _ h.a, h.yw, h.yz, grown_at h.grown g h.yw⟩
  have e2 : a = ⟨Z, 0, none⟩ := by simpa using e.symm
  subst e2
  exact g.block Z (M.lt h.z) (fun e => h.yz (Option.some.inj e).symm)

set_option maxRecDepth 100000 in
set_option maxHeartbeats 4000000 in
theorem fnone_walk {P : World → Nat → Int → List FrV → List Nat → Prop} (H : FrOk P) {N : World → Value → Prop} (M : NoneOk6 N) (hz : ∀ w : World, N (w.alloc poolZero) (.pointer (some ⟨w.heap.size, 0, none⟩))) (w : World) (A : FActV) (hA : A.Ok) :
    Calls Try.prog 6 #[.agg #[.int .i64 A.k, .int .i64 A.f, .int .i64 A.a, .int .i64 A.b, .int .i64 A.c]] w fun e w' => e = .returned (.bool true) ∧ w.grownBy w' none := by
  have HLv := Lib.hid (lives6 H)
  have HM := Lib.hid M
  have HO := Lib.hid hA
  have hb := FActB.new w A
  have g1 := World.grownBy_alloc w (.cells #[.int .i64 A.k, .int .i64 A.f, .int .i64 A.a, .int .i64 A.b, .int .i64 A.c] 29 (0, 0)) none
  have hsz := World.size_alloc w (.cells #[.int .i64 A.k, .int .i64 A.f, .int .i64 A.a, .int .i64 A.b, .int .i64 A.c] 29 (0, 0))
  generalize hw1 : w.alloc (.cells #[.int .i64 A.k, .int .i64 A.f, .int .i64 A.a, .int .i64 A.b, .int .i64 A.c] 29 (0, 0)) = w1 at *
  have g2 := World.grownBy_alloc w1 poolZero none
  have hN := hz w1
  rw [hsz] at hN
  have HI := Lib.hid (show NI6 N w (w1.alloc poolZero) w.heap.size (w.heap.size + 1) A A.k from ⟨hN, hb.grow g2, Nat.le_refl _, by omega, grown_trans g1 g2⟩)
  unfold poolZero at HI
  clear H M hz hb g1 g2 hN
  go_enter Try.func6, Try.ntmps6
  go_wp2_with fail
  clear hsz hw1
  generalize hY : w.heap.size = Y at *
  go_loopw [12] (fun iv wr => ∃ (j : Nat) (k : Int), j ≤ 2 ∧ iv = .int .i64 j ∧ Hid (NI6 N w wr Y (Y + 1) A k)) (fun iv _ => 2 - (intOf iv).toNat)
  case atStart => exact ⟨0, A.k, by omega, rfl, HI⟩
  case round =>
    obtain ⟨j, k, hj, rfl, HJ⟩ := hrel
    by_cases hlt : j < 2
    · obtain ⟨v, hv, HV⟩ : ∃ v : Value, (∀ W, (Instr.index 53 (.agg #[.pointer none, .pointer (some ⟨Y + 1, 0, none⟩)]) (.int .i64 (j : Int))).run Try.prog W = .ok v W) ∧ Hid (∀ wx k, NI6 N w wx Y (Y + 1) A k → N wx v) := by
        rcases (show j = 0 ∨ j = 1 by omega) with rfl | rfl
        · exact ⟨.pointer none, fun _ => by kernel_rfl, fun wx k h => HM.out.nil wx⟩
        · exact ⟨.pointer (some ⟨Y + 1, 0, none⟩), fun _ => by kernel_rfl, fun wx k h => h.z⟩
      have hjb : decide ((j : Int) < 2) = true := by simp; omega
      go_wp2_with fail
      go_loopw [6] (fun iv wx => ∃ (i : Nat) (k : Int), i ≤ 5 ∧ iv = .int .i64 i ∧ Hid (NI6 N w wx Y (Y + 1) A k)) (fun iv _ => 5 - (intOf iv).toNat)
      case atStart => exact ⟨0, k, by omega, rfl, HJ⟩
      case round =>
        obtain ⟨i, k2, hi, rfl, HIx⟩ := hrel
        by_cases hlt2 : i < 5
        · have his := HIx.out.set HM.out (i : Int)
          have HIs := Lib.hid his
          have HC := Lib.hid (none_act HM.out (HV.out _ _ his) ⟨i, A.f, A.a, A.b, A.c⟩ ⟨HO.out.f, HO.out.a, HO.out.b, HO.out.c⟩ ⟨by show (0 : Int) ≤ i; omega, by show (i : Int) < 5; omega⟩)
          obtain ⟨z0, z1, z2, z3, z4⟩ := HIx.out.a.at
          have f0 := frozen_of_row _ Y 0 _ _ HIx.out.a
          clear his
          go_wp2_with fail
          refine HC.out.mono ?_
          rintro e w5 ⟨rfl, g5⟩
          have HI5 := Lib.hid (HIs.out.grow HM.out g5)
          clear g5
          go_wp2_with fail
          go_roundw
          case rel => exact ⟨i + 1, i, by omega, by go_num, HI5⟩
          case measure => simp [intOf]; omega
        · obtain rfl : i = 5 := by omega
          have HG := Lib.hid (HM.out.get (HV.out _ _ HIx.out) A.f HO.out.f)
          obtain ⟨z0, z1, z2, z3, z4⟩ := HIx.out.a.at
          go_wp2_with fail
          refine HG.out.mono ?_
          rintro e w5 ⟨rfl, g5⟩
          have g6 := grown_trans g5 (World.grownBy_alloc w5 (.cells #[.int .i64 0, .int .i64 0, .int .i64 0, .int .i64 0, .int .i64 0] 36 (0, 0)) none)
          have h6 := (HIx.out.grow HM.out g6).grow HM.out (grown_drew1 _)
          have HB := Lib.hid h6
          have hk := h6.a.at.2.2.1
          clear g5 g6 h6 z0 z1 z2 z3 z4 HG
          go_wp2_with fail
          go_region_held3 (fun w' => w'.cell? ⟨Y, 2, none⟩ = some (.int .i64 A.a)) (exact hk)
            (first
              | (go_at_call 13; with_reducible refine ((HM.out.free (HV.out _ _ HB.out)).mono ?_); rintro e w7 ⟨rfl, g7⟩; replace HB := Lib.hid (HB.out.grow HM.out g7); replace hk := HB.out.a.at.2.2.1; clear g7)
              | (go_at_call 15; with_reducible refine ((HM.out.count (HV.out _ _ HB.out) A.a HO.out.a).mono ?_); rintro e w9 ⟨rfl, g9⟩; replace HB := Lib.hid (HB.out.grow HM.out g9); replace hk := HB.out.a.at.2.2.1; clear g9))
          all_goals
            go_wp2_with fail
            go_roundw
            case rel => exact ⟨j + 1, _, by omega, by go_num, HB⟩
            case measure => simp [intOf]; omega
    · obtain rfl : j = 2 := by omega
      go_wp2_with fail
      refine (HLv.out _).mono ?_
      rintro e w6 ⟨rfl, g6⟩
      have HG8 := Lib.hid (grown_trans HJ.out.grown g6)
      clear g6
      go_wp2_with fail
      go_ret
      exact ⟨rfl, HG8.out⟩
end Go.Proofs.Ytabgfjmfhkfbmaa
