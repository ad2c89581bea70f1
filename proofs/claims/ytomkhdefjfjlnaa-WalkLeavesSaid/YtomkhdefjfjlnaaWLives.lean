/- Layer 4's laws: what package walk has to say of a memory (proved elsewhere, of the code as it landed), and, out of it, that the document's examples are as it says. -/
import Derived.Test.YtomkhdefjfjlnaaWAlg
import Derived.OwnWalk
namespace Go.Proofs.Ytomkhdefjfjlnaa
open Go.ChangeShapes Go.WideShapes Go.ChangeAt Go.RowKit Go.Deep
set_option linter.unusedVariables false

def WalkOk : Prop := ∀ (w0 w : World) (m d : Nat) (L : List UInt8), St w0 w m d 8 L → Clean 8 L → ∀ (root va a : Int) (u : Bool), okI root → okI va → okI a →
  Calls Try.prog 10 #[.pointer (some ⟨m, 0, none⟩), .int .i64 root, .int .i64 va, .int .i64 a, .bool u] w fun e w' => e = .returned (walkV 8 L root va a u) ∧ St w0 w' m d 8 (walkL 8 L root va a u) ∧ w.grownBy w' (some d)

theorem way_noL : wayOf 8 noL 0 20480 1 true = 1 := by
  have hp : placeOf 8 noL 0 (vpnOf 20480) = none := by
    unfold placeOf
    split
    · show (nextOf 8 noL (vpnOf 20480) 0 2).bind (downOf 8 noL (vpnOf 20480) 1) = none
      have : nextOf 8 noL (vpnOf 20480) 0 2 = none := by unfold nextOf; rw [wordI_noL]; decide
      rw [this]; rfl
    · rfl
  unfold wayOf
  rw [if_neg (by decide), if_pos hp]

theorem one_values : ∀ L, Tabs L → wordI 8 L 2 5 = encOf 19 3 → L.length = 8 * 4096 →
    walkV 8 L 0 20487 1 true = .tuple #[.int .i64 0, .int .i64 3, .int .i64 7] ∧ Tabs (walkL 8 L 0 20487 1 true) ∧ walkV 8 (walkL 8 L 0 20487 1 true) 0 20487 2 true = .tuple #[.int .i64 3, .int .i64 0, .int .i64 0] := by
  intro L hT hw hl
  have e : (5 : Int) * 4096 + 7 = 20487 := rfl
  have h5 : (0 : Int) ≤ 5 ∧ (5 : Int) < 512 := by decide
  have h7 : (0 : Int) ≤ 7 ∧ (7 : Int) < 4096 := by decide
  have v1 := hT.walkV (a := 1) (u := true) h5 h7
  have t1 := hT.walk (a := 1) (u := true) hl h5 h7
  have l1 := hT.walkL (a := 1) (u := true) h5 h7
  rw [e] at v1 t1 l1
  rw [hw] at v1 l1
  have p0 : pageWay (encOf 19 3) 1 true = 0 := by decide
  rw [if_pos p0] at v1 l1
  have v2 := t1.walkV (a := 2) (u := true) h5 h7
  rw [e] at v2
  have hx : wordI 8 (walkL 8 L 0 20487 1 true) 2 5 = markOf (encOf 19 3) 1 := by
    rw [l1, wordI_set hl (by decide) h5 (okU_mark _ _ (okU_encOf _ _)), if_pos ⟨rfl, rfl⟩]
  rw [hx] at v2
  have p3 : pageWay (markOf (encOf 19 3) 1) 2 true = 3 := by decide
  rw [p3, if_neg (by decide)] at v2
  exact ⟨v1, t1, v2⟩

theorem grown_some {w a b : World} {x : Nat} (h : w.grownBy a none) (g : a.grownBy b (some x)) (hx : w.heap.size ≤ x) : w.grownBy b none :=
  ⟨g.os.trans h.os, g.tape.trans h.tape, g.output.trans h.output, Nat.le_trans h.size g.size, fun k hk _ => (g.block k (Nat.lt_of_lt_of_le hk h.size) (by intro e; have e2 := Option.some.inj e; omega)).trans (h.block k hk (by simp))⟩

theorem made_len (L : List UInt8) (hl : L.length = 8 * 4096) : ∀ Ws, (madeL L Ws).length = 8 * 4096 := by
  intro Ws
  induction Ws generalizing L with
  | nil => exact hl
  | cons A Ws ih => exact ih _ (setL_length 8 L _ _ _ hl)

set_option maxHeartbeats 1000000 in
theorem lives4 (HWalk : WalkOk) (w : World) :
    Calls Try.prog 8 #[] w fun e w' => e = .returned (.bool true) ∧ w.grownBy w' none := by
  have HK := Lib.hid HWalk
  have V0 := Lib.hid (walkV_no way_noL (by decide))
  have V1 := Lib.hid (one_words 5 19 3 (by decide))
  clear HWalk
  go_enter Try.func8, Try.ntmps8
  go_wp2_with fail
  refine (made_ok w none 0 0 [] ⟨rfl, .inl rfl⟩ (by decide)).mono ?_
  rintro e w2 ⟨m, d, r, f, R, rfl, h2⟩
  have HT2 := Lib.hid h2
  clear h2
  go_wp2_with fail
  refine (HK.out w w2 m d noL HT2.out.st clean_noL 0 20480 1 true ⟨by decide, by decide⟩ ⟨by decide, by decide⟩ ⟨by decide, by decide⟩).mono ?_
  rw [V0.out]
  rintro e w3 ⟨rfl, h3, g3⟩
  have HG3 := Lib.hid (grown_some (grown_of_below HT2.out.st.below none) g3 HT2.out.st.dge)
  clear h3 g3
  go_wp2_with fail
  refine (one_ok _ _ _ _).mono ?_
  rintro e w4 ⟨rfl, hw4, g4⟩
  have HG4 := Lib.hid (grown_trans HG3.out g4)
  have HW4 := Lib.hid hw4
  clear hw4 g4
  go_wp2_with fail
  refine (made_ok w4 _ 3 3 _ HW4.out (by decide)).mono ?_
  rintro e w5 ⟨m2, d2, r2, f2, R2, rfl, h5⟩
  have HT5 := Lib.hid (h5.lower (below_of_grown HG4.out (Nat.le_refl _) (by simp)))
  have HG5 := Lib.hid (grown_trans HG4.out (grown_of_below h5.st.below none))
  clear h5
  obtain ⟨LL, hLL⟩ : ∃ LL, madeL noL (oneW 5 19 3) = LL := ⟨_, rfl⟩
  have HV := Lib.hid (one_values LL (hLL ▸ V1.out.1) (hLL ▸ V1.out.2.1) (hLL ▸ made_len noL noL_length _))
  have HC := Lib.hid (show Clean 8 LL from hLL ▸ clean_made _ _ clean_noL)
  rw [hLL] at HT5
  clear hLL
  go_wp2_with fail
  refine (HK.out w w5 m2 d2 LL HT5.out.st HC.out 0 20487 1 true ⟨by decide, by decide⟩ ⟨by decide, by decide⟩ ⟨by decide, by decide⟩).mono ?_
  rw [HV.out.1]
  rintro e w6 ⟨rfl, h6, g6⟩
  have HS6 := Lib.hid h6
  have HG6 := Lib.hid (grown_some HG5.out g6 HT5.out.st.dge)
  clear h6 g6
  go_wp2_with fail
  refine (HK.out w w6 m2 d2 _ HS6.out (HC.out.walk _ _ _ _) 0 20487 2 true ⟨by decide, by decide⟩ ⟨by decide, by decide⟩ ⟨by decide, by decide⟩).mono ?_
  rw [HV.out.2.2]
  rintro e w7 ⟨rfl, h7, g7⟩
  have HG7 := Lib.hid (grown_some HG6.out g7 HT5.out.st.dge)
  clear h7 g7
  go_wp2_with fail
  go_ret
  exact ⟨rfl, HG7.out⟩
end Go.Proofs.Ytomkhdefjfjlnaa
