/- Layer 16, the laws: the document's example. -/
import Derived.Test.YtamkmmhjmpjibaaVmpAct
namespace Go.Proofs.Ytamkmmhjmpjibaa
open Go.ChangeShapes Go.WideShapes Go.ChangeAt Go.RowKit Go.Deep
set_option linter.unusedVariables false
set_option linter.unusedSimpArgs false

def x03 : En := ⟨0, 3, 0, 0, false, 7, 7, 0, 0, false⟩
def l58 : List En := [⟨5, 8, 0, 0, false, 7, 7, 0, 0, false⟩]
def l567 : List En := [⟨5, 6, 0, 0, false, 7, 7, 0, 0, false⟩, ⟨6, 7, 0, 0, false, 1, 7, 0, 0, false⟩, ⟨7, 8, 0, 0, false, 7, 7, 0, 0, false⟩]
def l581 : List En := [⟨5, 8, 0, 0, false, 1, 7, 0, 0, false⟩]
theorem ex1 : mapV [] 5 x03 true = ⟨l58, 5, [], 0⟩ := rfl
theorem ex2 : protV l58 6 1 1 = ⟨l567, 0, [], 0⟩ := rfl
theorem ex3 : protV l567 5 3 1 = ⟨l581, 0, [], 0⟩ := rfl
theorem ml58 : MapL l58 := ⟨(right_iff _).1 (by decide), by decide⟩
theorem ml567 : MapL l567 := ⟨(right_iff _).1 (by decide), by decide⟩
theorem okS16 (x : Int) (h0 : -1000 ≤ x) (h1 : x ≤ 1000) : okI x := ⟨by omega, by omega⟩
theorem okx03 : OkN x03 := ⟨okS16 _ (by decide) (by decide), okS16 _ (by decide) (by decide), okS16 _ (by decide) (by decide), okS16 _ (by decide) (by decide)⟩
theorem turn_up {w1 w2 w3 : World} {r : Nat} {v : Value} (g : w1.grownBy w2 none) (hr : w1.heap.size ≤ r) (hv : ∀ b, v.ownBlock = some b → w1.heap.size ≤ b) (t : Turn (r :: blkL v) w2 w3) : w1.grownBy w3 none :=
  Turn.noGrown ((Turn.grown (O := r :: blkL v) g).trans' t) fun b hb => by
    rcases List.mem_cons.1 hb with e | e
    · omega
    · exact hv b (mem_blk.1 e)
theorem own_up {w w1 : World} {r : Nat} {v : Value} {L : List En} (h : VM w r v L) (hr : w1.heap.size ≤ r) : ∀ b, v.ownBlock = some b → w1.heap.size ≤ b := fun b hb => by have := (OwnOf.lt h.own hb).1; omega
set_option maxRecDepth 100000 in
set_option maxHeartbeats 8000000 in
theorem lives_ok (w : World) : Calls Try.prog 10 #[] w fun e w' => e = .returned (.bool true) ∧ w.grownBy w' none := by
  have HN := Lib.hid (new_ok w)
  have HMap := Lib.hid (fun (W : World) (r : Nat) (v : Value) (h : VM W r v []) => map_ok h mapL_nil (by decide) 5 x03 true (okS16 _ (by decide) (by decide)) okx03)
  have HP1 := Lib.hid (fun (W : World) (r : Nat) (v : Value) (h : VM W r v l58) => protect_ok h ml58 (by decide) 6 1 1 (okS16 _ (by decide) (by decide)) (okS16 _ (by decide) (by decide)) (okS16 _ (by decide) (by decide)))
  have HP2 := Lib.hid (fun (W : World) (r : Nat) (v : Value) (h : VM W r v l567) => protect_ok h ml567 (by decide) 5 3 1 (okS16 _ (by decide) (by decide)) (okS16 _ (by decide) (by decide)) (okS16 _ (by decide) (by decide)))
  rw [ex1] at HMap
  rw [ex2] at HP1
  rw [ex3] at HP2
  simp only at HMap HP1 HP2
  unfold x03 at HMap
  simp only at HMap
  go_enter Try.func10, Try.ntmps10
  go_wp2_with fail
  refine HN.out.mono ?_
  rintro e w1 ⟨rfl, k1, g1⟩
  obtain ⟨rc, hrc⟩ : ∃ rc, w.heap.size = rc := ⟨_, rfl⟩
  rw [hrc] at k1 ⊢
  have HG1 := Lib.hid g1
  have HA := Lib.hid (HMap.out w1 rc _ k1)
  clear k1 g1
  go_wp2_with fail
  refine HA.out.mono ?_
  rintro e w2 ⟨u2, v2, rfl, -, k2, -, t2⟩
  have HG2 := Lib.hid (turn_up HG1.out (by omega) (fun b hb => by cases hb) t2)
  have HV2 := Lib.hid k2
  have HB := Lib.hid (HP1.out w2 rc v2 k2)
  clear k2 t2
  go_wp2_with fail
  refine HB.out.mono ?_
  rintro e w3 ⟨rfl, v3, k3, -, t3⟩
  have HG3 := Lib.hid (turn_up HG2.out (by omega) (own_up HV2.out (by omega)) t3)
  have HV3 := Lib.hid k3
  have HE := Lib.hid (entries_ok k3 (by decide))
  clear k3 t3
  go_wp2_with fail
  refine HE.out.mono ?_
  rintro e w4 ⟨u4, rfl, k4, g4⟩
  obtain ⟨a4, c4, hvf⟩ := OwnOf.form k4
  subst hvf
  have HG4 := Lib.hid (grown_trans HG3.out g4)
  have HV4 := Lib.hid (HV3.out.grow g4)
  have HC := Lib.hid (HP2.out w4 rc v3 HV4.out)
  have hl3 : l567.length = 3 := rfl
  clear k4 g4
  go_wp2_with fail
  refine HC.out.mono ?_
  rintro e w5 ⟨rfl, v5, k5, -, t5⟩
  have HG5 := Lib.hid (turn_up HG4.out (by omega) (own_up HV4.out (by omega)) t5)
  have HE2 := Lib.hid (entries_ok k5 (by decide))
  clear k5 t5
  go_wp2_with fail
  refine HE2.out.mono ?_
  rintro e w6 ⟨u6, rfl, k6, g6⟩
  obtain ⟨a6, c6, hvf⟩ := OwnOf.form k6
  subst hvf
  have HG6 := Lib.hid (grown_trans HG5.out g6)
  have hl1 : l581.length = 1 := rfl
  clear k6 g6
  go_wp2_with fail
  go_ret
  exact ⟨rfl, HG6.out⟩
end Go.Proofs.Ytamkmmhjmpjibaa
