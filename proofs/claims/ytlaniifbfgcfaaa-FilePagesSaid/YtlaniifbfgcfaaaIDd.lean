/- Package file (landed): Resize. -/
import Derived.Test.YtlaniifbfgcfaaaIDc
namespace Go.Proofs.Ytlaniifbfgcfaaa
open Go.ChangeShapes Go.WideShapes Go.ChangeAt Go.RowKit Go.Deep
open Extern.Stop (cell)
set_option linter.unusedVariables false

/-- The pages when those from n up to j are gone. -/
def cutTo (P : Int → Int → List UInt8) (i n j : Int) : Int → Int → List UInt8 := fun a b => if a = i ∧ n ≤ b ∧ b < j then pageZ else P a b
theorem cutTo_start (P : Int → Int → List UInt8) (i n : Int) : cutTo P i n n = P := by
  funext a b
  exact if_neg (by omega)
theorem cutTo_step (P : Int → Int → List UInt8) (i n j : Int) (hj : n ≤ j) : putI (cutTo P i n j) i j pageZ = cutTo P i n (j + 1) := by
  funext a b
  unfold putI cutTo
  by_cases h : a = i ∧ b = j
  · rw [if_pos h, if_pos ⟨h.1, by omega, by omega⟩]
  · rw [if_neg h]
    by_cases h2 : a = i ∧ n ≤ b ∧ b < j
    · rw [if_pos h2, if_pos ⟨h2.1, h2.2.1, by omega⟩]
    · rw [if_neg h2, if_neg (by omega)]
theorem cutTo_end {s : IS} (hk : s.Ok) {i n j : Int} (hj : s.has i → s.size i ≤ j) : cutTo s.P i n j = cutI s.P i n := by
  funext a b
  unfold cutTo cutI
  by_cases h : a = i ∧ n ≤ b
  · rw [if_pos h]
    by_cases h2 : b < j
    · rw [if_pos ⟨h.1, h.2, h2⟩]
    · rw [if_neg (by omega)]
      refine hk.none a b fun hp => ?_
      have h3 := hp.2.2
      rw [h.1] at h3
      have := hj (h.1 ▸ hp.1)
      omega
  · rw [if_neg h, if_neg (by omega)]
theorem ZOwn.turn {w : World} {g c : Nat} {xs : List Int} {m : Nat} {n : Int} (h : ZOwn w 0 (.slice (some ⟨g, 0, none⟩) xs.length c) xs) :
    ZOwn (w.setCell ⟨g, m, none⟩ (.int .i64 n)) 0 (.slice (some ⟨g, 0, none⟩) xs.length c) (xs.set m n) := by
  have hl := flat_len zCells 1 z_len (xs.set m n)
  unfold ZOwn
  rw [List.length_set] at hl ⊢
  rcases h.2 with ⟨h0, _⟩ | ⟨g', cap, cur, hsl, hb, hg, h1, h2, h3, ht⟩
  · cases h0
  · cases hsl
    have g1 := heap_setCell_same w g m _ _ (.int .i64 n) hg
    refine ⟨hl, .inr ⟨g, c, _, rfl, hb, g1, h1, h2, by simp [h3], ?_⟩⟩
    rw [Array.toList_setIfInBounds, List.take_set, ht, z_flat, z_flat, List.map_set]

section
variable {w w' : World} {p M n : Nat} {s s' : IS} {v : Value}
/-- A size turns, and nothing else. -/
theorem SI.sized {g c : Nat} (h : SI w p s (.slice (some ⟨g, 0, none⟩) s.Z.length c) M n) (m : Nat) (q : Int) : SI (w.setCell ⟨g, m, none⟩ (.int .i64 q)) p ⟨s.Z.set m q, s.P, s.left⟩ (.slice (some ⟨g, 0, none⟩) s.Z.length c) M n ∧ Turn (blk p (.slice (some ⟨g, 0, none⟩) s.Z.length c) M) w (w.setCell ⟨g, m, none⟩ (.int .i64 q)) := by
  have hk : ∀ b, b ≠ g → (w.setCell ⟨g, m, none⟩ (.int .i64 q)).heap[b]? = w.heap[b]? := fun b hb => heap_setCell_other w ⟨g, m, none⟩ b _ (by first | exact hb | exact hb.symm)
  refine ⟨⟨(hk p fun e => h.vp (by rw [e]; rfl)).trans h.head, h.sizes.turn, h.pages.kept (hk M fun e => h.vM (by rw [e]; rfl))⟩, Turn.setCell _ w g m _ (by simp [blk, Value.ownBlock])⟩
/-- What Resize leaves. -/
def LeftC (w w' : World) (p M n : Nat) (v : Value) (s' : IS) : Prop := SI w' p s' v M n ∧ Turn (blk p v M) w w'
theorem LeftC.grow {w2 : World} (h : LeftC w w' p M n v s) (g : w'.grownBy w2 none) : LeftC w w2 p M n v s := ⟨h.1.grow g, h.2.trans' (Turn.grown g)⟩

set_option maxHeartbeats 2000000 in
theorem fl_resize (h : SI w p s v M n) (hk : s.Ok) (i q : Int) (hi : okI i) (hq : okI q) :
    Calls Try.prog 14 #[.pointer (some ⟨p, 0, none⟩), .int .i64 i, .int .i64 q] w fun e w' => e = .returned (.int .i64 (resizeI s i q).1) ∧ LeftC w w' p M n v (resizeI s i q).2 := by
  have HM := Lib.hid (made_ok h)
  have hz := fl_size h hk.len i hi
  have hlen := hk.len
  by_cases hs : s.has i
  · rw [show sizeI s i = (s.size i, true) from if_pos hs] at hz
    have HZ := Lib.hid hz
    by_cases hn : 0 ≤ q ∧ q ≤ 4096
    · have HB := Lib.hid (mayBe_ok w q true (decide_eq_true hn))
      rw [show resizeI s i q = (0, ⟨s.Z.set (i - 1).toNat q, cutI s.P i q, s.left⟩) by unfold resizeI; rw [if_pos hs, if_pos hn]]
      have hlt := IS.has_lt hs
      have hsz1 := hk.sz1 hs
      have HC := Lib.hid (fun j (hj : s.size i ≤ j) => cutTo_end hk (i := i) (n := q) (j := j) (fun _ => hj))
      obtain ⟨Q, hQ⟩ : ∃ Q, s.size i = Q := ⟨_, rfl⟩
      rw [hQ] at HZ HC hsz1
      obtain ⟨m, hm⟩ : ∃ m : Nat, i - 1 = m := ⟨(i - 1).toNat, by have := hs.1; omega⟩
      have hm0 : (i - 1).toNat = m := by omega
      rw [hm0] at hlt ⊢
      have hmi : i = m + 1 := by omega
      subst hmi
      have hm1 : (m : Int) + 1 - 1 = m := by omega
      have d3 : decide (s.Z.length ≤ m) = false := decide_eq_false (by omega)
      obtain ⟨g, c, hv⟩ : ∃ g c, v = .slice (some ⟨g, 0, none⟩) s.Z.length c := by
        rcases h.sizes.2 with ⟨_, h0⟩ | ⟨g, c, cur, hv, _⟩
        · omega
        · exact ⟨g, c, hv⟩
      subst hv
      have H0 := Lib.hid (show LeftC w w p M n (.slice (some ⟨g, 0, none⟩) s.Z.length c) ⟨s.Z, cutTo s.P ((m : Int) + 1) q q, s.left⟩ by rw [cutTo_start]; exact ⟨h, Turn.refl _ _⟩)
      have HI := Lib.hid hi
      have hq0 := hn.1
      have hq1 := hn.2
      clear h hk hs hn hm hm0 hi hz hQ hq
      go_enter Try.func14, Try.ntmps14
      go_wp2_with fail
      refine HM.out.mono ?_
      rintro e w2 ⟨rfl, e2⟩
      subst w2
      go_wp2_with fail
      refine HZ.out.mono ?_
      rintro e w2 ⟨rfl, e2⟩
      subst w2
      go_wp2_with fail
      refine HB.out.mono ?_
      rintro e w2 ⟨rfl, e2⟩
      subst w2
      go_wp2_with fail
      go_loopw [9] (fun jv wr => ∃ j : Int, q ≤ j ∧ (j ≤ Q ∨ j = q) ∧ jv = .int .i64 j ∧ Hid (LeftC w wr p M n (.slice (some ⟨g, 0, none⟩) s.Z.length c) ⟨s.Z, cutTo s.P ((m : Int) + 1) q j, s.left⟩)) (fun jv _ => (Q - intOf jv).toNat)
      case atStart => exact ⟨q, Int.le_refl _, .inr rfl, rfl, H0⟩
      case round =>
        clear H0 HM HZ HB
        obtain ⟨j, hj0, hj1, rfl, HJ⟩ := hrel
        obtain ⟨k0, k1, k2⟩ := HJ.out.1.at
        by_cases hlt2 : j < Q
        · have hjb : decide (j < Q) = true := decide_eq_true hlt2
          have hjo : okI j := okS (by omega) (by omega)
          rename_i wr _
          obtain ⟨w9, hdel, h9, g9⟩ := HJ.out.1.pages.strike HI.out hjo 0
          have h10 := HJ.out.1.mapped h9 g9
          simp only at h10
          rw [cutTo_step s.P ((m : Int) + 1) q j hj0] at h10
          have HN := Lib.hid (show LeftC w w9 p M n (.slice (some ⟨g, 0, none⟩) s.Z.length c) ⟨s.Z, cutTo s.P ((m : Int) + 1) q (j + 1), s.left⟩ from ⟨h10, HJ.out.2.trans' (Turn.one g9 (by simp [blk]))⟩)
          clear h9 g9 h10
          go_wp2_with fail
          exact ⟨⟨j + 1, by omega, by omega, rfl, HN⟩, by simp [intOf]; omega⟩
        · have hjb : decide (j < Q) = false := decide_eq_false hlt2
          obtain ⟨⟨z, y0⟩, x0⟩ := HJ.out.1.sizes.at hlt
          have hs9 := HJ.out.1.sized m q
          have hce := HC.out j (by omega)
          have HN := Lib.hid (show LeftC w _ p M n (.slice (some ⟨g, 0, none⟩) s.Z.length c) ⟨s.Z.set m q, cutI s.P ((m : Int) + 1) q, s.left⟩ by
            rw [← hce]
            exact ⟨hs9.1, HJ.out.2.trans' hs9.2⟩)
          clear hs9 hce
          go_wp2_with fail
          go_ret
          exact ⟨rfl, HN.out⟩
    · rw [show resizeI s i q = (2, s) by unfold resizeI; rw [if_pos hs, if_neg hn]]
      have HB := Lib.hid (mayBe_ok w q false (decide_eq_false hn))
      have HS := Lib.hid (show LeftC w w p M n v s from ⟨h, Turn.refl _ _⟩)
      obtain ⟨Q, hQ⟩ : ∃ Q, s.size i = Q := ⟨_, rfl⟩
      rw [hQ] at HZ
      clear h hk hs hn hz hQ
      go_enter Try.func14, Try.ntmps14
      go_wp2_with fail
      refine HM.out.mono ?_
      rintro e w2 ⟨rfl, e2⟩
      subst w2
      go_wp2_with fail
      refine HZ.out.mono ?_
      rintro e w2 ⟨rfl, e2⟩
      subst w2
      go_wp2_with fail
      refine HB.out.mono ?_
      rintro e w2 ⟨rfl, e2⟩
      subst w2
      go_wp2_with fail
      go_ret
      exact ⟨rfl, HS.out⟩
  · rw [show resizeI s i q = (7, s) from if_neg hs]
    rw [show sizeI s i = (0, false) from if_neg hs] at hz
    have HZ := Lib.hid hz
    have HS := Lib.hid (show LeftC w w p M n v s from ⟨h, Turn.refl _ _⟩)
    clear h hk hs hz
    go_enter Try.func14, Try.ntmps14
    go_wp2_with fail
    refine HM.out.mono ?_
    rintro e w2 ⟨rfl, e2⟩
    subst w2
    go_wp2_with fail
    refine HZ.out.mono ?_
    rintro e w2 ⟨rfl, e2⟩
    subst w2
    go_wp2_with fail
    go_ret
    exact ⟨rfl, HS.out⟩
end
end Go.Proofs.Ytlaniifbfgcfaaa
