/- Package amap (landed): slices.Index, lay, Make, Set. -/
import Derived.Test.YtfmihbiongnpnaaADa
import Derived.Deep.CutBlock
import Derived.Deep.DeepCutAuto
import Derived.OwnWalk
import Derived.Test.YtfmihbiongnpnaaAMade
namespace Go.Proofs.Ytfmihbiongnpnaa
open Go.ChangeShapes Go.WideShapes Go.ChangeAt Go.RowKit Go.Deep
set_option linter.unusedVariables false

theorem full_first {L : AmL} {most : Nat} (hl : L.length ≤ most) (h : most ≤ (idsA L).length) : firstA L = most ∧ L.length = most := by
  have h1 := ids_le (L := L)
  have h2 : L.length = most := by omega
  refine ⟨?_, h2⟩
  rcases Nat.lt_or_ge (firstA L) L.length with h3 | h3
  · have := ids_lt (liveA_none (first_free h3)) h3
    omega
  · have := first_le (L := L); omega
def PAS (w : World) (p most : Nat) (L : AmL) (O : List Nat) : Prop := ∃ v S, PA w p most v L S ∧ GoodL most L ∧ O = blkA p v L S
section
variable {w w1 w' : World} {p most : Nat} {v : Value} {L : AmL} {S : Nat → AmP}
theorem PA.same (h : PA w p most v L S) (hg : GoodL most L) (k : w.grownBy w' none) : ALa PAS w w' p most (blkA p v L S) L := ⟨_, ⟨v, S, PoolA.grow dsS h k, hg, rfl⟩, Turn.grown k, fun b hb => .inl hb⟩
theorem PA.turned (h : PA w p most v L S) (g : w.grownBy w1 none) {i : Nat} {x y : AmV} {P : AmP} (hx : L[i]? = some (some x)) (hb : AmB DS 81 w' y P) (ha : P.a = (S i).a) (k : Turn (S i).blk w1 w') (o : ∀ b, b ∈ P.blk → b ∈ (S i).blk ∨ w1.heap.size ≤ b) (hG : GoodL most (L.set i (some y))) : ALa PAS w w' p most (blkA p v L S) (L.set i (some y)) := by
  obtain ⟨m1, m2, m3⟩ := PoolA.turned dsS (PoolA.grow dsS h g) hx hb ha k o
  refine ⟨_, ⟨v, updA S i P, m1, hG, rfl⟩, (Turn.grown g).trans' m2, fun b hb => ?_⟩
  rcases m3 b hb with e | e
  · exact .inl e
  · exact .inr (Nat.le_trans g.size e)

theorem pa_index (h : PA w p most v L S) (hg : GoodL most L) (k : Int) (hk : k = if most ≤ (idsA L).length then -1 else (firstA L : Int)) : Calls Try.prog 46 #[v, .pointer none] w fun e w' => e = .returned (.int .i64 k) ∧ w' = w := by
  obtain ⟨s, c, rfl⟩ := h.form
  have hl := hg.len
  have hm := hg.most
  have HR := Lib.hid h
  have HF := Lib.hid (show ∀ j, j < most → (∀ i, i < j → liveA L i = true) → liveA L j = false → k = j from fun j hj h1 h2 => by
    rw [hk]
    have hjl : j ≤ L.length := by
      rcases Nat.lt_or_ge L.length j with h3 | h3
      · have := h1 _ h3; rw [liveA_out (Nat.le_refl _)] at this; cases this
      · exact h3
    have hf := first_eq h1 h2 hjl
    rw [if_neg, hf]
    intro hfull
    have := (full_first hl hfull).1
    omega)
  have HE := Lib.hid (show (∀ i, i < most → liveA L i = true) → k = -1 from fun h1 => by
    rw [hk, if_pos]
    rcases Nat.lt_or_ge (idsA L).length most with h2 | h2
    · have h3 := first_room hl (by omega)
      rcases Nat.lt_or_ge (firstA L) L.length with h4 | h4
      · have := h1 _ h3; rw [liveA_none (first_free h4)] at this; cases this
      · have := h1 _ h3; rw [liveA_out h4] at this; cases this
    · exact h2)
  clear h hg hk
  go_enter Try.func46, Try.ntmps46
  go_wp2_with fail
  go_loopw [8] (fun iv wr => ∃ j : Nat, j ≤ most ∧ iv = .int .i64 j ∧ Hid (∀ i, i < j → liveA L i = true) ∧ wr = w) (fun iv _ => most - (intOf iv).toNat)
  case atStart => exact ⟨0, by omega, rfl, fun i hi => by omega, rfl⟩
  case round =>
    obtain ⟨j, hj, rfl, HZ, rfl⟩ := hrel
    by_cases hlt : j < most
    · obtain ⟨g, c2, hv⟩ := HR.out.there (by omega)
      injection hv with e1 e2 e3
      subst e1 e3
      cases hlv : liveA L j with
      | true =>
        obtain ⟨x, hx⟩ := live_get hlv
        have k0 := HR.out.live hlt hx
        have hq := eql_map
        have HN := Lib.hid (show ∀ i, i < j + 1 → liveA L i = true from fun i hi => by
          by_cases e : i = j
          · rw [e]; exact hlv
          · exact HZ.out i (by omega))
        clear hx hlv HZ
        go_wp2_with fail
        go_roundw
        case rel => exact ⟨j + 1, by omega, by go_num, HN, by trivial⟩
        case measure => simp [intOf]; omega
      | false =>
        have k0 := HR.out.dead hlt hlv
        have HK := Lib.hid (HF.out j hlt HZ.out hlv)
        clear hlv HZ
        go_wp2_with fail
        go_ret
        exact ⟨by rw [HK.out]; rfl, rfl⟩
    · obtain rfl : j = most := by omega
      have HK := Lib.hid (HE.out HZ.out)
      go_wp2_with fail
      go_ret
      exact ⟨by rw [HK.out]; rfl, rfl⟩

theorem pa_lay_no (h : PA w p most v L S) (hg : GoodL most L) (n : Int) (hfull : most ≤ (idsA L).length) : Calls Try.prog 33 #[.pointer (some ⟨p, 0, none⟩), .int .i64 n] w fun e w' => e = .returned (.tuple #[.int .i64 0, .pointer none, .int .i64 5]) ∧ w.grownBy w' none := by
  have c1 := h.at.2
  have HI := Lib.hid (pa_index h hg (-1) (by rw [if_pos hfull]))
  clear h hg hfull
  go_enter Try.func33, Try.ntmps33
  go_wp2_with fail
  refine HI.out.mono ?_
  rintro e w2 ⟨rfl, e2⟩
  subst w2
  go_wp2_with fail
  go_ret3
  exact ⟨rfl, grown_refl _ _⟩
/-- Behind a lay. -/
def LaidA (w w' : World) (p most : Nat) (v : Value) (L : AmL) (S : Nat → AmP) (i : Nat) (y : AmV) (P : AmP) : Prop :=
  PA w' p most v (putA L i (some y)) (updA S i P) ∧ Turn (blkA p v L S) w w' ∧ (∀ b, b ∈ blkA p v (putA L i (some y)) (updA S i P) → b ∈ blkA p v L S ∨ w.heap.size ≤ b) ∧ ∀ b, b ∈ P.blk → w.heap.size ≤ b
set_option maxHeartbeats 2000000 in
theorem pa_lay (h : PA w p most v L S) (hg : GoodL most L) (k : Nat) (h1 : 1 ≤ k) (h2 : k ≤ 4096) (hno : ¬ most ≤ (idsA L).length) : Calls Try.prog 33 #[.pointer (some ⟨p, 0, none⟩), .int .i64 k] w fun e w' => ∃ P : AmP, e = .returned (.tuple #[.int .i64 ((firstA L : Int) + 1), .pointer (some ⟨P.a, 0, none⟩), .int .i64 0]) ∧ LaidA w w' p most v L S (firstA L) (newA k) P := by
  have hfm := first_room hg.len hno
  have hfl := first_le (L := L)
  have hl := hg.len
  have hm := hg.most
  have HI := Lib.hid (pa_index h hg (firstA L : Int) (by rw [if_neg hno]))
  obtain ⟨g, c, rfl⟩ := h.there (by omega)
  have HR := Lib.hid h
  have c1 := h.at.2
  obtain ⟨f, hf⟩ : ∃ f, firstA L = f := ⟨_, rfl⟩
  rw [hf] at HI hfm hfl ⊢
  have d0 : decide ((f : Int) < 0) = false := decide_eq_false (by omega)
  obtain ⟨X, hX⟩ : ∃ X, X = madeCells #[.int .i64 0] (k * 1) := ⟨_, rfl⟩
  have hmk : ∀ W : World, (Instr.makeSlice 39 (.int .i64 (k : Int)) (.int .i64 (k : Int))).run Try.prog W = .ok (.slice (some ⟨W.heap.size, 0, none⟩) k k) (W.alloc (.cells X 3)) := fun W => by
    obtain ⟨i0, hi, hz0, hz1, hz2⟩ := info_parts info_int11
    have hr := run_make (P := Try.prog) W 39 3 i0 _ Try.underlying39 hi hz0 .i64 .i64 (k : Int) (k : Int) (by omega) (by omega) (by rw [hz2]; omega) (by omega)
    rw [hr, Int.toNat_natCast, hz1, hX]
    rfl
  have HXl := Lib.hid (show X.toList = (List.replicate k 0).flatMap zCells by rw [hX]; exact made_zeros k)
  have HXs := Lib.hid (show X.size = k * 1 by rw [hX]; unfold madeCells; simp)
  have HC := Lib.hid (fun W => spOk.new k W h2)
  clear h hX hg hno hf
  go_enter Try.func33, Try.ntmps33
  go_wp2_with fail
  refine HI.out.mono ?_
  rintro e w2 ⟨rfl, e2⟩
  subst w2
  go_upto_region 4 with fail
  go_cut [8] from 16 to 22 (fun p8 wx => ∃ P : AmP, p8 = .pointer (some ⟨P.a, 0, none⟩) ∧ Hid (AmB DS 81 wx ⟨List.replicate k 0, List.replicate k 0⟩ P) ∧ Hid (w.grownBy wx none) ∧ Hid (∀ b, b ∈ P.blk → w.heap.size ≤ b))
  case first =>
    go_region_with (first | (go_at_call 47; refine (HC.out _).mono ?_; rintro e w3 ⟨cq, Oq, rfl, h3, g3, o3⟩; have H3 := Lib.hid h3; have G3 := Lib.hid g3; have O3 := Lib.hid o3; clear h3 g3 o3))
    · obtain ⟨A1, A2, A3⟩ := made_after dsS 81 (grown_drew1 w) H3.out G3.out O3.out HXl.out HXs.out h2
      go_wp2_with fail
      go_meet
      case rel => exact ⟨⟨_, cq, _, Oq⟩, rfl, A1, A2, A3⟩
    · obtain ⟨A1, A2, A3⟩ := made_before dsS 81 (grown_refl w none) H3.out (grown_trans (grown_drew1 _) G3.out) O3.out HXl.out HXs.out h2
      go_wp2_with fail
      go_meet
      case rel => exact ⟨⟨_, cq, _, Oq⟩, rfl, A1, A2, A3⟩
  case rest =>
    obtain ⟨P, rfl, HA, HGc, HF⟩ := hcut
    have c0 := HA.out.at.1
    have HK := Lib.hid (spOk.add HA.out.d (JOk.zeros h2) 0 k 1 (okS (by decide) (by decide)) ⟨by omega, by omega⟩ (okS (by decide) (by decide)))
    clear hmk HC HI d0 c1
    go_wp2_with fail
    refine HK.out.mono ?_
    rintro e w5 ha
    obtain ⟨u5, rfl, -, -, h5⟩ := addA_open ha
    rw [add_all h1] at h5
    obtain ⟨P2, ea, -, -, hb2, ht2, ho2⟩ := HA.out.counts dsS h5
    have g5 : w.grownBy w5 none := ((Turn.grown HGc.out).trans' ht2).noGrown HF.out
    have hf2 : ∀ b, b ∈ P2.blk → w.heap.size ≤ b := fun b hb => by
      rcases ho2 b hb with e | e
      · exact HF.out b e
      · have := HGc.out.size; omega
    obtain ⟨Pa, Pp, Pg, PO⟩ := P
    simp only at ea
    subst ea
    have hP5 := HR.out.grow dsS g5
    have c5 := hP5.at.2
    have z5 := hP5.vfrozen f
    obtain ⟨cv, hcv⟩ : ∃ cv, w5.cell? ⟨g, f, none⟩ = some cv := ⟨_, hP5.cell hfm⟩
    obtain ⟨m1, m2, m3⟩ := hP5.put dsS (i := f) hfl hfm hb2 (fun b hb hm => by have := hf2 b hb; have := HR.out.lt dsS b hm; omega)
    have HM := Lib.hid (show LaidA w (w5.setCell ⟨g, f, none⟩ (.pointer (some ⟨P2.a, 0, none⟩))) p most (.slice (some ⟨g, 0, none⟩) most c) L S f (newA k) P2 from ⟨m1, (Turn.grown g5).trans' m2, fun b hb => by
      rcases m3 b hb with e | e
      · exact .inl e
      · exact .inr (hf2 b e), hf2⟩)
    clear hb2 ht2 ho2 hf2 g5 h5 ha HF HGc HA HK c0 hP5 HXl HXs m1 m2 m3
    go_wp2_with fail
    go_ret3
    exact ⟨P2, rfl, HM.out⟩

theorem pa_make (h : PA w p most v L S) (hg : GoodL most L) (n : Int) (hn : okI n) : Calls Try.prog 11 #[.pointer (some ⟨p, 0, none⟩), .int .i64 n] w fun e w' => e = .returned (.tuple #[.int .i64 (makeA most L n).n, .int .i64 (makeA most L n).e]) ∧ ALa PAS w w' p most (blkA p v L S) (makeA most L n).L := by
  have HT := Lib.hid (pa_there h)
  have hG := makeA_good (n := n) hg
  by_cases hr : 1 ≤ n ∧ n ≤ 4096
  · have d0 : decide (n < 1) = false := decide_eq_false (by omega)
    have d1 : decide (n > 4096) = false := decide_eq_false (by omega)
    by_cases hfull : most ≤ (idsA L).length
    · rw [show makeA most L n = ⟨0, [], 5, L⟩ by unfold makeA; rw [if_neg (fun k => k hr), if_pos hfull]]
      have HK := Lib.hid (pa_lay_no h hg n hfull)
      have HR := Lib.hid (fun W (k : w.grownBy W none) => PA.same h hg k)
      clear h hg hn hr hG hfull
      go_enter Try.func11, Try.ntmps11
      go_wp2_with fail
      refine HT.out.mono ?_
      rintro e w2 ⟨rfl, e2⟩
      subst w2
      go_wp2_with fail
      refine HK.out.mono ?_
      rintro e w2 ⟨rfl, g2⟩
      have HG2 := Lib.hid g2
      clear g2
      go_wp2_with fail
      go_ret2
      exact ⟨rfl, HR.out _ HG2.out⟩
    · have hmk : makeA most L n = ⟨(firstA L : Int) + 1, [], 0, putA L (firstA L) (some (newA n.toNat))⟩ := by unfold makeA; rw [if_neg (fun k => k hr), if_neg hfull]
      rw [hmk] at hG ⊢
      obtain ⟨k, rfl⟩ := Int.eq_ofNat_of_zero_le (show 0 ≤ n by omega)
      rw [Int.toNat_natCast] at hG ⊢
      have HK := Lib.hid (pa_lay h hg k (by omega) (by omega) hfull)
      have HG := Lib.hid hG
      clear h hg hn hr hG hfull hmk
      go_enter Try.func11, Try.ntmps11
      go_wp2_with fail
      refine HT.out.mono ?_
      rintro e w2 ⟨rfl, e2⟩
      subst w2
      go_wp2_with fail
      refine HK.out.mono ?_
      rintro e w2 ⟨P, rfl, hm⟩
      have HM := Lib.hid hm
      clear hm
      go_wp2_with fail
      go_ret2
      exact ⟨rfl, _, ⟨v, updA S (firstA L) P, HM.out.1, HG.out, rfl⟩, HM.out.2.1, HM.out.2.2.1⟩
  · rw [show makeA most L n = ⟨0, [], 2, L⟩ by unfold makeA; rw [if_pos hr]]
    have HR := Lib.hid (PA.same h hg (grown_refl w none))
    have dd : n < 1 ∨ (¬ n < 1 ∧ n > 4096) := by omega
    clear h hg hr hG
    rcases dd with d0 | ⟨d0, d1⟩
    all_goals
      go_enter Try.func11, Try.ntmps11
      go_wp2_with fail
      refine HT.out.mono ?_
      rintro e w2 ⟨rfl, e2⟩
      subst w2
      go_wp2_with fail
      go_ret2
      exact ⟨rfl, HR.out⟩

theorem pa_set (h : PA w p most v L S) (hg : GoodL most L) (id s x : Int) (hid : okI id) (hs : okI s) (hx : okI x) : Calls Try.prog 13 #[.pointer (some ⟨p, 0, none⟩), .int .i64 id, .int .i64 s, .int .i64 x] w fun e w' => e = .returned (.tuple #[.int .i64 (setA L id s x).n, .int .i64 (setA L id s x).e]) ∧ ALa PAS w w' p most (blkA p v L S) (setA L id s x).L := by
  have hG := setA_good (id := id) (s := s) (v := x) hg hx.2
  rcases of_cases L id with ⟨e, -⟩ | ⟨i, a, rfl, hi, ha, e⟩
  · rw [show setA L id s x = ⟨0, [], 7, L⟩ by unfold setA; rw [e]]
    have HO := Lib.hid (pa_find_none h hg hid e)
    have HR := Lib.hid (PA.same h hg (grown_refl w none))
    clear h e hG
    go_enter Try.func13, Try.ntmps13
    go_wp2_with fail
    refine HO.out.mono ?_
    rintro e w2 ⟨rfl, e2⟩
    subst w2
    go_wp2_with fail
    go_ret2
    exact ⟨rfl, HR.out⟩
  · have hga := ofA_good hg e
    have HO := Lib.hid (pa_find_some h hg ha)
    have ham := h.am.each i a ha
    have c0 := ham.at.1
    have HC := Lib.hid (spOk.at_ ham.d hga.cs s hs)
    have hcb := covA_bounds (s := s) hga
    have hcin := fun k => covA_in (a := a) (s := s) k
    have hse : setA L ((i : Int) + 1) s x = if covA a s = 0 ∨ x < 0 then ⟨0, [], 2, L⟩ else ⟨anA a s, [], 0, L.set i (some ⟨a.cs, a.as.set s.toNat x⟩)⟩ := by unfold setA; rw [e]; simp only [turnA, show ((i : Int) + 1 - 1).toNat = i by omega]
    have hcv : covA a s = if atJ a.cs s < 0 then 0 else atJ a.cs s := rfl
    obtain ⟨y, hy⟩ : ∃ y, atJ a.cs s = y := ⟨_, rfl⟩
    rw [hy] at HC hcv
    have hy1 : covA a s = 0 ↔ y < 1 := by
      rw [hcv]
      split <;> omega
    by_cases hbad : y < 1 ∨ x < 0
    · rw [hse, if_pos (by rcases hbad with h1 | h1; exact .inl (hy1.2 h1); exact .inr h1)]
      have HR := Lib.hid (fun W (k : w.grownBy W none) => PA.same h hg k)
      have dd : y < 1 ∨ (¬ y < 1 ∧ x < 0) := by omega
      clear h e hG hga ha hse hy hbad hcin ham hcv hy1 hcb
      rcases dd with d0 | ⟨d0, d1⟩
      all_goals
        go_enter Try.func13, Try.ntmps13
        go_wp2_with fail
        refine HO.out.mono ?_
        rintro e w2 ⟨rfl, e2⟩
        subst w2
        go_wp2_with fail
        refine HC.out.mono ?_
        rintro e w3 ⟨rfl, g3⟩
        have HG := Lib.hid g3
        clear g3
        go_wp2_with fail
        go_ret2
        exact ⟨rfl, HR.out _ HG.out⟩
    · rw [hse, if_neg (by rintro (h1 | h1); exact hbad (.inl (hy1.1 h1)); exact hbad (.inr h1))] at hG ⊢
      have d0 : ¬ y < 1 := by omega
      have d1 : ¬ x < 0 := by omega
      obtain ⟨hs0, hs1⟩ := hcin (fun k => d0 (hy1.1 k))
      obtain ⟨j, rfl⟩ := Int.eq_ofNat_of_zero_le hs0
      have hj : j < a.as.length := by have := hga.len; omega
      have hlen : a.as.length ≤ 4096 := by have h2 := hga.cs.len; have h3 := hga.len; omega
      obtain ⟨z, hz⟩ : ∃ z, a.as[j]? = some z := ⟨_, List.getElem?_eq_getElem hj⟩
      rw [show anA a j = z by
        unfold anA
        rw [if_pos (by omega), Int.toNat_natCast, List.getD_eq_getElem?_getD, hz]
        rfl] at hG ⊢
      rw [Int.toNat_natCast] at hG ⊢
      have HH := Lib.hid h
      have HA := Lib.hid ha
      have HG0 := Lib.hid hG
      have HX := Lib.hid hz
      clear h e hG hga ha hse hy hbad hcin hz ham hcv hy1 hcb
      go_enter Try.func13, Try.ntmps13
      go_wp2_with fail
      refine HO.out.mono ?_
      rintro e w2 ⟨rfl, e2⟩
      subst w2
      go_wp2_with fail
      refine HC.out.mono ?_
      rintro e w3 ⟨rfl, g3⟩
      have h3 := PoolA.grow dsS HH.out g3
      have a3 := h3.am.each i a HA.out
      have c1 := a3.at.2
      have c2 := a3.get HX.out
      have z2 := a3.frozen j
      have HF := Lib.hid (PA.turned HH.out g3 HA.out (AmB.set dsS a3 j x) rfl (AmB.set_turn _ _ _ _) (fun b hb => .inl hb) HG0.out)
      clear h3 a3 g3 HC c0
      go_wp2_with fail
      go_ret2
      exact ⟨rfl, HF.out⟩
end
end Go.Proofs.Ytfmihbiongnpnaa
