/- The document's amaps of layer 13: Set, Hold. -/
import Derived.Test.YtfmihbiongnpnaaARef2
namespace Go.Proofs.Ytfmihbiongnpnaa
open Go.ChangeShapes Go.WideShapes Go.ChangeAt Go.RowKit Go.Deep
set_option linter.unusedVariables false

def RDS (w : World) (q most : Nat) (L : AmL) (O : List Nat) : Prop := ∃ v S, RA w q most v L S ∧ GoodL most L ∧ O = blkA q v L S
theorem hold_add {L : AmL} {i : Nat} {x : AmV} {lo hi : Int} (hx : L[i]? = some (some x)) (hs : spanA x lo hi) (hc : allCov x.cs lo hi) : holdA L ((i : Int) + 1) lo hi = ⟨0, [], (addJ x.cs lo hi 1).2.1, L.set i (some ⟨(addJ x.cs lo hi 1).2.2, x.as⟩)⟩ := by
  unfold holdA
  rw [ofA_at hx]
  simp only
  unfold addJ
  by_cases hm : mayJ x.cs lo hi 1
  · rw [if_pos ⟨hs, hc, hm⟩, if_pos hm, turnA_nat]
  · rw [if_neg (fun k => hm k.2.2), if_neg hm]
    congr 1
    refine List.ext_getElem? fun j => ?_
    rw [List.getElem?_set]
    by_cases e : i = j
    · subst e
      rw [if_pos rfl, if_pos (List.getElem?_eq_some_iff.1 hx).1, hx]
    · rw [if_neg e]
section
variable {w w1 w' : World} {q most : Nat} {v : Value} {L : AmL} {S : Nat → AmP}
theorem RA.same (h : RA w q most v L S) (hg : GoodL most L) (k : w.grownBy w' none) : ALa RDS w w' q most (blkA q v L S) L := ⟨_, ⟨v, S, PoolA.grow rsOk h k, hg, rfl⟩, Turn.grown k, fun b hb => .inl hb⟩
theorem RA.turned (h : RA w q most v L S) (g : w.grownBy w1 none) {i : Nat} {x y : AmV} {P : AmP} (hx : L[i]? = some (some x)) (hb : AmB RS 53 w' y P) (ha : P.a = (S i).a) (k : Turn (S i).blk w1 w') (o : ∀ b, b ∈ P.blk → b ∈ (S i).blk ∨ w1.heap.size ≤ b) (hG : GoodL most (L.set i (some y))) : ALa RDS w w' q most (blkA q v L S) (L.set i (some y)) := by
  obtain ⟨m1, m2, m3⟩ := PoolA.turned rsOk (PoolA.grow rsOk h g) hx hb ha k o
  refine ⟨_, ⟨v, updA S i P, by unfold RA; rw [List.length_set]; exact m1, hG, rfl⟩, (Turn.grown g).trans' m2, fun b hb => ?_⟩
  rcases m3 b hb with e | e
  · exact .inl e
  · exact .inr (Nat.le_trans g.size e)

theorem ra_set (h : RA w q most v L S) (hg : GoodL most L) (id s x : Int) (hid : okI id) (hs : okI s) (hx : okI x) : Calls Try.prog 14 #[.pointer (some ⟨q, 0, none⟩), .int .i64 id, .int .i64 s, .int .i64 x] w fun e w' => e = .returned (.tuple #[.int .i64 (setA L id s x).n, .int .i64 (setA L id s x).e]) ∧ ALa RDS w w' q most (blkA q v L S) (setA L id s x).L := by
  have hl := Nat.le_trans hg.len hg.most
  have hG := setA_good (id := id) (s := s) (v := x) hg hx.2
  rcases of_cases L id with ⟨e, -⟩ | ⟨i, a, rfl, hi, ha, e⟩
  · rw [show setA L id s x = ⟨0, [], 7, L⟩ by unfold setA; rw [e]]
    have HO := Lib.hid (ra_of_none h hl hid e)
    have HR := Lib.hid (RA.same h hg (grown_refl w none))
    clear h e hG
    go_enter Try.func14, Try.ntmps14
    go_wp2_with fail
    refine HO.out.mono ?_
    rintro e w2 ⟨rfl, e2⟩
    subst w2
    go_wp2_with fail
    go_ret2
    exact ⟨rfl, HR.out⟩
  · have hga := ofA_good hg e
    have HO := Lib.hid (ra_of_some h hl ha)
    have HC := ra_cover h hg ((i : Int) + 1) s hid hs
    rw [show coverA L ((i : Int) + 1) s = covA a s by unfold coverA; rw [e]] at HC
    have hcb := covA_bounds (s := s) hga
    have hcin := fun k => covA_in (a := a) (s := s) k
    have hse : setA L ((i : Int) + 1) s x = if covA a s = 0 ∨ x < 0 then ⟨0, [], 2, L⟩ else ⟨anA a s, [], 0, L.set i (some ⟨a.cs, a.as.set s.toNat x⟩)⟩ := by unfold setA; rw [e]; simp only [turnA_nat]
    obtain ⟨y, hy⟩ : ∃ y, covA a s = y := ⟨_, rfl⟩
    rw [hy] at HC hcb hcin hse
    have hq := eql_ram
    by_cases hbad : y = 0 ∨ x < 0
    · rw [hse, if_pos hbad]
      have HR := Lib.hid (fun W (k : w.grownBy W none) => RA.same h hg k)
      have HC := Lib.hid HC
      have dd : (y == 0) = true ∨ ((y == 0) = false ∧ decide (x < 0) = true) := by
        by_cases hy0 : y = 0
        · exact .inl (by simp [hy0])
        · exact .inr ⟨by simpa using hy0, decide_eq_true (by omega)⟩
      clear h e hG hga ha hse hy hbad hcin
      rcases dd with d0 | ⟨d0, d1⟩
      all_goals
        go_enter Try.func14, Try.ntmps14
        go_wp2_with fail
        refine HO.out.mono ?_
        rintro e w2 ⟨rfl, e2⟩
        subst w2
        go_wp2_with fail
        refine HC.out.mono ?_
        rintro e w3 ⟨rfl, g3⟩
        have HG := Lib.hid g3
        clear g3
        go_wp2_with fail
        go_ret2
        exact ⟨rfl, HR.out _ HG.out⟩
    · rw [hse, if_neg hbad] at hG ⊢
      have d0 : (y == 0) = false := by simp; omega
      have d1 : decide (x < 0) = false := decide_eq_false (by omega)
      obtain ⟨hs0, hs1⟩ := hcin (by omega)
      obtain ⟨j, rfl⟩ := Int.eq_ofNat_of_zero_le hs0
      have hj : j < a.as.length := by have := hga.len; omega
      have hlen : a.as.length ≤ 4096 := by have h2 := hga.cs.len; have h3 := hga.len; omega
      have HGt := fun W (k : w.grownBy W none) => ra_get (PoolA.grow rsOk h k) hg ((i : Int) + 1) j hid hs
      rw [show getA L ((i : Int) + 1) j = anA a j by unfold getA; rw [e]] at HGt
      obtain ⟨z, hz⟩ : ∃ z, anA a j = z := ⟨_, rfl⟩
      rw [hz] at HGt ⊢
      rw [Int.toNat_natCast] at hG ⊢
      obtain ⟨o, ho⟩ : ∃ o, a.as[j]? = some o := ⟨_, List.getElem?_eq_getElem hj⟩
      have HGt := Lib.hid HGt
      have HO2 := Lib.hid (fun W (k : w.grownBy W none) => ra_of_some (PoolA.grow rsOk h k) hl ha)
      have HC := Lib.hid HC
      have HH := Lib.hid h
      have HA := Lib.hid ha
      have HG0 := Lib.hid hG
      have HX := Lib.hid ho
      clear h e hG hga ha hse hy hbad hcin hz ho
      go_enter Try.func14, Try.ntmps14
      go_wp2_with fail
      refine HO.out.mono ?_
      rintro e w2 ⟨rfl, e2⟩
      subst w2
      go_wp2_with fail
      refine HC.out.mono ?_
      rintro e w3 ⟨rfl, g3⟩
      have HGt3 := Lib.hid (HGt.out _ g3)
      have HO3 := Lib.hid (HO2.out _ g3)
      have h3 := PoolA.grow rsOk HH.out g3
      have a3 := h3.am.each i a HA.out
      have c1 := a3.at.2
      have c2 := a3.get HX.out
      have z2 := a3.frozen j
      have HF := Lib.hid (RA.turned HH.out g3 HA.out (AmB.set rsOk a3 j x) rfl (AmB.set_turn _ _ _ _) (fun b hb => .inl hb) HG0.out)
      clear h3 a3 g3 HC HGt HO2
      go_wp2_with fail
      refine HGt3.out.mono ?_
      rintro e w4 ⟨rfl, e4⟩
      subst w4
      go_wp2_with fail
      refine HO3.out.mono ?_
      rintro e w4 ⟨rfl, e4⟩
      subst w4
      go_wp2_with fail
      go_ret2
      exact ⟨rfl, HF.out⟩

set_option maxHeartbeats 2000000 in
theorem ra_hold (h : RA w q most v L S) (hg : GoodL most L) (id lo hi : Int) (hid : okI id) (hlo : okI lo) (hhi : okI hi) : Calls Try.prog 16 #[.pointer (some ⟨q, 0, none⟩), .int .i64 id, .int .i64 lo, .int .i64 hi] w fun e w' => e = .returned (.int .i64 (holdA L id lo hi).e) ∧ ALa RDS w w' q most (blkA q v L S) (holdA L id lo hi).L := by
  have hl := Nat.le_trans hg.len hg.most
  have hG := holdA_good (id := id) (lo := lo) (hi := hi) hg
  rcases of_cases L id with ⟨e, -⟩ | ⟨i, a, rfl, hi', ha, e⟩
  · rw [show holdA L id lo hi = ⟨0, [], 7, L⟩ by unfold holdA; rw [e]]
    have HO := Lib.hid (ra_of_none h hl hid e)
    have HR := Lib.hid (RA.same h hg (grown_refl w none))
    clear h e hG
    go_enter Try.func16, Try.ntmps16
    go_wp2_with fail
    refine HO.out.mono ?_
    rintro e w2 ⟨rfl, e2⟩
    subst w2
    go_wp2_with fail
    go_ret
    exact ⟨rfl, HR.out⟩
  · have hga := ofA_good hg e
    have HO := Lib.hid (ra_of_some h hl ha)
    have hq := eql_ram
    have ham := h.am.each i a ha
    have c1 := ham.at.2
    have hlen : a.as.length ≤ 4096 := by have h2 := hga.cs.len; have h3 := hga.len; omega
    by_cases hs : spanA a lo hi
    · obtain ⟨s0, s1, s2⟩ := hs
      obtain ⟨l, rfl⟩ := Int.eq_ofNat_of_zero_le s0
      obtain ⟨m, rfl⟩ := Int.eq_ofNat_of_zero_le (show 0 ≤ hi by omega)
      have d0 : decide ((l : Int) < 0) = false := decide_eq_false (by omega)
      have d1 : decide (m ≤ l) = false := decide_eq_false (by omega)
      have d2 : decide (a.as.length < m) = false := decide_eq_false (by omega)
      have HH := Lib.hid h
      have HA := Lib.hid ha
      have HE := Lib.hid e
      have HGA := Lib.hid hga
      have HG0 := Lib.hid hG
      clear h e hG hga ha ham hid hlo hhi
      go_enter Try.func16, Try.ntmps16
      go_wp2_with fail
      refine HO.out.mono ?_
      rintro e w2 ⟨rfl, e2⟩
      subst w2
      go_wp2_with fail
      go_loopw [10] (fun iv wr => ∃ j : Nat, l ≤ j ∧ j ≤ m ∧ iv = .int .i64 j ∧ Hid (∀ t, l ≤ t → t < j → a.cs.getD t 0 ≠ 0) ∧ Hid (w.grownBy wr none)) (fun iv _ => m - (intOf iv).toNat)
      case atStart => exact ⟨l, by omega, by omega, rfl, fun t h1 h2 => by omega, grown_refl _ _⟩
      case round =>
        obtain ⟨j, hj0, hj, rfl, HZ, HG⟩ := hrel
        have hr := PoolA.grow rsOk HH.out HG.out
        have hra := hr.am.each i a HA.out
        have k0 := hra.at.1
        by_cases hlt : j < m
        · have hjc : j < a.cs.length := by have := HGA.out.len; omega
          have hAt := rs_at hra.d HGA.out.cs j
          have hb1 := HGA.out.cs.lo _ (getD_mem hjc)
          have hb2 := HGA.out.cs.hi _ (getD_mem hjc)
          rw [show atJ a.cs j = a.cs.getD j 0 by unfold atJ; rw [if_pos ⟨by omega, by omega⟩, Int.toNat_natCast]] at hAt
          obtain ⟨y, hy⟩ : ∃ y, a.cs.getD j 0 = y := ⟨_, rfl⟩
          rw [hy] at hAt hb1 hb2
          have HAt := Lib.hid hAt
          by_cases hy0 : y = 0
          · have d3 : (y == 0) = true := by simp [hy0]
            have hno : holdA L ((i : Int) + 1) l m = ⟨0, [], 2, L⟩ := by
              unfold holdA
              rw [HE.out]
              simp only
              rw [if_neg]
              rintro ⟨-, hc, -⟩
              exact hc j hjc ⟨by omega, by omega⟩ (by rw [hy]; exact hy0)
            have HN := Lib.hid hno
            clear hr hra hAt hno hy HZ HG0
            go_wp2_with fail
            refine HAt.out.mono ?_
            rintro e w3 ⟨rfl, g3⟩
            have HR := Lib.hid (RA.same HH.out hg (grown_trans HG.out g3))
            clear g3
            go_wp2_with fail
            go_ret
            rw [HN.out]
            exact ⟨rfl, HR.out⟩
          · have d3 : (y == 0) = false := by simpa using hy0
            have HN := Lib.hid (show ∀ t, l ≤ t → t < j + 1 → a.cs.getD t 0 ≠ 0 from fun t h1 h2 => by
              by_cases e : t = j
              · rw [e, hy]; exact hy0
              · exact HZ.out t h1 (by omega))
            clear hr hra hAt hy HZ
            go_wp2_with fail
            refine HAt.out.mono ?_
            rintro e w3 ⟨rfl, g3⟩
            have HG3 := Lib.hid (grown_trans HG.out g3)
            clear g3
            go_wp2_with fail
            go_roundw
            case rel => exact ⟨j + 1, by omega, by omega, by go_num, HN, HG3⟩
            case measure => simp [intOf]; omega
        · obtain rfl : j = m := by omega
          have hadd := hold_add (lo := (l : Int)) (hi := (j : Int)) HA.out ⟨by omega, s1, by omega⟩ (fun t ht hin => HZ.out t (by have := hin.1; omega) (by have := hin.2; omega))
          have HG0 := Lib.hid HG0.out
          rw [hadd] at HG0
          have HN := Lib.hid hadd
          have HK := Lib.hid (rs_add hra.d HGA.out.cs l j 1 ⟨by omega, by omega⟩ ⟨by omega, by omega⟩ (okS (by decide) (by decide)))
          clear hr hadd HZ
          go_wp2_with fail
          refine HK.out.mono ?_
          rintro e w5 ha
          obtain ⟨u5, rfl, -, -, h5⟩ := addA_open ha
          obtain ⟨P2, ea, -, -, hb2, ht2, ho2⟩ := hra.counts rsOk h5
          have HF := Lib.hid (RA.turned HH.out HG.out HA.out hb2 ea ht2 ho2 HG0.out)
          obtain ⟨z, hz⟩ : ∃ z, (addJ a.cs l j 1).2.1 = z := ⟨_, rfl⟩
          rw [hz]
          have HZ2 := Lib.hid hz
          clear ha h5 hb2 ht2 ho2 hra hz
          go_wp2_with fail
          go_ret
          rw [HN.out]
          exact ⟨by rw [← HZ2.out]; rfl, HF.out⟩
    · rw [show holdA L ((i : Int) + 1) lo hi = ⟨0, [], 2, L⟩ by unfold holdA; rw [e]; exact if_neg fun k => hs k.1]
      have HR := Lib.hid (RA.same h hg (grown_refl w none))
      have dd : decide (lo < 0) = true ∨ (decide (lo < 0) = false ∧ decide (lo ≥ hi) = true) ∨ (decide (lo < 0) = false ∧ decide (lo ≥ hi) = false ∧ decide (hi > (a.as.length : Int)) = true) := by
        unfold spanA at hs
        simp only [decide_eq_true_eq, decide_eq_false_iff_not]
        omega
      clear h e hG hga ha ham hs
      rcases dd with d0 | ⟨d0, d1⟩ | ⟨d0, d1, d2⟩
      all_goals
        go_enter Try.func16, Try.ntmps16
        go_wp2_with fail
        refine HO.out.mono ?_
        rintro e w2 ⟨rfl, e2⟩
        subst w2
        go_wp2_with fail
        go_ret
        exact ⟨rfl, HR.out⟩
end
end Go.Proofs.Ytfmihbiongnpnaa
