/- Package frames: the lowest free frame; Take. -/
import Derived.Test.YtabgfjmfhkfbmaaFDa
namespace Go.Proofs.Ytabgfjmfhkfbmaa
open Go.ChangeShapes Go.WideShapes Go.ChangeAt Go.RowKit Go.Deep
set_option linter.unusedVariables false

theorem grown_drawsF (w : World) (n : Nat) : w.grownBy (w.drewN n) none := ⟨rfl, rfl, rfl, Nat.le_refl _, fun _ _ _ => rfl⟩
theorem eql_zero_l (w : World) (a b c d e : Int) : (binOp .eql 36 (.agg #[.int .i64 0, .int .i64 0, .int .i64 0, .int .i64 0, .int .i64 0]) (.agg #[.int .i64 a, .int .i64 b, .int .i64 c, .int .i64 d, .int .i64 e])).run Try.prog w = .ok (.bool (decide (a = 0 ∧ b = 0 ∧ c = 0 ∧ d = 0 ∧ e = 0))) w := by
  go_simp
  have k : ∀ x : Int, (0 = x) = (x = 0) := fun x => propext ⟨fun h => h.symm, fun h => h.symm⟩
  by_cases h1 : a = 0 <;> by_cases h2 : b = 0 <;> by_cases h3 : c = 0 <;> by_cases h4 : d = 0 <;> by_cases h5 : e = 0 <;> simp [h1, h2, h3, h4, h5, k]
theorem eql_zero_r (w : World) (a b c d e : Int) : (binOp .eql 36 (.agg #[.int .i64 a, .int .i64 b, .int .i64 c, .int .i64 d, .int .i64 e]) (.agg #[.int .i64 0, .int .i64 0, .int .i64 0, .int .i64 0, .int .i64 0])).run Try.prog w = .ok (.bool (decide (a = 0 ∧ b = 0 ∧ c = 0 ∧ d = 0 ∧ e = 0))) w := by
  go_simp
  by_cases h1 : a = 0 <;> by_cases h2 : b = 0 <;> by_cases h3 : c = 0 <;> by_cases h4 : d = 0 <;> by_cases h5 : e = 0 <;> simp [h1, h2, h3, h4, h5]
theorem zero_iff {x : FrV} (h : GoodF x) : (x.cl = 0 ∧ x.ow = 0 ∧ x.ix = 0 ∧ x.wi = 0 ∧ x.lo = 0) ↔ x.cl = 0 := by
  refine ⟨fun k => k.1, fun k => ?_⟩
  rw [h.free k]
  exact ⟨rfl, rfl, rfl, rfl, rfl⟩

/-- The pool as the interface has it. -/
def PP (w : World) (p : Nat) (rs : Int) (xs : List FrV) (O : List Nat) : Prop := ∃ g c, O = [p, g] ∧ FP w p rs xs g c

section
variable {w : World} {r g c : Nat} {rs : Int} {xs : List FrV}
theorem FP.stay (h : FP w r rs xs g c) : FLeft PP w w r rs [r, g] xs := ⟨[r, g], ⟨g, c, rfl, h⟩, Turn.refl _ _, fun b hb => .inl hb⟩
theorem FP.stay' {w' : World} (h : FP w r rs xs g c) (k : w.grownBy w' none) : FLeft PP w w' r rs [r, g] xs := ⟨[r, g], ⟨g, c, rfl, h.grow k⟩, Turn.grown k, fun b hb => .inl hb⟩
/-- A frame stored as a whole. -/
theorem FP.left (h : FP w r rs xs g c) (i : Nat) (y : FrV) (hi : i < xs.length) (hy : GoodF y) :
    FLeft PP w (((((w.setCell ⟨g, i * 5, none⟩ (.int .i64 y.cl)).setCell ⟨g, i * 5 + 1, none⟩ (.int .i64 y.ow)).setCell ⟨g, i * 5 + 2, none⟩ (.int .i64 y.ix)).setCell ⟨g, i * 5 + 3, none⟩ (.int .i64 y.wi)).setCell ⟨g, i * 5 + 4, none⟩ (.int .i64 y.lo)) r rs [r, g] (xs.set i y) :=
  ⟨[r, g], ⟨g, c, rfl, h.set i y hi hy⟩, ((((Turn.setCell [r, g] _ g _ _ (by simp)).trans' (Turn.setCell [r, g] _ g _ _ (by simp))).trans' (Turn.setCell [r, g] _ g _ _ (by simp))).trans' (Turn.setCell [r, g] _ g _ _ (by simp))).trans' (Turn.setCell [r, g] _ g _ _ (by simp)), fun b hb => .inl hb⟩

set_option maxHeartbeats 1000000 in
theorem idx_ok (h : FP w r rs xs g c) {k : Nat} (hk : freeAt xs = some k) :
    Calls Try.prog 33 #[.slice (some ⟨g, 0, none⟩) xs.length c, .agg #[.int .i64 0, .int .i64 0, .int .i64 0, .int .i64 0, .int .i64 0]] w fun e w' => e = .returned (.int .i64 k) ∧ w.grownBy w' none := by
  have HK := Lib.hid hk
  have ga := World.grownBy_alloc w (.cells #[.int .i64 0, .int .i64 0, .int .i64 0, .int .i64 0, .int .i64 0] 36 (0, 0)) none
  have HB := Lib.hid (FrB.new w 36 zeroF)
  have HA := Lib.hid (h.grow ga)
  have HG := Lib.hid ga
  have hl := h.len1
  have hq := eql_zero_l
  unfold zeroF at HB
  clear h ga hk
  go_enter Try.func33, Try.ntmps33
  go_wp2_with fail
  generalize hwA : w.alloc (.cells #[.int .i64 0, .int .i64 0, .int .i64 0, .int .i64 0, .int .i64 0] 36 (0, 0)) = wA at *
  go_loopw [5, 8] (fun _ iv wr => ∃ j : Nat, j ≤ xs.length ∧ iv = .int .i64 j ∧ Hid (wA.grownBy wr none) ∧ Hid (∀ (i : Nat) (z : FrV), i < j → xs[i]? = some z → z.cl ≠ 0)) (fun _ iv _ => xs.length - (intOf iv).toNat)
  case atStart => exact ⟨0, by omega, rfl, grown_refl _ _, fun i z hi => by omega⟩
  case round =>
    obtain ⟨j, hj, rfl, HGr, HN⟩ := hrel
    by_cases hlt : j < xs.length
    · obtain ⟨x, hx⟩ : ∃ x, xs[j]? = some x := ⟨_, List.getElem?_eq_getElem hlt⟩
      obtain ⟨f0, f1, f2, f3, f4⟩ := (HA.out.grow HGr.out).fr hx
      obtain ⟨b0, b1, b2, b3, b4⟩ := (show FrB wr w.heap.size 36 ⟨0, 0, 0, 0, 0⟩ from HB.out.grow HGr.out).at
      have HX := Lib.hid hx
      have hg := zero_iff (HA.out.good x (List.mem_of_getElem? hx))
      clear hx
      by_cases h0 : x.cl = 0
      · have hd : decide (x.cl = 0 ∧ x.ow = 0 ∧ x.ix = 0 ∧ x.wi = 0 ∧ x.lo = 0) = true := decide_eq_true (hg.2 h0)
        have HFA := Lib.hid (free_at HX.out h0 HN.out)
        obtain ⟨xc, xo, xi, xw, xl⟩ := x
        simp only at *
        have hr : (binOp .eql 36 (.agg #[.int .i64 0, .int .i64 0, .int .i64 0, .int .i64 0, .int .i64 0]) (.agg #[.int .i64 xc, .int .i64 xo, .int .i64 xi, .int .i64 xw, .int .i64 xl])).run Try.prog = fun wx => .ok (.bool true) wx := funext fun wx => by rw [hq, hd]
        have hr2 := fun wx => congrFun hr wx
        clear hq hd hg h0 hr
        go_wp2_with fail
        go_quiet (fail)
        go_wp2_with fail
        go_ret
        have e1 : j = k := Option.some.inj (HFA.out.symm.trans HK.out)
        subst e1
        exact ⟨rfl, grown_trans HG.out (grown_trans HGr.out (grown_drawsF _ _))⟩
      · have hd : decide (x.cl = 0 ∧ x.ow = 0 ∧ x.ix = 0 ∧ x.wi = 0 ∧ x.lo = 0) = false := decide_eq_false (fun q => h0 q.1)
        have H0 := Lib.hid h0
        obtain ⟨xc, xo, xi, xw, xl⟩ := x
        simp only at *
        have hr : (binOp .eql 36 (.agg #[.int .i64 0, .int .i64 0, .int .i64 0, .int .i64 0, .int .i64 0]) (.agg #[.int .i64 xc, .int .i64 xo, .int .i64 xi, .int .i64 xw, .int .i64 xl])).run Try.prog = fun wx => .ok (.bool false) wx := funext fun wx => by rw [hq, hd]
        have hr2 := fun wx => congrFun hr wx
        clear hq hd hg h0 hr
        go_wp2_with fail
        go_quiet (fail)
        go_wp2_with fail
        go_roundw
        case rel =>
          refine ⟨j + 1, by omega, by go_num, grown_trans HGr.out (grown_drawsF _ _), ?_⟩
          show ∀ (i : Nat) (z : FrV), i < j + 1 → xs[i]? = some z → z.cl ≠ 0
          intro i z hi hz
          by_cases e : i = j
          · subst e
            rw [HX.out] at hz
            cases hz
            exact H0.out
          · exact HN.out i z (by omega) hz
        case measure => simp [intOf]; omega
    · exfalso
      obtain rfl : j = xs.length := by omega
      have hne : freeAt xs = none := by
        unfold freeAt
        rw [List.findIdx?_eq_none_iff]
        intro z hz
        obtain ⟨i, hi⟩ := List.getElem?_of_mem hz
        have := HN.out i z (List.getElem?_eq_some_iff.1 hi).1 hi
        simpa using this
      rw [HK.out] at hne
      cases hne

theorem good_new {cl ow ix : Int} (hc : isCls cl) (ho : okI ow) (hi : okI ix) : GoodF ⟨cl, ow, ix, 0, 0⟩ :=
  ⟨by have := hc.1; show (0 : Int) ≤ cl; omega, hc.2, fun e => by have := hc.1; have : cl = 0 := e; omega, by show (0 : Int) ≤ 0; omega, by show (0 : Int) ≤ 1000000; omega, by show (0 : Int) ≤ 0; omega, by show (0 : Int) ≤ 1000000; omega, ho, hi⟩

set_option maxHeartbeats 1000000 in
theorem fr_take (h : FP w r rs xs g c) (cl ow ix : Int) (ho : okI ow) (hi : okI ix) :
    Calls Try.prog 18 #[.pointer (some ⟨r, 0, none⟩), .int .i64 cl, .int .i64 ow, .int .i64 ix] w fun e w' => e = .returned (.tuple #[.int .i64 (takeF rs xs cl ow ix).n, .int .i64 (takeF rs xs cl ow ix).e]) ∧ FLeft PP w w' r rs [r, g] (takeF rs xs cl ow ix).xs := by
  have HR := Lib.hid h
  have HM := Lib.hid (fr_made h)
  by_cases hm : isCls cl
  · have HY := Lib.hid (fr_may cl true (by rw [decide_eq_true hm]) w)
    have HC := Lib.hid (fr_free h)
    have HKp := Lib.hid (fun w' (k : w.grownBy w' none) => fr_kept (h.grow k) cl)
    obtain ⟨n, hn⟩ : ∃ n, countF xs 0 = n := ⟨_, rfl⟩
    obtain ⟨m, hm2⟩ : ∃ m, (if cl = 1 then 0 else rs) = m := ⟨_, rfl⟩
    have hn0 := (countF_le (xs := xs) 0).1
    have hr0 := h.rs0
    rw [hn] at HC hn0
    rw [hm2] at HKp
    by_cases hz : n ≤ m
    · have ha : takeF rs xs cl ow ix = ⟨0, 5, xs⟩ := by
        unfold takeF
        rw [if_neg (not_not_intro hm), if_pos]
        rw [hn]
        by_cases e : cl = 1
        · rw [if_pos e] at hm2; left; omega
        · rw [if_neg e] at hm2; right; exact ⟨e, by omega⟩
      rw [ha]
      have bz : decide (n ≤ m) = true := decide_eq_true hz
      clear h hm ha hn hm2 hn0 hr0 hz
      go_enter Try.func18, Try.ntmps18
      go_wp2_with fail
      refine HM.out.mono ?_
      rintro e w2 ⟨rfl, e2⟩
      subst w2
      go_wp2_with fail
      refine HY.out.mono ?_
      rintro e w2 ⟨rfl, e2⟩
      subst w2
      go_wp2_with fail
      refine HC.out.mono ?_
      rintro e w2 ⟨rfl, g2⟩
      have H2 := Lib.hid (HR.out.stay' g2)
      have HK2 := Lib.hid (HKp.out w2 g2)
      clear g2
      go_wp2_with fail
      refine HK2.out.mono ?_
      rintro e w3 ⟨rfl, e2⟩
      subst w3
      go_wp2_with fail
      go_ret2
      exact ⟨rfl, H2.out⟩
    · have hnz : n ≠ 0 := fun e => by
        apply hz
        by_cases e1 : cl = 1
        · rw [if_pos e1] at hm2; omega
        · rw [if_neg e1] at hm2; omega
      have hq : ¬ (n = 0 ∨ cl ≠ 1 ∧ n ≤ rs) := by
        rintro (q | ⟨q1, q2⟩)
        · exact hnz q
        · rw [if_neg q1] at hm2; omega
      have ht : takeF rs xs cl ow ix = takeAt xs cl ow ix (freeAt xs) := by
        unfold takeF
        rw [if_neg (not_not_intro hm), if_neg (by rw [hn]; exact hq)]
      obtain ⟨k, hk⟩ : ∃ k, freeAt xs = some k := by
        cases hf : freeAt xs with
        | some k => exact ⟨k, rfl⟩
        | none => exact absurd (hn.symm.trans (count_free.2 hf)) hnz
      have hklt : k < xs.length := by
        unfold freeAt at hk
        rw [List.findIdx?_eq_some_iff_getElem] at hk
        exact hk.1
      rw [hk] at ht
      have ha : takeF rs xs cl ow ix = ⟨k, 0, xs.set k ⟨cl, ow, ix, 0, 0⟩⟩ := ht
      rw [ha]
      have bz : decide (n ≤ m) = false := decide_eq_false hz
      have HI := Lib.hid (fun w' (q : w.grownBy w' none) => idx_ok (h.grow q) hk)
      have HS := Lib.hid (fun w' (q : w.grownBy w' none) => (HR.out.grow q).left k ⟨cl, ow, ix, 0, 0⟩ hklt (good_new hm ho hi))
      have hl1 := h.len1
      obtain ⟨x, hx⟩ : ∃ x, xs[k]? = some x := ⟨_, List.getElem?_eq_getElem hklt⟩
      have HX := Lib.hid hx
      clear h hm ha hn hm2 hn0 hr0 hz hk ht hq hnz ho hi hx
      go_enter Try.func18, Try.ntmps18
      go_wp2_with fail
      refine HM.out.mono ?_
      rintro e w2 ⟨rfl, e2⟩
      subst w2
      go_wp2_with fail
      refine HY.out.mono ?_
      rintro e w2 ⟨rfl, e2⟩
      subst w2
      go_wp2_with fail
      refine HC.out.mono ?_
      rintro e w2 ⟨rfl, g2⟩
      have HG2 := Lib.hid g2
      have HK2 := Lib.hid (HKp.out w2 g2)
      obtain ⟨c0, c1⟩ := (HR.out.grow g2).at
      clear g2
      go_wp2_with fail
      refine HK2.out.mono ?_
      rintro e w3 ⟨rfl, e2⟩
      subst w3
      go_wp2_with fail
      refine (HI.out _ HG2.out).mono ?_
      rintro e w4 ⟨rfl, g4⟩
      have HG4 := Lib.hid (grown_trans HG2.out g4)
      obtain ⟨d0, d1⟩ := (HR.out.grow HG4.out).at
      obtain ⟨f0, f1, f2, f3, f4⟩ := (HR.out.grow HG4.out).fr HX.out
      obtain ⟨cur, hcur, _⟩ := (HR.out.grow HG4.out).cur
      have z0 := frozen_of_row w4 g (k * 5) _ _ hcur
      have z1 := frozen_of_row w4 g (k * 5 + 1) _ _ hcur
      have z2 := frozen_of_row w4 g (k * 5 + 2) _ _ hcur
      have z3 := frozen_of_row w4 g (k * 5 + 3) _ _ hcur
      have z4 := frozen_of_row w4 g (k * 5 + 4) _ _ hcur
      clear g4 hcur
      go_wp2_with fail
      go_ret2
      obtain ⟨O', p1, p2, p3⟩ := HS.out w4 HG4.out
      exact ⟨rfl, O', p1, (Turn.grown HG4.out).trans' p2, fun b hb => (p3 b hb).imp id fun q => Nat.le_trans HG4.out.size q⟩
  · have HY := Lib.hid (fr_may cl false (by rw [decide_eq_false hm]) w)
    have ha : takeF rs xs cl ow ix = ⟨0, 2, xs⟩ := by
      unfold takeF
      rw [if_pos hm]
    rw [ha]
    clear h hm ha
    go_enter Try.func18, Try.ntmps18
    go_wp2_with fail
    refine HM.out.mono ?_
    rintro e w2 ⟨rfl, e2⟩
    subst w2
    go_wp2_with fail
    refine HY.out.mono ?_
    rintro e w2 ⟨rfl, e2⟩
    subst w2
    go_wp2_with fail
    go_ret2
    exact ⟨rfl, HR.out.stay⟩
end
end Go.Proofs.Ytabgfjmfhkfbmaa
