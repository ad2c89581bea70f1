/- Layer 16 (landed): the map in memory; New, At, Entries, what is near a range, what may be asked. Layer 16 (landed): At, moved, size. Layer 16 (landed): moved, size. -/
import Derived.Test.YtefiiooibbkffaaGreatEyCut
import Derived.Test.YtefiiooibbkffaaGreatEyDc
import Derived.Test.YtefiiooibbkffaaGreatEyDw
import Derived.Test.YtefiiooibbkffaaGreatEyMerge
import Derived.Test.YtefiiooibbkffaaGreatEyGood
import Derived.Test.YtefiiooibbkffaaGreatVmpRepB
import Derived.Test.YtefiiooibbkffaaGreatVmpPlace
import Derived.Test.YtefiiooibbkffaaGreatEyDd
import Derived.Laws.ResultCell
namespace Go.Proofs.YtefiiooibbkffaaGreat
open Go.ChangeShapes Go.WideShapes Go.ChangeAt Go.RowKit Go.Deep
set_option linter.unusedVariables false
set_option linter.unusedSimpArgs false

/-- The landed map in memory: block r, its list v in blocks of its own behind it. -/
structure VM (w : World) (r : Nat) (v : Value) (L : List En) : Prop where
  head : w.heap[r]? = some (.cells #[v, .bool true] 164 (0, 0))
  own : EOwn w (r + 1) v L
section
variable {w w' : World} {r : Nat} {v : Value} {L : List En}
theorem VM.lt (h : VM w r v L) : r < w.heap.size := (Array.getElem?_eq_some_iff.1 h.head).1
theorem VM.at0 (h : VM w r v L) : w.cell? ⟨r, 0, none⟩ = some v := by rw [cell_of_row _ _ _ _ _ _ h.head]; rfl
theorem VM.at1 (h : VM w r v L) : w.cell? ⟨r, 1, none⟩ = some (.bool true) := by rw [cell_of_row _ _ _ _ _ _ h.head]; rfl
theorem VM.frozen (h : VM w r v L) : w.frozen? ⟨r, 0, none⟩ = false := frozen_of_row _ _ _ _ _ h.head
theorem VM.grow (h : VM w r v L) (g : w.grownBy w' none) : VM w' r v L := ⟨(g.block _ h.lt (by simp)).trans h.head, OwnOf.grow h.own g⟩
theorem VM.turn {O : List Nat} (h : VM w r v L) (t : Turn O w w') (hr : r ∉ O) (hv : ∀ b, v.ownBlock = some b → b ∉ O) : VM w' r v L := ⟨(t.block _ h.lt hr).trans h.head, OwnOf.kept h.own fun b hb => t.block b (OwnOf.lt h.own hb).2 (hv b hb)⟩
theorem VM.row (h : VM w r v L) : ERow w v L := eown_row h.own
theorem VM.ec (h : VM w r v L) : EC w v L := EOwn.ec h.own
theorem VM.form (h : VM w r v L) : ∃ a c, v = .slice a L.length c := OwnOf.form h.own
theorem VM.ne (h : VM w r v L) {b : Nat} (hb : v.ownBlock = some b) : b ≠ r := by have := (OwnOf.lt h.own hb).1; omega
/-- The map has another list. -/
theorem VM.put {u : Value} {M : List En} (h : w.heap[r]? = some (.cells #[v, .bool true] 164 (0, 0))) (hu : EOwn w (r + 1) u M) : VM (w.setCell ⟨r, 0, none⟩ u) r u M := by
  have ho : ∀ b, b ≠ r → (w.setCell ⟨r, 0, none⟩ u).heap[b]? = w.heap[b]? := fun b hb => heap_setCell_other w ⟨r, 0, none⟩ b _ (by first | exact hb | exact hb.symm)
  exact ⟨heap_setCell_same w r 0 _ _ u h, OwnOf.kept hu fun g hg => ho g fun e => by have := (OwnOf.lt hu hg).1; omega⟩
end
theorem new_ok (w : World) : Calls Tryz.prog 64 #[] w fun e w' => e = .returned (.pointer (some ⟨w.heap.size, 0, none⟩)) ∧ VM w' w.heap.size (.slice none 0 0) [] ∧ w.grownBy w' none := by
  have HV := Lib.hid (show VM (w.alloc (.cells #[.slice none 0 0, .bool true] 164)) w.heap.size (.slice none 0 0) [] from ⟨heap_alloc_new w _, OwnOf.nil _ _⟩)
  have HG := Lib.hid (World.grownBy_alloc w (.cells #[.slice none 0 0, .bool true] 164) none)
  go_enter Tryz.func64, Tryz.ntmps64
  go_wp2_with fail
  go_ret
  exact ⟨rfl, HV.out, HG.out⟩
theorem made_ok {w : World} {r : Nat} {v : Value} {L : List En} (h : VM w r v L) : Calls Tryz.prog 111 #[.pointer (some ⟨r, 0, none⟩)] w fun e w' => e = .returned (.bool true) ∧ w' = w := by
  have c1 := h.at1
  clear h
  go_enter Tryz.func111, Tryz.ntmps111
  go_wp2_with fail
  go_ret
  exact ⟨rfl, rfl⟩
theorem mayBe_ok (w : World) (lo n : Int) (ho : okI lo) (hn : okI n) : Calls Tryz.prog 151 #[.int .i64 lo, .int .i64 n] w fun e w' => e = .returned (.bool (rangeV lo n)) ∧ w' = w := by
  obtain ⟨o0, o1⟩ := ho
  obtain ⟨n0, n1⟩ := hn
  by_cases k1 : lo ≥ 0
  · have b1 : decide (lo ≥ 0) = true := decide_eq_true k1
    by_cases k2 : n ≥ 1
    · have b2 : decide (n ≥ 1) = true := decide_eq_true k2
      by_cases k3 : n ≤ 4096
      · have b3 : decide (n ≤ 4096) = true := decide_eq_true k3
        obtain ⟨d, hd⟩ : ∃ d, decide (lo ≤ 67108864 - n) = d := ⟨_, rfl⟩
        have e : rangeV lo n = d := by unfold rangeV; rw [← hd, decide_eq_decide]; omega
        rw [e]
        clear e
        go_enter Tryz.func151, Tryz.ntmps151
        go_wp2_with fail
        go_ret
        exact ⟨rfl, rfl⟩
      · have b3 : decide (n ≤ 4096) = false := decide_eq_false k3
        have e : rangeV lo n = false := by unfold rangeV; exact decide_eq_false (by omega)
        rw [e]
        clear e
        go_enter Tryz.func151, Tryz.ntmps151
        go_wp2_with fail
        go_ret
        exact ⟨rfl, rfl⟩
    · have b2 : decide (n ≥ 1) = false := decide_eq_false k2
      have e : rangeV lo n = false := by unfold rangeV; exact decide_eq_false (by omega)
      rw [e]
      clear e
      go_enter Tryz.func151, Tryz.ntmps151
      go_wp2_with fail
      go_ret
      exact ⟨rfl, rfl⟩
  · have b1 : decide (lo ≥ 0) = false := decide_eq_false k1
    have e : rangeV lo n = false := by unfold rangeV; exact decide_eq_false (by omega)
    rw [e]
    clear e
    go_enter Tryz.func151, Tryz.ntmps151
    go_wp2_with fail
    go_ret
    exact ⟨rfl, rfl⟩
theorem asked_ok {w : World} {r : Nat} {v : Value} {L : List En} (h : VM w r v L) (lo n : Int) (ho : okI lo) (hn : okI n) (may : Bool) :
    Calls Tryz.prog 156 #[.pointer (some ⟨r, 0, none⟩), .int .i64 lo, .int .i64 n, .bool may] w fun e w' => e = .returned (.int .i64 (if (may && rangeV lo n) = true then 0 else 2)) ∧ w' = w := by
  have HM := Lib.hid (made_ok h)
  have HB := Lib.hid (mayBe_ok w lo n ho hn)
  obtain ⟨d, hd⟩ : ∃ d, rangeV lo n = d := ⟨_, rfl⟩
  rw [hd] at HB ⊢
  clear h ho hn hd
  cases may with
  | false =>
    go_enter Tryz.func156, Tryz.ntmps156
    go_wp2_with fail
    refine HM.out.mono ?_
    rintro e w1 ⟨rfl, e1⟩
    subst e1
    go_wp2_with fail
    go_ret
    exact ⟨rfl, rfl⟩
  | true =>
    cases d <;>
    · go_enter Tryz.func156, Tryz.ntmps156
      go_wp2_with fail
      refine HM.out.mono ?_
      rintro e w1 ⟨rfl, e1⟩
      subst e1
      go_wp2_with fail
      refine HB.out.mono ?_
      rintro e w1 ⟨rfl, e1⟩
      subst e1
      go_wp2_with fail
      go_ret
      exact ⟨rfl, rfl⟩
theorem entries_ok {w : World} {r : Nat} {v : Value} {L : List En} (h : VM w r v L) (hl : L.length ≤ 1000000) : Calls Tryz.prog 60 #[.pointer (some ⟨r, 0, none⟩)] w fun e w' => ∃ u, e = .returned u ∧ EOwn w' w.heap.size u L ∧ w.grownBy w' none := by
  have HM := Lib.hid (made_ok h)
  have HC := Lib.hid (clone_ok h.ec hl)
  have c0 := h.at0
  clear h hl
  go_enter Tryz.func60, Tryz.ntmps60
  go_wp2_with fail
  refine HM.out.mono ?_
  rintro e w1 ⟨rfl, e1⟩
  subst e1
  go_wp2_with fail
  refine HC.out.mono ?_
  rintro e w2 ⟨u, rfl, k1, k2⟩
  have H1 := Lib.hid k1
  have H2 := Lib.hid k2
  clear k1 k2
  go_wp2_with fail
  go_ret
  exact ⟨_, rfl, H1.out, H2.out⟩
theorem near_ok {w : World} {r : Nat} {v : Value} {L : List En} (h : VM w r v L) (hr : RF 0 L) (hl : L.length ≤ 100000) (lo hi : Int) (h0 : 0 ≤ lo) (h1 : lo ≤ 67108864) :
    Calls Tryz.prog 184 #[.pointer (some ⟨r, 0, none⟩), .int .i64 lo, .int .i64 hi] w fun e w' => e = .returned (.tuple #[.int .i64 (nearF L lo), .int .i64 (nearB L hi)]) ∧ w.grownBy w' none := by
  obtain ⟨a, c, hv⟩ := h.form
  subst hv
  obtain ⟨k1, hk1⟩ : ∃ k, findK L (lo - 1) = k := ⟨_, rfl⟩
  obtain ⟨k2, hk2⟩ : ∃ k, findK L hi = k := ⟨_, rfl⟩
  obtain ⟨d1, hd1⟩ : ∃ d, hasB L (lo - 1) = d := ⟨_, rfl⟩
  obtain ⟨d2, hd2⟩ : ∃ d, hasB L hi = d := ⟨_, rfl⟩
  have HF1 := Lib.hid (find_ok c h.row hr (by omega) (lo - 1) k1 hk1 d1 hd1)
  have HF2 := Lib.hid (fun W (g : w.grownBy W none) => find_ok c (erow_grow h.row g) hr (by omega) hi k2 hk2 d2 hd2)
  have e1 : nearF L lo = k1 := hk1
  have e2 : nearB L hi = if d2 = true then k2 + 1 else k2 := by unfold nearB; rw [hd2, hk2]
  rw [e1, e2]
  have hk : k2 ≤ 100000 := by rw [← hk2]; exact Nat.le_trans (findK_le _ _) hl
  have c0 := h.at0
  have HH := Lib.hid h
  clear h hr hl hk1 hk2 hd1 hd2 e1 e2
  cases d2 <;>
  · go_enter Tryz.func184, Tryz.ntmps184
    go_wp2_with fail
    refine HF1.out.mono ?_
    rintro e w2 ⟨rfl, g2⟩
    have HG2 := Lib.hid g2
    have c2 := (HH.out.grow g2).at0
    have HA := Lib.hid (HF2.out w2 g2)
    clear g2
    go_wp2_with fail
    refine HA.out.mono ?_
    rintro e w3 ⟨rfl, g3⟩
    have HG3 := Lib.hid (grown_trans HG2.out g3)
    clear g3
    go_wp2_with fail
    go_ret2
    exact ⟨rfl, HG3.out⟩
end Go.Proofs.YtefiiooibbkffaaGreat

namespace Go.Proofs.YtefiiooibbkffaaGreat
open Go.ChangeShapes Go.WideShapes Go.ChangeAt Go.RowKit Go.Deep
set_option linter.unusedVariables false
set_option linter.unusedSimpArgs false

def atE (L : List En) (pg : Int) : En := (atV L pg).getD zeroE
theorem at_find {L : List En} {pg : Int} {x : En} (h : atV L pg = some x) : hasB L pg = true ∧ L[findK L pg]? = some x := ⟨by rw [at_has, h]; rfl, (at_mem h).1⟩
theorem results_row_tmp {P : Program} {fn : Func} {p u : Tmp} {ty : TypeId} (h : fn.results = #[.cell p ty, .tmp u]) (tmps : Array Value) (w : World) (g : Nat) (t : TypeId) (cs : Array Value) (fr : Nat × Nat) (d : TypeDesc)
    (hp : tmps.getD p undef = .pointer (some ⟨g, 0, none⟩)) (hg : w.heap[g]? = some (.cells cs t fr))
    (hu : P.underlying ty = some d) (hd : (match d with | .struct _ | .array _ _ => true | _ => false) = true) (hi : (P.info? ty).map (·.size) = some cs.size) :
    (results fn tmps).run P w = .ok (.tuple #[.agg cs, tmps.getD u undef]) w := by
  have hp' : tmps[p]?.getD undef = .pointer (some ⟨g, 0, none⟩) := by simpa using hp
  simp [results, h, hp', asAddr, run_loadVar_row w g t ty cs fr d hg hu hd hi]
/-- A box, all ten cells stored. -/
def set10 (w : World) (y : Nat) (x : En) : World :=
  (((((((((w.setCell ⟨y, 0, none⟩ (.int .i64 x.s)).setCell ⟨y, 1, none⟩ (.int .i64 x.e)).setCell ⟨y, 2, none⟩ (.int .i64 x.f)).setCell ⟨y, 3, none⟩ (.int .i64 x.o)).setCell ⟨y, 4, none⟩ (.bool x.sh)).setCell ⟨y, 5, none⟩ (.int .i64 x.p)).setCell ⟨y, 6, none⟩ (.int .i64 x.m)).setCell ⟨y, 7, none⟩ (.int .i64 x.i)).setCell ⟨y, 8, none⟩ (.int .i64 x.a)).setCell ⟨y, 9, none⟩ (.bool x.wi)
theorem set10_box {w : World} {y : Nat} {z : En} (h : EnB w y z) (x : En) : EnB (set10 w y x) y x := by
  unfold set10
  have h1 := heap_setCell_same w y 0 _ _ (.int .i64 x.s) h
  simp only [List.setIfInBounds_toArray, List.set_cons_zero, List.set_cons_succ] at h1
  have h2 := heap_setCell_same _ y 1 _ _ (.int .i64 x.e) h1
  simp only [List.setIfInBounds_toArray, List.set_cons_zero, List.set_cons_succ] at h2
  have h3 := heap_setCell_same _ y 2 _ _ (.int .i64 x.f) h2
  simp only [List.setIfInBounds_toArray, List.set_cons_zero, List.set_cons_succ] at h3
  have h4 := heap_setCell_same _ y 3 _ _ (.int .i64 x.o) h3
  simp only [List.setIfInBounds_toArray, List.set_cons_zero, List.set_cons_succ] at h4
  have h5 := heap_setCell_same _ y 4 _ _ (.bool x.sh) h4
  simp only [List.setIfInBounds_toArray, List.set_cons_zero, List.set_cons_succ] at h5
  have h6 := heap_setCell_same _ y 5 _ _ (.int .i64 x.p) h5
  simp only [List.setIfInBounds_toArray, List.set_cons_zero, List.set_cons_succ] at h6
  have h7 := heap_setCell_same _ y 6 _ _ (.int .i64 x.m) h6
  simp only [List.setIfInBounds_toArray, List.set_cons_zero, List.set_cons_succ] at h7
  have h8 := heap_setCell_same _ y 7 _ _ (.int .i64 x.i) h7
  simp only [List.setIfInBounds_toArray, List.set_cons_zero, List.set_cons_succ] at h8
  have h9 := heap_setCell_same _ y 8 _ _ (.int .i64 x.a) h8
  simp only [List.setIfInBounds_toArray, List.set_cons_zero, List.set_cons_succ] at h9
  have h10 := heap_setCell_same _ y 9 _ _ (.bool x.wi) h9
  simp only [List.setIfInBounds_toArray, List.set_cons_zero, List.set_cons_succ] at h10
  exact h10
theorem set10_grown (w : World) (y : Nat) (x : En) : w.grownBy (set10 w y x) (some y) := by
  unfold set10
  exact grown_trans (grown_trans (grown_trans (grown_trans (grown_trans (grown_trans (grown_trans (grown_trans (grown_trans (grown_set _ _ _ _) (grown_set _ _ _ _)) (grown_set _ _ _ _)) (grown_set _ _ _ _)) (grown_set _ _ _ _)) (grown_set _ _ _ _)) (grown_set _ _ _ _)) (grown_set _ _ _ _)) (grown_set _ _ _ _)) (grown_set _ _ _ _)
set_option maxHeartbeats 2000000 in
theorem at_ok {w : World} {r : Nat} {v : Value} {L : List En} (h : VM w r v L) (hr : RF 0 L) (hl : L.length ≤ 100000) (pg : Int) (x : En) (hx : atE L pg = x) (d : Bool) (hd : (atV L pg).isSome = d) :
    Calls Tryz.prog 109 #[.pointer (some ⟨r, 0, none⟩), .int .i64 pg] w fun e w' => e = .returned (.tuple #[.agg #[.int .i64 x.s, .int .i64 x.e, .int .i64 x.f, .int .i64 x.o, .bool x.sh, .int .i64 x.p, .int .i64 x.m, .int .i64 x.i, .int .i64 x.a, .bool x.wi], .bool d]) ∧ w.grownBy w' none := by
  obtain ⟨a, c, hv⟩ := h.form
  subst hv
  obtain ⟨k, hk⟩ : ∃ k, findK L pg = k := ⟨_, rfl⟩
  have hhd : hasB L pg = d := by rw [at_has]; exact hd
  have hg1 := World.grownBy_alloc w (.cells #[.int .i64 zeroE.s, .int .i64 zeroE.e, .int .i64 zeroE.f, .int .i64 zeroE.o, .bool zeroE.sh, .int .i64 zeroE.p, .int .i64 zeroE.m, .int .i64 zeroE.i, .int .i64 zeroE.a, .bool zeroE.wi] 50) none
  have HG1 := Lib.hid hg1
  have HB := Lib.hid (EnB.new w zeroE)
  have HM := Lib.hid (made_ok (h.grow hg1))
  have HF := Lib.hid (find_ok c (h.grow hg1).row hr (by omega) pg k hk d hhd)
  have HH := Lib.hid h
  have c0 := (h.grow hg1).at0
  unfold zeroE at HM HF c0 HG1
  cases d with
  | false =>
    have hx0 : x = zeroE := by
      rw [← hx]
      unfold atE
      cases e : atV L pg with
      | none => rfl
      | some y => rw [e] at hd; cases hd
    subst hx0
    clear h hr hl hk hd hhd hx hg1
    go_enter Tryz.func109, Tryz.ntmps109
    go_wp2_with fail
    refine HM.out.mono ?_
    rintro e w1 ⟨rfl, e1⟩
    subst e1
    go_wp2_with fail
    refine HF.out.mono ?_
    rintro e w2 ⟨rfl, g2⟩
    have hb := HB.out.grow g2
    have HB2 := Lib.hid (set10_box hb zeroE)
    have HG2 := Lib.hid (grown_at (grown_trans HG1.out g2) (set10_grown w2 w.heap.size zeroE) (Nat.le_refl _))
    obtain ⟨q0, q1, q2, q3, q4, q5, q6, q7, q8, q9⟩ := hb.all
    have hf := hb.frozen
    clear g2 hb
    unfold set10 zeroE at HB2 HG2
    unfold zeroE at q0 q1 q2 q3 q4 q5 q6 q7 q8 q9
    go_wp2_with fail
    refine bodyPost_ret (results_row_tmp rfl _ _ w.heap.size _ _ (0, 0) _ rfl HB2.out Tryz.underlying50 (by kernel_rfl) (by kernel_rfl)) rfl ?_
    exact ⟨rfl, HG2.out⟩
  | true =>
    obtain ⟨y, hy⟩ : ∃ y, atV L pg = some y := Option.isSome_iff_exists.1 hd
    have hxy : y = x := by rw [← hx]; unfold atE; rw [hy]; rfl
    subst hxy
    have hLk := (at_find hy).2
    rw [hk] at hLk
    have hkl : k < L.length := (List.getElem?_eq_some_iff.1 hLk).1
    have HLk := Lib.hid hLk
    clear hr hk hd hhd hx hg1 hy hLk
    go_enter Tryz.func109, Tryz.ntmps109
    go_wp2_with fail
    refine HM.out.mono ?_
    rintro e w1 ⟨rfl, e1⟩
    subst e1
    go_wp2_with fail
    refine HF.out.mono ?_
    rintro e w2 ⟨rfl, g2⟩
    have hb := HB.out.grow g2
    have HB2 := Lib.hid (set10_box hb y)
    have HG2 := Lib.hid (grown_at (grown_trans HG1.out g2) (set10_grown w2 w.heap.size y) (Nat.le_refl _))
    obtain ⟨q0, q1, q2, q3, q4, q5, q6, q7, q8, q9⟩ := hb.all
    have hf := hb.frozen
    have c2 := (HH.out.grow (grown_trans HG1.out g2)).at0
    obtain ⟨g, o, c3, hv1, ka0, ka1, ka2, ka3, ka4, ka5, ka6, ka7, ka8, ka9⟩ := en_cells (HH.out.grow (grown_trans HG1.out g2)).row HLk.out
    injection hv1 with e1 e2 e3
    subst e1 e3
    clear g2 hb h
    unfold set10 at HB2 HG2
    unfold zeroE at q0 q1 q2 q3 q4 q5 q6 q7 q8 q9
    go_wp2_with fail
    refine bodyPost_ret (results_row_tmp rfl _ _ w.heap.size _ _ (0, 0) _ rfl HB2.out Tryz.underlying50 (by kernel_rfl) (by kernel_rfl)) rfl ?_
    exact ⟨rfl, HG2.out⟩
end Go.Proofs.YtefiiooibbkffaaGreat

namespace Go.Proofs.YtefiiooibbkffaaGreat
open Go.ChangeShapes Go.WideShapes Go.ChangeAt Go.RowKit Go.Deep
set_option linter.unusedVariables false
set_option linter.unusedSimpArgs false

/-- An entry of so many pages at another page. -/
def putAt (x : En) (a n : Int) : En := ⟨a, a + n, x.f, x.o, x.sh, x.p, x.m, x.i, x.a, x.wi⟩
theorem putAt_move (x : En) (a : Int) : putAt x a (x.e - x.s) = moveE x a := rfl
/-- An entry whose numbers are a machine's. -/
structure OkN (x : En) : Prop where
  s : okI x.s
  e : okI x.e
  ok : OkE x
theorem okN_put {x : En} (h : OkE x) (a n : Int) : OkE (putAt x a n) := ⟨h.p, h.m⟩
set_option maxHeartbeats 2000000 in
theorem moved_w (x : En) (a n : Int) (h0 : 0 ≤ a) (h1 : a ≤ 67108864) (h2 : 0 ≤ n) (h3 : n ≤ 4096) (w : World) : Calls Tryz.prog 154 #[.agg #[.int .i64 x.s, .int .i64 x.e, .int .i64 x.f, .int .i64 x.o, .bool x.sh, .int .i64 x.p, .int .i64 x.m, .int .i64 x.i, .int .i64 x.a, .bool x.wi], .int .i64 a, .int .i64 n] w fun e w' => e = .returned (.agg #[.int .i64 (putAt x a n).s, .int .i64 (putAt x a n).e, .int .i64 (putAt x a n).f, .int .i64 (putAt x a n).o, .bool (putAt x a n).sh, .int .i64 (putAt x a n).p, .int .i64 (putAt x a n).m, .int .i64 (putAt x a n).i, .int .i64 (putAt x a n).a, .bool (putAt x a n).wi]) ∧ w' = (w.alloc (.cells #[.int .i64 (putAt x a n).s, .int .i64 (putAt x a n).e, .int .i64 (putAt x a n).f, .int .i64 (putAt x a n).o, .bool (putAt x a n).sh, .int .i64 (putAt x a n).p, .int .i64 (putAt x a n).m, .int .i64 (putAt x a n).i, .int .i64 (putAt x a n).a, .bool (putAt x a n).wi] 50)).alloc (.cells #[.int .i64 (putAt x a n).s, .int .i64 (putAt x a n).e, .int .i64 (putAt x a n).f, .int .i64 (putAt x a n).o, .bool (putAt x a n).sh, .int .i64 (putAt x a n).p, .int .i64 (putAt x a n).m, .int .i64 (putAt x a n).i, .int .i64 (putAt x a n).a, .bool (putAt x a n).wi] 50) := by
  obtain ⟨s, e, f, o, sh, p, m, i, aa, wi⟩ := x
  unfold putAt
  simp only
  go_enter Tryz.func154, Tryz.ntmps154
  go_wp2_with fail
  refine bodyPost_ret (results_cell_row rfl _ _ (w.heap.size + 1) _ #[.int .i64 a, .int .i64 (a + n), .int .i64 f, .int .i64 o, .bool sh, .int .i64 p, .int .i64 m, .int .i64 i, .int .i64 aa, .bool wi] (0, 0) _ rfl (heap_second w _ _) Tryz.underlying50 (by kernel_rfl) (by kernel_rfl)) rfl ?_
  exact ⟨rfl, rfl⟩
theorem moved_ok (x : En) (a n : Int) (h0 : 0 ≤ a) (h1 : a ≤ 67108864) (h2 : 0 ≤ n) (h3 : n ≤ 4096) (w : World) : Calls Tryz.prog 154 #[.agg #[.int .i64 x.s, .int .i64 x.e, .int .i64 x.f, .int .i64 x.o, .bool x.sh, .int .i64 x.p, .int .i64 x.m, .int .i64 x.i, .int .i64 x.a, .bool x.wi], .int .i64 a, .int .i64 n] w fun e w' => e = .returned (.agg #[.int .i64 (putAt x a n).s, .int .i64 (putAt x a n).e, .int .i64 (putAt x a n).f, .int .i64 (putAt x a n).o, .bool (putAt x a n).sh, .int .i64 (putAt x a n).p, .int .i64 (putAt x a n).m, .int .i64 (putAt x a n).i, .int .i64 (putAt x a n).a, .bool (putAt x a n).wi]) ∧ w.grownBy w' none :=
  (moved_w x a n h0 h1 h2 h3 w).mono fun e w' ⟨he, hw⟩ => ⟨he, by rw [hw]; exact grown_trans (World.grownBy_alloc _ _ _) (World.grownBy_alloc _ _ _)⟩
/-- What size answers: how many pages (whatever they are, if it may not be mapped). -/
def sizeB (x : En) : Bool := sizedB x && goodB (moveE x 0)
set_option maxHeartbeats 4000000 in
theorem size_ok (x : En) (hx : OkN x) (w : World) : Calls Tryz.prog 150 #[.agg #[.int .i64 x.s, .int .i64 x.e, .int .i64 x.f, .int .i64 x.o, .bool x.sh, .int .i64 x.p, .int .i64 x.m, .int .i64 x.i, .int .i64 x.a, .bool x.wi]] w fun e w' => ∃ n, e = .returned (.tuple #[.int .i64 n, .bool (sizeB x)]) ∧ okI n ∧ (sizeB x = true → n = x.e - x.s) ∧ w.grownBy w' none := by
  obtain ⟨⟨s0, s1⟩, ⟨e0, e1⟩, hok⟩ := hx
  have HB := Lib.hid (EnB.new w x)
  have HG1 := Lib.hid (World.grownBy_alloc w (.cells #[.int .i64 x.s, .int .i64 x.e, .int .i64 x.f, .int .i64 x.o, .bool x.sh, .int .i64 x.p, .int .i64 x.m, .int .i64 x.i, .int .i64 x.a, .bool x.wi] 50) none)
  by_cases k1 : x.s < 0
  · have b1 : decide (x.s < 0) = true := decide_eq_true k1
    have e : sizeB x = false := by unfold sizeB sizedB; rw [decide_eq_false (by omega)]; rfl
    rw [e]
    clear e hok HB
    go_enter Tryz.func150, Tryz.ntmps150
    go_wp2_with fail
    go_ret2
    refine ⟨_, rfl, ⟨by omega, by omega⟩, ?_⟩
    first | exact HG1.out | exact ⟨fun h => (Bool.noConfusion h), HG1.out⟩
  · have b1 : decide (x.s < 0) = false := decide_eq_false k1
    by_cases k2 : x.s ≥ x.e
    · have b2 : decide (x.s ≥ x.e) = true := decide_eq_true k2
      have e : sizeB x = false := by unfold sizeB sizedB; rw [decide_eq_false (by omega)]; rfl
      rw [e]
      clear e hok HB
      go_enter Tryz.func150, Tryz.ntmps150
      go_wp2_with fail
      go_ret2
      refine ⟨_, rfl, ⟨by omega, by omega⟩, ?_⟩
      first | exact HG1.out | exact ⟨fun h => (Bool.noConfusion h), HG1.out⟩
    · have b2 : decide (x.s ≥ x.e) = false := decide_eq_false k2
      have hw : IntKind.i64.wrap (x.e - x.s) = x.e - x.s := by rw [IntKind.wrap_i64]; omega
      obtain ⟨n, hn⟩ : ∃ n, x.e - x.s = n := ⟨_, rfl⟩
      by_cases k3 : n ≤ 4096
      · have b3 : decide (n ≤ 4096) = true := decide_eq_true k3
        have e : sizeB x = goodB (putAt x 0 n) := by unfold sizeB sizedB; rw [decide_eq_true (by omega), ← hn, putAt_move]; rfl
        rw [e]
        have HM := Lib.hid (fun W => moved_ok x 0 n (by omega) (by omega) (by omega) k3 W)
        have HGd := Lib.hid (fun W => good_ok (putAt x 0 n) (okN_put hok 0 n) W)
        obtain ⟨d, hd⟩ : ∃ d, goodB (putAt x 0 n) = d := ⟨_, rfl⟩
        rw [hd] at HGd ⊢
        have hnn : okI n := ⟨by omega, by omega⟩
        have HNn := Lib.hid hn
        clear e hok HB hd
        go_enter Tryz.func150, Tryz.ntmps150
        rw [hn] at hw
        go_wp2_with fail
        refine (HM.out _).mono ?_
        rintro e w2 ⟨rfl, g2⟩
        have HG2 := Lib.hid (grown_trans HG1.out g2)
        clear g2
        go_wp2_with fail
        refine (HGd.out _).mono ?_
        rintro e w3 ⟨rfl, g3⟩
        have HG3 := Lib.hid (grown_trans HG2.out g3)
        clear g3
        go_wp2_with fail
        go_ret2
        exact ⟨_, rfl, hnn, fun _ => HNn.out.symm, HG3.out⟩
      · have b3 : decide (n ≤ 4096) = false := decide_eq_false k3
        have e : sizeB x = false := by unfold sizeB sizedB; rw [decide_eq_false (by omega)]; rfl
        rw [e]
        have hnn : okI n := ⟨by omega, by omega⟩
        clear e hok HB
        go_enter Tryz.func150, Tryz.ntmps150
        rw [hn] at hw
        go_wp2_with fail
        go_ret2
        refine ⟨_, rfl, hnn, ?_⟩
        first | exact HG1.out | exact ⟨fun h => (Bool.noConfusion h), HG1.out⟩
end Go.Proofs.YtefiiooibbkffaaGreat
