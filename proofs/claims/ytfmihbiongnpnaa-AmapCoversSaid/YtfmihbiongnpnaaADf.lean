/- Package amap (landed): Copy. -/
import Derived.Test.YtfmihbiongnpnaaADe
import Derived.Test.YtfmihbiongnpnaaACopyS
namespace Go.Proofs.Ytfmihbiongnpnaa
open Go.ChangeShapes Go.WideShapes Go.ChangeAt Go.RowKit Go.Deep
set_option linter.unusedVariables false
attribute [local go_sem] Oper.semAt_some

def writeU {k : Nat} (l : List Int) (pre : List (UI k)) : List Int := pre.foldl (fun l x => l.set x.1.i.toNat x.1.n) l
def outU {k : Nat} (pre : List (UI k)) : List Int := pre.map (·.1.n)
section
variable {zs l : List Int} {n k j : Nat} {pre : List (UI k)} {x : UI k}
theorem writeU_snoc : writeU l (pre ++ [x]) = (writeU l pre).set x.1.i.toNat x.1.n := by unfold writeU; rw [List.foldl_append]; rfl
theorem outU_snoc : outU (pre ++ [x]) = outU pre ++ [x.1.n] := by unfold outU; rw [List.map_append]; rfl
theorem writeU_len : (writeU l pre).length = l.length := by
  unfold writeU
  induction pre generalizing l with
  | nil => rfl
  | cons y pre ih => rw [List.foldl_cons, ih, List.length_set]
theorem writeU_at (h : n ≤ zs.length) : (writeU (List.replicate zs.length 0) (uTo zs n)).getD j 0 = if j < n then zs.getD j 0 else 0 := by
  induction n generalizing j with
  | zero =>
    rw [if_neg (by omega)]
    show (List.replicate zs.length (0 : Int)).getD j 0 = 0
    rw [List.getD_eq_getElem?_getD, List.getElem?_replicate]
    split <;> rfl
  | succ n ih =>
    have ih := fun j => ih (j := j) (by omega)
    by_cases h0 : zs.getD n 0 = 0
    · rw [uTo_skip h0, ih]
      by_cases e : j = n
      · subst e
        rw [if_neg (by omega), if_pos (by omega), h0]
      · by_cases e2 : j < n
        · rw [if_pos e2, if_pos (by omega)]
        · rw [if_neg e2, if_neg (by omega)]
    · rw [uTo_more (by omega) h0, writeU_snoc, getD_set_int, ih, writeU_len, List.length_replicate]
      simp only [Int.toNat_natCast]
      by_cases e : n = j
      · subst e
        rw [if_pos ⟨rfl, by omega⟩, if_pos (by omega)]
      · rw [if_neg (fun k => e k.1)]
        by_cases e2 : j < n
        · rw [if_pos e2, if_pos (by omega)]
        · rw [if_neg e2, if_neg (by omega)]
theorem writeU_all : writeU (List.replicate zs.length 0) (uAll zs) = zs := by
  refine list_getD_ext (by rw [writeU_len, List.length_replicate]) fun i hi => ?_
  rw [writeU_len, List.length_replicate] at hi
  unfold uAll
  rw [writeU_at (Nat.le_refl _), if_pos hi]
theorem outU_to (h : n ≤ zs.length) : outU (uTo zs n) = (zs.take n).filter fun x => x != 0 := by
  induction n with
  | zero => rfl
  | succ n ih =>
    have ih := ih (by omega)
    rw [List.take_add_one, List.getElem?_eq_getElem (by omega), List.filter_append, ← ih]
    have hz : zs.getD n 0 = zs[n] := by rw [List.getD_eq_getElem?_getD, List.getElem?_eq_getElem (by omega)]; rfl
    by_cases h0 : zs.getD n 0 = 0
    · rw [uTo_skip h0]
      rw [hz] at h0
      simp [h0]
    · rw [uTo_more (by omega) h0, outU_snoc]
      show _ ++ [zs.getD n 0] = _
      rw [hz] at h0 ⊢
      simp [h0]
theorem outU_all : outU (uAll zs) = zs.filter fun x => x != 0 := by unfold uAll; rw [outU_to (Nat.le_refl _), List.take_length]
theorem uAll_len : (uAll zs).length ≤ zs.length := uTo_len (Nat.le_refl _)
end
theorem row_part {w : World} {g c c' : Nat} {zs : List Int} (h : RowOf zCells 1 w (.slice (some ⟨g, 0, none⟩) zs.length c) zs) {l m : Nat} (hl : l ≤ m) (hm : m ≤ zs.length) : RowOf zCells 1 w (.slice (some ⟨g, l, none⟩) (m - l) c') (partA zs l m) := by
  have hp : (partA zs l m).length = m - l := by rw [part_len (by omega) (by omega) (by omega)]; omega
  refine ⟨by rw [flat_len zCells 1 z_len], .inr ⟨g, l, c', by rw [hp], ?_, fun j v hj => ?_⟩⟩
  · rcases h.2 with ⟨h0, _⟩ | ⟨g', o, c2, hv, hg, _⟩
    · cases h0
    · cases hv; exact hg
  · rw [z_flat, List.getElem?_map] at hj
    unfold partA at hj
    rw [List.getElem?_take] at hj
    split at hj
    · rename_i hlt
      rw [List.getElem?_drop] at hj
      cases e : zs[(l : Int).toNat + j]? with
      | none => rw [e] at hj; cases hj
      | some z =>
        rw [e] at hj
        cases hj
        rw [Int.toNat_natCast] at e
        obtain ⟨g', o, c2, hv, hc⟩ := z_cells h e
        cases hv
        rwa [Nat.zero_add] at hc
    · cases hj
/-- In the loop: the new amap, and what else has turned since. -/
structure CopyI (w6 W : World) (P : AmP) (x : AmV) : Prop where
  am : AmB DS 81 W x P
  turn : Turn [P.g] w6 W
  old : ∀ b, b ∈ P.blk → b < w6.heap.size
section
variable {w6 W W' : World} {P : AmP} {x : AmV}
theorem CopyI.kept (h : CopyI w6 W P x) (hos : W'.os = W.os) (ht : W'.tape = W.tape) (hout : W'.output = W.output) (hs : W.heap.size ≤ W'.heap.size) (hb : ∀ b, b < w6.heap.size → W'.heap[b]? = W.heap[b]?) : CopyI w6 W' P x :=
  ⟨h.am.kept dsS hs fun b k => hb b (h.old b k), ⟨hos.trans h.turn.os, ht.trans h.turn.tape, hout.trans h.turn.output, Nat.le_trans h.turn.size hs, fun b k hO => (hb b k).trans (h.turn.block b k hO)⟩, h.old⟩
theorem CopyI.grown {row : Option Nat} (h : CopyI w6 W P x) (g : W.grownBy W' row) (hr : ∀ r, row = some r → w6.heap.size ≤ r) : CopyI w6 W' P x :=
  h.kept g.os g.tape g.output g.size fun b hb => g.block b (Nat.lt_of_lt_of_le hb h.turn.size) fun e => by have := hr b e.symm; omega
theorem CopyI.set (h : CopyI w6 W P x) (j : Nat) (z : Int) : CopyI w6 (W.setCell ⟨P.g, j, none⟩ (.int .i64 z)) P ⟨x.cs, x.as.set j z⟩ :=
  ⟨h.am.set dsS j z, h.turn.trans' (Turn.setCell [P.g] W P.g j _ (by simp)), h.old⟩
end
section
variable {w w1 w' : World} {p most : Nat} {v : Value} {L : AmL} {S : Nat → AmP}
theorem PA.nothing3 (h : PA w p most v L S) (hg : GoodL most L) (k : w.grownBy w' none) {e : Int} : CopyS PAS w p most (blkA p v L S) ⟨0, [], e, L⟩ (.returned (.tuple #[.int .i64 0, .slice none 0 0, .int .i64 e])) w' :=
  by
    obtain ⟨O', h1, h2, h3⟩ := PA.same h hg k
    exact ⟨_, O', rfl, RowAt.nil _ _, (fun b e => by cases e), ⟨h1, h2, h3⟩, fun b e => by cases e⟩
/-- Where nothing is copied. -/
theorem pa_copy_no (h : PA w p most v L S) (hg : GoodL most L) (id lo hi : Int) (hid : okI id) (hlo : okI lo) (hhi : okI hi) (hno : ∀ a, ofA L id = some a → ¬ spanA a lo hi ∨ most ≤ (idsA L).length) : Calls Try.prog 20 #[.pointer (some ⟨p, 0, none⟩), .int .i64 id, .int .i64 lo, .int .i64 hi] w (CopyS PAS w p most (blkA p v L S) (copyA most L id lo hi)) := by
  rcases of_cases L id with ⟨e, -⟩ | ⟨i, a, rfl, hi', ha, e⟩
  · rw [show copyA most L id lo hi = ⟨0, [], 7, L⟩ by unfold copyA; rw [e]]
    have HO := Lib.hid (pa_find_none h hg hid e)
    have HR := Lib.hid (PA.nothing3 h hg (grown_refl w none) (e := 7))
    clear h e hno
    go_enter Try.func20, Try.ntmps20
    go_wp2_with fail
    refine HO.out.mono ?_
    rintro e w2 ⟨rfl, e2⟩
    subst w2
    go_wp2_with fail
    go_ret3
    exact HR.out
  · have hga := ofA_good hg e
    have HO := Lib.hid (pa_find_some h hg ha)
    have ham := h.am.each i a ha
    have c0 := ham.at.1
    have hlen := spOk.len ham.d hga.cs
    rw [hga.len] at hlen
    have HLn := Lib.hid hlen
    have hle : a.as.length ≤ 4096 := by have h2 := hga.cs.len; have h3 := hga.len; omega
    have hno := hno a e
    by_cases hs : spanA a lo hi
    · have hfull : most ≤ (idsA L).length := by rcases hno with h1 | h1; exact absurd hs h1; exact h1
      rw [copy_full ha hs hfull]
      obtain ⟨s0, s1, s2⟩ := hs
      have d0 : decide (lo < 0) = false := decide_eq_false (by omega)
      have d1 : decide (hi > (a.as.length : Int)) = false := decide_eq_false (by omega)
      have d2 : decide (lo ≥ hi) = false := decide_eq_false (by omega)
      have HK := Lib.hid (fun W (k : w.grownBy W none) => pa_lay_no (PoolA.grow dsS h k) hg (hi - lo) hfull)
      have HR := Lib.hid (fun W (k : w.grownBy W none) => PA.nothing3 h hg k (e := 5))
      clear h e hga ha ham hno hlen hfull
      go_enter Try.func20, Try.ntmps20
      go_wp2_with fail
      refine HO.out.mono ?_
      rintro e w2 ⟨rfl, e2⟩
      subst w2
      go_wp2_with fail
      refine HLn.out.mono ?_
      rintro e w2 ⟨rfl, g2⟩
      have HK2 := Lib.hid (HK.out _ g2)
      have HG := Lib.hid g2
      clear g2 HK
      go_wp2_with fail
      refine HK2.out.mono ?_
      rintro e w3 ⟨rfl, g3⟩
      have HG3 := Lib.hid (grown_trans HG.out (grown_trans g3 (World.grownBy_alloc w3 (.cells #[.pointer none] 73 (0, 0)) none)))
      clear g3
      go_wp2_with fail
      go_ret3
      exact HR.out _ HG3.out
    · rw [copy_no ha hs]
      have HR := Lib.hid (fun W (k : w.grownBy W none) => PA.nothing3 h hg k (e := 2))
      have HR0 := Lib.hid (PA.nothing3 h hg (grown_refl w none) (e := 2))
      have dd : decide (lo < 0) = true ∨ (decide (lo < 0) = false ∧ decide (hi > (a.as.length : Int)) = true) ∨ (decide (lo < 0) = false ∧ decide (hi > (a.as.length : Int)) = false ∧ decide (lo ≥ hi) = true) := by
        unfold spanA at hs
        simp only [decide_eq_true_eq, decide_eq_false_iff_not]
        omega
      clear h e hga ha ham hs hlen hno
      rcases dd with d0 | ⟨d0, d1⟩ | ⟨d0, d1, d2⟩
      · go_enter Try.func20, Try.ntmps20
        go_wp2_with fail
        refine HO.out.mono ?_
        rintro e w2 ⟨rfl, e2⟩
        subst w2
        go_wp2_with fail
        go_ret3
        exact HR0.out
      all_goals
        go_enter Try.func20, Try.ntmps20
        go_wp2_with fail
        refine HO.out.mono ?_
        rintro e w2 ⟨rfl, e2⟩
        subst w2
        go_wp2_with fail
        refine HLn.out.mono ?_
        rintro e w2 ⟨rfl, g2⟩
        have HG := Lib.hid g2
        clear g2
        go_wp2_with fail
        go_ret3
        exact HR.out _ HG.out
end
end Go.Proofs.Ytfmihbiongnpnaa
