/- The document's objects of layer 14: Get, tidy, Ref. -/
import Derived.Test.YtefcefclncbimaaObRef2
import Derived.Deep.CutBlock
import Derived.Deep.DeepCutAuto
namespace Go.Proofs.Ytefcefclncbimaa
open Go.ChangeShapes Go.WideShapes Go.ChangeAt Go.RowKit Go.Deep
set_option linter.unusedVariables false

/-! ### a box of one page -/
def pgAgg (x : PgV) : Value := .agg #[.int .i64 x.fr, .int .i64 x.sl, .bool x.d]
def getVO (o : Option PgV) : Value :=
  match o with
  | some x => .tuple #[pgAgg x, .bool true]
  | none => .tuple #[pgAgg zeroP, .bool false]
def PB (w : World) (y : Nat) (t : TypeId) (x : PgV) : Prop := w.heap[y]? = some (.cells #[.int .i64 x.fr, .int .i64 x.sl, .bool x.d] t (0, 0))
section
variable {w w' : World} {y : Nat} {t : TypeId} {x : PgV}
theorem PB.at (h : PB w y t x) : w.cell? ⟨y, 0, none⟩ = some (.int .i64 x.fr) ∧ w.cell? ⟨y, 1, none⟩ = some (.int .i64 x.sl) ∧ w.cell? ⟨y, 2, none⟩ = some (.bool x.d) :=
  ⟨by rw [cell_of_row _ _ _ _ _ _ h]; rfl, by rw [cell_of_row _ _ _ _ _ _ h]; rfl, by rw [cell_of_row _ _ _ _ _ _ h]; rfl⟩
theorem PB.frozen (h : PB w y t x) (o : Nat) : w.frozen? ⟨y, o, none⟩ = false := frozen_of_row _ _ _ _ _ h
theorem PB.lt (h : PB w y t x) : y < w.heap.size := (Array.getElem?_eq_some_iff.1 h).1
theorem PB.kept (h : PB w y t x) (hb : w'.heap[y]? = w.heap[y]?) : PB w' y t x := hb.trans h
theorem PB.grow (h : PB w y t x) (g : w.grownBy w' none) : PB w' y t x := (g.block _ h.lt (by simp)).trans h
theorem PB.new (w : World) (t : TypeId) (x : PgV) : PB (w.alloc (.cells #[.int .i64 x.fr, .int .i64 x.sl, .bool x.d] t (0, 0))) w.heap.size t x := heap_alloc_new w _
end
/-- Two results, the first one a struct in memory. -/
theorem results_pair_tmp {P : Program} {fn : Func} {p u : Tmp} {ty : TypeId} (h : fn.results = #[.cell p ty, .tmp u]) (tmps : Array Value) (w : World) (g : Nat) (t : TypeId) (cs : Array Value) (fr : Nat × Nat) (d : TypeDesc)
    (hp : tmps.getD p undef = .pointer (some ⟨g, 0, none⟩)) (hg : w.heap[g]? = some (.cells cs t fr))
    (hu : P.underlying ty = some d) (hd : (match d with | .struct _ | .array _ _ => true | _ => false) = true) (hi : (P.info? ty).map (·.size) = some cs.size) :
    (results fn tmps).run P w = .ok (.tuple #[.agg cs, tmps.getD u undef]) w := by
  rw [results_cell_tmp h, hp]
  simp [asAddr, Result.andThen, run_loadVar_row w g t ty cs fr d hg hu hd hi]
/-- Three cells, stored into. -/
theorem heap_page (w : World) (g : Nat) {a b c : Value} (a' b' : Int) (c' : Bool) (t : TypeId) (hg : w.heap[g]? = some (.cells #[a, b, c] t (0, 0))) :
    (((w.setCell ⟨g, 0, none⟩ (.int .i64 a')).setCell ⟨g, 1, none⟩ (.int .i64 b')).setCell ⟨g, 2, none⟩ (.bool c')).heap[g]? = some (.cells #[.int .i64 a', .int .i64 b', .bool c'] t (0, 0)) := by
  have h : w.heap[g]? = some (.cells [a, b, c].toArray t (0, 0)) := hg
  exact heap_setCells h [.int .i64 a', .int .i64 b', .bool c'] (by simp) (by intro v hv; simp at hv; rcases hv with rfl | rfl | rfl <;> rfl)
theorem grown_three (w : World) (g o : Nat) (a b c : Value) : w.grownBy (((w.setCell ⟨g, o, none⟩ a).setCell ⟨g, o + 1, none⟩ b).setCell ⟨g, o + 2, none⟩ c) (some g) :=
  grown_trans (grown_trans (grown_set _ g o a) (grown_set _ g (o + 1) b)) (grown_set _ g (o + 2) c)

def allO (L : ObL) (id : Int) : PgL := match ofO L id with | some x => x.L | none => []
theorem get_all (L : ObL) (id ix : Int) : getO L id ix = lookO (allO L id) ix := by
  unfold getO allO
  cases ofO L id with
  | none => rfl
  | some x => rfl
theorem pages_all {most : Nat} {L : ObL} (hg : GoodOs most L) (id : Int) : pagesO L id 0 4096 = allO L id := by
  unfold pagesO allO
  cases e : ofO L id with
  | none => rfl
  | some x => exact List.filter_eq_self.2 fun n hn => by simpa using (ofO_good hg e).ps.rng n hn
theorem all_good {most : Nat} {L : ObL} (hg : GoodOs most L) (id : Int) : GoodPs (allO L id) := by
  unfold allO
  cases e : ofO L id with
  | none => exact GoodPs.nil
  | some x => exact (ofO_good hg e).ps
theorem look_no {l : PgL} {i : Int} (h : ∀ n, n ∈ l → n.1 ≠ i) : lookO l i = none := by
  cases e : lookO l i with
  | none => rfl
  | some x => exact absurd rfl (h _ (look_some e))

section
variable {w w' : World} {q most : Nat} {v : Value} {L : ObL} {S : Nat → ObP}
set_option maxHeartbeats 2000000 in
theorem ro_get (h : RO w q most v L S) (hg : GoodOs most L) (id ix : Int) (hid : okI id) : Calls Try.prog 20 #[.pointer (some ⟨q, 0, none⟩), .int .i64 id, .int .i64 ix] w fun e w' => e = .returned (getVO (getO L id ix)) ∧ w.grownBy w' none := by
  have ga := World.grownBy_alloc w (.cells #[.int .i64 0, .int .i64 0, .bool false] 42 (0, 0)) none
  have hB := PB.new w 42 zeroP
  unfold zeroP at hB
  simp only at hB
  have hA := h.grow rpdOk ga
  have hP := ro_pages hA hg id 0 4096 hid
  rw [pages_all hg] at hP
  rw [get_all]
  have hgp := all_good hg id
  have hlen := hgp.len
  obtain ⟨l, hll⟩ : ∃ l, allO L id = l := ⟨_, rfl⟩
  rw [hll] at hP hgp hlen ⊢
  generalize hwA : w.alloc (.cells #[.int .i64 0, .int .i64 0, .bool false] 42 (0, 0)) = wA at *
  have HP := Lib.hid hP
  have HB := Lib.hid hB
  have HG := Lib.hid ga
  have HL := Lib.hid hgp
  have HS := Lib.hid (show w.heap.size ≤ w.heap.size from Nat.le_refl _)
  clear h hA hP hB ga hgp hll hg
  go_enter Try.func20, Try.ntmps20
  go_wp2_with fail
  refine HP.out.mono ?_
  rintro e w2 ⟨u, rfl, hu, ho, g2⟩
  obtain ⟨su, cu, rfl⟩ := rowOf_form hu
  have HU := Lib.hid hu
  have HG2 := Lib.hid g2
  clear hu ho g2 HP
  go_wp2_with fail
  go_loopw [14] (fun iv wr => ∃ j : Nat, j ≤ l.length ∧ iv = .int .i64 j ∧ Hid (∀ k n, k < j → l[k]? = some n → n.1 ≠ ix) ∧ Hid (w2.grownBy wr none)) (fun iv _ => l.length - (intOf iv).toNat)
  case atStart => exact ⟨0, by omega, rfl, fun k n hk => by omega, grown_refl _ _⟩
  case round =>
    obtain ⟨j, hj, rfl, HN, HGr⟩ := hrel
    have hBr := (HB.out.grow HG2.out).grow HGr.out
    by_cases hlt : j < l.length
    · obtain ⟨⟨n, f, z, d⟩, hn⟩ : ∃ n, l[j]? = some n := ⟨_, List.getElem?_eq_getElem hlt⟩
      obtain ⟨g, o, cc, hvv, k0, k1, k2, k3⟩ := t_cells (rowOf_grow HU.out HGr.out) hn
      injection hvv with e1 e2 e3
      subst e1 e3
      simp only at k0 k1 k2 k3
      have gb := World.grownBy_alloc wr (.cells #[.int .i64 n, .int .i64 f, .int .i64 z, .bool d] 58 (0, 0)) none
      have hBb := hBr.grow gb
      have HGb := Lib.hid (grown_trans HGr.out gb)
      by_cases h1 : n = ix
      · subst h1
        have HF := Lib.hid (show lookO l n = some ⟨f, z, d⟩ from look_at HL.out (List.mem_of_getElem? hn))
        have HBb := Lib.hid hBb
        obtain ⟨b0, b1, b2⟩ := hBb.at
        have z0 := hBb.frozen 0
        have z1 := hBb.frozen 1
        have z2 := hBb.frozen 2
        clear hn gb hBb hBr HN HL
        go_wp2_with fail
        refine bodyPost_ret (results_pair_tmp rfl _ _ w.heap.size _ #[.int .i64 f, .int .i64 z, .bool d] (0, 0) _ rfl (heap_page _ _ _ _ _ _ HBb.out) Try.underlying42 (by kernel_rfl) (by kernel_rfl)) rfl ?_
        exact ⟨by rw [HF.out]; rfl, grown_at (grown_trans HG.out (grown_trans HG2.out HGb.out)) (grown_three _ _ _ _ _ _) HS.out⟩
      · have HN2 := Lib.hid (show ∀ k m, k < j + 1 → l[k]? = some m → m.1 ≠ ix from fun k m hk hm => by
          by_cases ek : k = j
          · subst ek
            rw [hn] at hm
            cases hm
            exact h1
          · exact HN.out k m (by omega) hm)
        clear hn gb hBb hBr HN HL
        go_wp2_with fail
        go_roundw
        case rel => exact ⟨j + 1, by omega, by go_num, HN2, HGb⟩
        case measure => simp [intOf]; omega
    · obtain rfl : j = l.length := by omega
      have HF := Lib.hid (show lookO l ix = none from look_no fun n hn => by
        obtain ⟨k, hk, e⟩ := List.mem_iff_getElem.1 hn
        exact HN.out k n hk (by rw [List.getElem?_eq_getElem hk, e]))
      have HBb := Lib.hid hBr
      obtain ⟨b0, b1, b2⟩ := hBr.at
      have z0 := hBr.frozen 0
      have z1 := hBr.frozen 1
      have z2 := hBr.frozen 2
      clear hBr HN HL
      go_wp2_with fail
      refine bodyPost_ret (results_pair_tmp rfl _ _ w.heap.size _ #[.int .i64 0, .int .i64 0, .bool false] (0, 0) _ rfl (heap_page _ _ _ _ _ _ HBb.out) Try.underlying42 (by kernel_rfl) (by kernel_rfl)) rfl ?_
      exact ⟨by rw [HF.out]; rfl, grown_at (grown_trans HG.out (grown_trans HG2.out HGr.out)) (grown_three _ _ _ _ _ _) HS.out⟩

/-- tidy, at an object. -/
theorem ro_tidy_no (h : RO w q most v L S) (hl : L.length ≤ 4096) {i : Nat} {x : ObV} (hx : L[i]? = some (some x)) (hlen : x.L.length ≤ 4096) (hno : ¬ (x.re = 0 ∧ x.L.length = 0)) : Calls Try.prog 36 #[.pointer (some ⟨q, 0, none⟩), .int .i64 ((i : Int) + 1)] w fun e w' => e = .returned (.tuple #[]) ∧ w' = w := by
  have HO := Lib.hid (ro_object_some h hl hx)
  have hb := h.am.each i x hx
  obtain ⟨-, c1, c2⟩ := hb.at
  obtain ⟨sv, cv, hv⟩ := rowOf_form (OwnOf.row hb.d.1)
  rw [hv] at c2
  have hq := neq_rob
  obtain ⟨xf, xr, xl⟩ := x
  simp only at *
  obtain ⟨n, hn⟩ : ∃ n, xl.length = n := ⟨_, rfl⟩
  rw [hn] at c2 hno hlen
  have d0 : (xr == 0) = false ∨ ((xr == 0) = true ∧ ((n : Int) == 0) = false) := by
    simp only [beq_eq_false_iff_ne, beq_iff_eq, ne_eq]
    omega
  clear h hx hb hv hn hno
  rcases d0 with d0 | ⟨d0, d1⟩
  all_goals
    go_enter Try.func36, Try.ntmps36
    go_wp2_with fail
    refine HO.out.mono ?_
    rintro e w2 ⟨rfl, e2⟩
    subst w2
    go_wp2_with fail
    go_end0
    exact ⟨rfl, rfl⟩
theorem ro_tidy_yes (h : RO w q most v L S) (hl : L.length ≤ 4096) {i : Nat} {x : ObV} (hx : L[i]? = some (some x)) (h0 : x.re = 0) (h1 : x.L.length = 0) : Calls Try.prog 36 #[.pointer (some ⟨q, 0, none⟩), .int .i64 ((i : Int) + 1)] w fun e w' => e = .returned (.tuple #[]) ∧ RO w' q most v (L.set i none) S ∧ Turn (blkO q v L S) w w' ∧ (∀ b, b ∈ blkO q v (L.set i none) S → b ∈ blkO q v L S) ∧ ∀ b, v.ownBlock ≠ some b → w'.heap[b]? = w.heap[b]? := by
  have HO := Lib.hid (ro_object_some h hl hx)
  have hb := h.am.each i x hx
  obtain ⟨-, c1, c2⟩ := hb.at
  obtain ⟨sv, cv, hv⟩ := rowOf_form (OwnOf.row hb.d.1)
  rw [hv, h1] at c2
  rw [h0] at c1
  have hq := neq_rob
  have hi := (List.getElem?_eq_some_iff.1 hx).1
  obtain ⟨g, c, rfl⟩ := h.there (by omega)
  have cq := h.at.2
  have k0 := h.live hi hx
  have z0 := h.vfrozen i
  have HM := Lib.hid (h.gone rpdOk (i := i) hi)
  clear h hx hb hv h0 h1
  go_enter Try.func36, Try.ntmps36
  go_wp2_with fail
  refine HO.out.mono ?_
  rintro e w2 ⟨rfl, e2⟩
  subst w2
  go_wp2_with fail
  go_end0
  obtain ⟨m1, m2, m3⟩ := HM.out
  exact ⟨rfl, by unfold RO; rw [List.length_set]; exact m1, m2, m3, fun b hb => heap_setCell_other _ ⟨g, i, none⟩ b _ (by first | exact fun e => hb (by rw [show b = g from e]; rfl) | exact fun e => hb (by rw [← show g = b from e]; rfl))⟩
theorem set_same {x : ObV} {i : Nat} (hx : L[i]? = some (some x)) : L.set i (some x) = L := by
  refine List.ext_getElem? fun j => ?_
  rw [set_at]
  split
  · rename_i e
    rw [e.1, hx]
  · rfl
theorem ro_tidy (h : RO w q most v L S) (hl : L.length ≤ 4096) {i : Nat} {x : ObV} (hx : L[i]? = some (some x)) (hlen : x.L.length ≤ 4096) : Calls Try.prog 36 #[.pointer (some ⟨q, 0, none⟩), .int .i64 ((i : Int) + 1)] w fun e w' => e = .returned (.tuple #[]) ∧ RO w' q most v (L.set i (tidyO x)) S ∧ Turn (blkO q v L S) w w' ∧ (∀ b, b ∈ blkO q v (L.set i (tidyO x)) S → b ∈ blkO q v L S) ∧ ∀ b, v.ownBlock ≠ some b → w'.heap[b]? = w.heap[b]? := by
  by_cases h0 : x.re = 0 ∧ x.L.length = 0
  · rw [show tidyO x = none from if_pos h0]
    exact ro_tidy_yes h hl hx h0.1 h0.2
  · rw [show tidyO x = some x from if_neg h0, set_same hx]
    refine (ro_tidy_no h hl hx hlen h0).mono ?_
    rintro e w' ⟨he, rfl⟩
    exact ⟨he, h, Turn.refl _ _, fun b hb => hb, fun b _ => rfl⟩
end
end Go.Proofs.Ytefcefclncbimaa
