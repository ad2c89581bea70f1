/- Package object (landed): Pages, and what it hands back; Ids. -/
import Derived.Test.YtefcefclncbimaaObDf
import Derived.Shelf.AbstractIn
import Derived.RangeFuncNested
import Derived.RangeFuncBound
import Derived.RangeFuncCalls
import Derived.RangeFuncLeaves
import Derived.RangeFuncBox
import Derived.Shelf.Abstract
import Derived.Shelf.RegionOpen
import Derived.OwnWalkIn
import Derived.TacticsInMore
import Derived.LoopNIn
import Derived.LoopIn
import Derived.Lib.Builder
namespace Go.Proofs.Ytefcefclncbimaa
open Go.ChangeShapes Go.WideShapes Go.ChangeAt Go.RowKit Go.Deep Go.Maps Go.Sort Go.Shelf
set_option linter.unusedVariables false
attribute [local go_sem] Oper.semAt_some

theorem row_keptB {w w' : World} {u : Value} {zs : PgL} (h : RowOf atCells 4 w u zs) (hb : ∀ b, u.ownBlock = some b → w'.heap[b]? = w.heap[b]?) : RowOf atCells 4 w' u zs := by
  refine ⟨h.1, ?_⟩
  rcases h.2 with h0 | ⟨g, o, c, hv, hg, hc⟩
  · exact .inl h0
  · have e := hb g (by rw [hv]; rfl)
    obtain ⟨ob, ho⟩ : ∃ ob, w.heap[g]? = some ob := ⟨_, Array.getElem?_eq_getElem hg⟩
    exact .inr ⟨g, o, c, hv, (Array.getElem?_eq_some_iff.1 (e.trans ho)).1, fun j v hj => (World.cell?_of_block (a := ⟨g, o + j, none⟩) e).trans (hc j v hj)⟩
theorem row_lt {w : World} {u : Value} {zs : PgL} (h : RowOf atCells 4 w u zs) {b : Nat} (hb : u.ownBlock = some b) : b < w.heap.size := by
  rcases h.2 with ⟨h0, _⟩ | ⟨g, o, c, hv, hg, hc⟩
  · rw [h0] at hb; cases hb
  · rw [hv] at hb
    have e : g = b := by simpa [Value.ownBlock] using hb
    rw [← e]; exact hg
/-- What the iterator hands on. -/
def encP (x : Int × PgV) : Array Value := #[.int .i64 x.1, pgAgg x.2]
/-- What a body must keep: the blocks that the iterator reads. -/
def KpG (G : List Nat) (W W' : World) : Prop := ∀ k, k ∈ G → W'.heap[k]? = W.heap[k]?
theorem kpG_t {G : List Nat} {A B C : World} (h : KpG G A B) (k : KpG G B C) : KpG G A C := fun i hi => (k i hi).trans (h i hi)
theorem kpG_b {G : List Nat} {B : Nat} (hG : ∀ k, k ∈ G → k < B) (W : World) (l : Nat) (o' : Obj) (hl : B ≤ l) : KpG G W (W.putObj l o') := fun k hk => World.putObj_heap_other (by have := hG k hk; omega)

set_option maxRecDepth 100000 in
set_option maxHeartbeats 2000000 in
theorem pages1_in (n : Nat) (hn : 1 ≤ n) (l Bs : Nat) (u : Value) (zs : PgL) (hl : zs.length ≤ 4096) (G : List Nat) (hG : ∀ g, u.ownBlock = some g → g ∈ G) (J Jx : List (Int × PgV) → World → Prop)
    (W0 : World) (hJ : AbidesFrom W0.heap.size J)
    (hY : ∀ pre x W, J pre W → pre.length < zs.length → YieldAt Fence.wide (n - 1) Try.prog l (encP x) W fun e W' =>
      (e = .returned (.bool true) ∧ J (pre ++ [x]) W' ∧ KpG G W W') ∨ (e = .returned (.bool false) ∧ Jx (pre ++ [x]) W'))
    (W : World) (hBs : W.cell? ⟨Bs, 0, none⟩ = some u) (hU : RowOf atCells 4 W u zs) (h0 : J [] W) :
    CallsIn Fence.wide n Try.prog 40 #[.func (.yield l) #[] #[], .pointer (some ⟨Bs, 0, none⟩)] W fun e W' => (∃ v, e = .returned v) ∧
      ((∃ ys, ys = zs ∧ J ys W') ∨ (∃ pre, pre <+: zs ∧ Jx pre W')) := by
  have HU := Lib.hid hU
  have HG := Lib.hid hG
  have HJa := Lib.hid hJ
  have HY := Lib.hid hY
  obtain ⟨a0, c0, rfl⟩ := rowOf_form hU
  clear hU hG hJ hY
  refine callsIn_of_wp Try.func40 rfl trivial ?_ rfl
  simp only [Try.ntmps40, List.size_toArray, List.length_cons, List.length_nil, Nat.reduceAdd, Nat.reduceSub, Array.replicate_succ, Array.replicate_zero, List.push_toArray, List.append_toArray, List.nil_append, List.cons_append]
  gi_wp2
  gi_loopw [7] (fun i wr => ∃ k : Nat, k ≤ zs.length ∧ i = .int .i64 k ∧ J (zs.take k) wr ∧ Hid (RowOf atCells 4 wr (.slice a0 zs.length c0) zs)) (fun i _ => zs.length - (intOf i).toNat)
  case atStart => exact ⟨0, Nat.zero_le _, rfl, h0, HU⟩
  case round =>
    obtain ⟨k, hk, rfl, hJs, HK⟩ := hrel
    by_cases hlt : k < zs.length
    · obtain ⟨⟨m, f, s, d⟩, hz⟩ : ∃ z, zs[k]? = some z := ⟨_, List.getElem?_eq_getElem hlt⟩
      obtain ⟨g, o, c', hv', k0, k1, k2, k3⟩ := t_cells HK.out hz
      injection hv' with e1 e2 e3
      subst e1 e3
      simp only at k0 k1 k2 k3
      have ga := World.grownBy_alloc wr (.cells #[.int .i64 m, .int .i64 f, .int .i64 s, .bool d] 96 (0, 0)) none
      have HK2 := Lib.hid (rowOf_grow HK.out ga)
      have hJ2 := HJa.out _ _ _ _ hJs ga (by simp)
      have htk := takel_at hz
      have hlen : (zs.take k).length < zs.length := by rw [List.length_take]; omega
      have HM := Lib.hid htk
      have HP := Lib.hid (List.take_prefix (k + 1) zs)
      obtain ⟨fn, tmps, assign, body, hyy, hRr⟩ := HY.out (zs.take k) (m, ⟨f, s, d⟩) (wr.alloc (.cells #[.int .i64 m, .int .i64 f, .int .i64 s, .bool d] 96 (0, 0))) hJ2 hlen
      simp only [encP, pgAgg] at hyy
      clear hlen hz htk hJs ga
      gi_wp2
      refine hRr.mono ?_
      rintro e W3 (⟨rfl, hJ3, hk3⟩ | ⟨rfl, hJx3⟩)
      · have HK3 := Lib.hid (row_keptB (w' := W3) HK2.out fun b e => hk3 b (HG.out b e))
        rw [← HM.out] at hJ3
        gi_wp2
        go_roundw
        case rel => exact ⟨k + 1, by omega, by go_num, hJ3, HK3⟩
        case measure => simp [intOf]; omega
      · rw [← HM.out] at hJx3
        gi_wp2
        refine bodyPost_ret (results_none rfl _ _ _) rfl ?_
        exact ⟨⟨_, rfl⟩, .inr ⟨_, HP.out, hJx3⟩⟩
    · obtain rfl : k = zs.length := by omega
      rw [List.take_length] at hJs
      gi_wp2
      go_end0
      exact ⟨⟨_, rfl⟩, .inl ⟨_, rfl, hJs⟩⟩
theorem pages1_stops (n : Nat) (hn : 1 ≤ n) (Bs : Nat) (u : Value) (zs : PgL) (hl : zs.length ≤ 4096) (G : List Nat) (hG : ∀ g, u.ownBlock = some g → g ∈ G) (w : World) (hBs : w.cell? ⟨Bs, 0, none⟩ = some u) (hU : RowOf atCells 4 w u zs) :
    SeqStopsK Fence.wide n Try.prog 40 #[.pointer (some ⟨Bs, 0, none⟩)] encP (KpG G) (fun ys => ys = zs) (fun pre => pre <+: zs) zs.length w := fun l J Jx W hW hJ _ hY h0 =>
  pages1_in n hn l Bs u zs hl G hG J Jx W hJ hY W ((hW.cell (p := ⟨Bs, 0, none⟩) (World.block_lt_of_cell? w _ hBs)).trans hBs) (row_keptB hU fun b e => hW.block b (row_lt hU e)) h0
/-- What Pages hands back. -/
def PagesR (w : World) (zs : PgL) (e : Ending) (w' : World) : Prop :=
  ∃ Bs u, e = .returned (.func (.func 40) #[] #[.pointer (some ⟨Bs, 0, none⟩)]) ∧ w'.cell? ⟨Bs, 0, none⟩ = some u ∧ RowOf atCells 4 w' u zs ∧ (∀ b, u.ownBlock = some b → w.heap.size ≤ b) ∧ w.heap.size ≤ Bs ∧ w.grownBy w' none

section
variable {w w' w2 : World} {p most M1 M2 i : Nat} {L : ObL} {S : Nat → ObP} {x : ObV}
set_option maxHeartbeats 1000000 in
theorem po_pages (h : PO w p most M1 M2 L S) (hg : GoodOs most L) (id lo hi : Int) (hid : okI id) : Calls Try.prog 29 #[.pointer (some ⟨p, 0, none⟩), .int .i64 id, .int .i64 lo, .int .i64 hi] w (PagesR w (pagesO L id lo hi)) := by
  have ga := World.grownBy_alloc w (.cells #[.slice none 0 0] 92 (0, 0)) none
  have hA := h.grow ga
  have hB := heap_alloc_new w (.cells #[.slice none 0 0] 92 (0, 0))
  have hmf : ∀ (fn : Fn) (first cap : Array Value) (w : World), (Instr.makeFunc fn first cap).run Try.prog w = .ok (.func fn first cap) w := fun _ _ _ _ => rfl
  have hsA : (w.alloc (.cells #[.slice none 0 0] 92 (0, 0))).heap.size = w.heap.size + 1 := by simp
  generalize hwA : w.alloc (.cells #[.slice none 0 0] 92 (0, 0)) = wA at *
  have HG := Lib.hid ga
  rcases of_cases L id with ⟨e, -⟩ | ⟨i, x, rfl, hi2, hx, e⟩
  · rw [show pagesO L id lo hi = [] by unfold pagesO; rw [e]]
    have HO := Lib.hid (po_find_none hA hid e)
    have HC := Lib.hid (show wA.cell? ⟨w.heap.size, 0, none⟩ = some (.slice none 0 0) by rw [cell_of_row _ _ _ _ _ _ hB]; rfl)
    clear h hA ga e hB
    go_enter Try.func29, Try.ntmps29
    go_wp2_with fail
    refine HO.out.mono ?_
    rintro e w2 ⟨rfl, e2⟩
    subst w2
    go_wp2_with fail
    go_ret
    exact ⟨_, _, rfl, HC.out, RowAt.nil _ _, (fun b e => by cases e), Nat.le_refl _, HG.out⟩
  · rw [show pagesO L ((i : Int) + 1) lo hi = cutO x.L lo hi by unfold pagesO; rw [e]]
    have HO := Lib.hid (po_find_some hA hx)
    have hob := hA.am.each i x hx
    have c2 := hob.at.2.2
    obtain ⟨M, hv, hm, -⟩ := hA.pages hx
    rw [hv] at c2
    have HBt := Lib.hid (between_ok c2 hm (ofO_good hg e).ps lo hi)
    have HB := Lib.hid hB
    clear h hA ga e hB hx hob c2 hv hm hg hid
    go_enter Try.func29, Try.ntmps29
    go_wp2_with fail
    refine HO.out.mono ?_
    rintro e w2 ⟨rfl, e2⟩
    subst w2
    go_wp2_with fail
    refine HBt.out.mono ?_
    rintro e w3 ⟨u, rfl, hu, ho, g3⟩
    obtain ⟨su, cu, rfl⟩ := rowOf_form hu
    have hB3 : w3.heap[w.heap.size]? = some (.cells #[.slice none 0 0] 92 (0, 0)) := (g3.block _ (by omega) (by simp)).trans HB.out
    have z3 := frozen_of_row w3 w.heap.size 0 _ _ hB3
    have cc3 : w3.cell? ⟨w.heap.size, 0, none⟩ = some (.slice none 0 0) := by rw [cell_of_row _ _ _ _ _ _ hB3]; rfl
    have hfin := heap_setCell_same w3 w.heap.size 0 _ _ (.slice su (cutO x.L lo hi).length cu) hB3
    have HF := Lib.hid hfin
    have HUr := Lib.hid hu
    have HOw := Lib.hid ho
    have HG3 := Lib.hid g3
    clear hu ho g3 hB3 hfin
    go_wp2_with fail
    go_ret
    refine ⟨_, _, rfl, by rw [cell_of_row _ _ _ _ _ _ HF.out]; rfl, row_keptB HUr.out fun b hb => ?_, fun b hb => ?_, Nat.le_refl _, ?_⟩
    · have h1 := HOw.out b hb
      exact heap_setCell_other w3 ⟨w.heap.size, 0, none⟩ b _ (by first | exact fun e => by (have e : w.heap.size = b := e); omega | exact fun e => by (have e : b = w.heap.size := e); omega)
    · have := HOw.out b hb; omega
    · exact grown_at (grown_trans HG.out HG3.out) (grown_set _ _ _ _) (Nat.le_refl _)
/-- slices.Sort's two contracts at this program, at the fence that asks nothing. -/
theorem sorts14 (m : Nat) : AnyZI.SortsIn Try.prog Try.sortedA_ren Fence.wide m :=
  ⟨fun blk off cap ss W hH hblk hsz => callsIn_wide.2 (AnyM.slices_Sort_int Try.sortA blk off cap ss W hH hblk hsz),
   fun p cap W => callsIn_wide.2 (AnyM.slices_Sort_int_none Try.sortA p cap W)⟩
theorem keys_perm {E : List (Lit × DataW Value)} {N : List (Int × Nat)} (h : E.Perm (N.map (entV ptrV))) : (intKeys (DataW.map E)).Perm (N.map (·.1)) := by
  show (List.map _ E).Perm _
  refine (List.Perm.map _ h).trans ?_
  rw [List.map_map]
  exact List.Perm.refl _
theorem sorted_one {a b : List Int} (ha : a.Pairwise (· ≤ ·)) (hb : b.Pairwise (· ≤ ·)) (h : a.Perm b) : a = b := List.Perm.eq_of_pairwise (fun x y _ _ h1 h2 => Int.le_antisymm h1 h2) ha hb h
theorem merge_ids (L : ObL) {ss : List Int} (h : ss.Perm (idsO L)) : ss.mergeSort (fun x y => decide (x ≤ y)) = idsO L := by
  refine sorted_one ?_ ((ids_up L _).imp fun h => by omega) ((List.mergeSort_perm _ _).trans h)
  have h1 : (ss.mergeSort fun x y => decide (x ≤ y)).Pairwise (fun x y => decide (x ≤ y) = true) := List.pairwise_mergeSort (fun a b c h1 h2 => by simp at *; omega) (fun a b => by simp; omega) ss
  exact h1.imp fun h => by simpa using h
set_option maxHeartbeats 2000000 in
theorem po_ids (h : PO w p most M1 M2 L S) : Calls Try.prog 26 #[.pointer (some ⟨p, 0, none⟩)] w fun e w' => ∃ u, e = .returned u ∧ RowOf zCells 1 w' u (idsO L) ∧ (∀ b, u.ownBlock = some b → w.heap.size ≤ b) ∧ w.grownBy w' none := by
  have HA := Lib.hid (po_made h)
  have c0 := h.at.2.1
  obtain ⟨E, hown, hperm⟩ := h.m1
  have hNl := nsO_len (L := L) (S := S)
  have hsz : Maps.size (DataW.map E) = (nsO L S).length := by
    show E.length = (nsO L S).length
    rw [hperm.length_eq, List.length_map]
  have HK := Lib.hid (show (intKeys (DataW.map E)).Perm (idsO L) by rw [← nsO_keys (S := S) h.len]; exact keys_perm hperm)
  refine (callsIn_wide (n := 6)).1 ?_
  have hbl := hown.lt
  have hseq : SeqGives Fence.wide 2 Try.prog 43 #[.pointer (some ⟨w.heap.size, 0, none⟩)] encZ (fun ss => ss.Perm (intKeys (DataW.map E))) (Maps.size (DataW.map E)) (w.alloc (.cells #[.map (some M1)] 65)) :=
    AnyZI.keys_gives (ρ := Try.keysA_ren) { Try.keysA with } Fence.wide _ trivial rfl (by omega) w.heap.size M1 (nsO L S).length (DataW.map E) _ (by simp) (by simp) (by
      obtain ⟨es, clock, hb, Ft, hs, hD⟩ := hown
      exact ⟨es, clock, (Below.heap_alloc _ _ M1 hbl).trans hb, Ft, hs, hD⟩)
  have cA : CallsIn Fence.wide 5 Try.prog 31 #[.pointer (some ⟨p, 0, none⟩)] w fun e w' => e = .returned (.bool true) ∧ w' = w := callsIn_wide.2 HA.out
  have cK : ∀ mb W, CallsIn Fence.wide 5 Try.prog 38 #[.map mb] W fun e w' => e = .returned (.func (.func 43) #[] #[.pointer (some ⟨W.heap.size, 0, none⟩)]) ∧ w' = W.alloc (.cells #[.map mb] 65) := fun mb W => AnyZI.keys_in Try.keysA Fence.wide 5 trivial rfl mb W
  have cS := AnyZI.sorted_in Try.sortedA Fence.wide 5 trivial trivial trivial trivial rfl (by omega) (sorts14 _) (enters_of Try.func42 (by kernel_rfl) rfl) 43 #[.pointer (some ⟨w.heap.size, 0, none⟩)] trivial (enters_of Try.func43 (by kernel_rfl) rfl) _ _ (by rw [hsz]; unfold maxLen; omega) (by rw [hsz]; omega) _ hseq
  change CallsIn _ _ Try.prog 37 _ _ _ at cS
  have hfA : Fence.wide.fn 31 := trivial
  have hfK : Fence.wide.fn 38 := trivial
  have hfS : Fence.wide.fn 37 := trivial
  clear h hown hperm hsz HA hseq
  refine callsIn_of_wp Try.func26 rfl trivial ?_ rfl
  simp only [Try.ntmps26, List.size_toArray, List.length_cons, List.length_nil, Nat.reduceAdd, Nat.reduceSub, Array.replicate_succ, Array.replicate_zero, List.push_toArray, List.append_toArray, List.nil_append, List.cons_append]
  gi_wp2_with (first
    | (gi_at_call 31; refine cA.mono ?_; rintro e w' ⟨rfl, e2⟩; subst w')
    | (gi_at_call 38; refine (cK _ _).mono ?_; rintro e w' ⟨rfl, rfl⟩)
    | (gi_at_call 37; refine cS.mono ?_; rintro e w' ⟨v, ss, rfl, hS, hrow, hnil, hb⟩))
  go_ret
  have hp := hS.trans HK.out
  rw [merge_ids L hp, hp.length_eq] at hrow
  have e1 : (w.alloc (.cells #[.map (some M1)] 65)).heap.size = w.heap.size + 1 := by simp
  have ga := World.grownBy_alloc w (.cells #[.map (some M1)] 65) none
  refine ⟨_, rfl, ?_, fun b hb2 => ?_, ⟨hb.os.trans ga.os, hb.tape.trans ga.tape, hb.output.trans ga.output, Nat.le_trans ga.size hb.size, fun k hk _ => (hb.block k (by omega)).trans (ga.block k hk (by simp))⟩⟩
  · have h1 := RowAt.own hrow
    unfold RowOf
    rw [z_flat]
    exact h1
  · have := (World.ownsRow.lt hrow b hb2).1
    omega
end
end Go.Proofs.Ytefcefclncbimaa
