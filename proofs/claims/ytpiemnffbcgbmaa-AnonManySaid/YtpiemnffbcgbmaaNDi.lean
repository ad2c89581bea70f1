/- Package anon (landed): Ids, the map's keys, sorted. -/
import Derived.Test.YtpiemnffbcgbmaaNDh
import Derived.Test.YtpiemnffbcgbmaaNLay
import Derived.Shelf.AbstractIn
namespace Go.Proofs.Ytpiemnffbcgbmaa
open Go.ChangeShapes Go.WideShapes Go.ChangeAt Go.RowKit Go.Deep Go.Maps Go.Sort Go.Shelf
set_option linter.unusedVariables false

/-- slices.Sort's two contracts at this program, at the fence that asks nothing. -/
theorem sorts12 (m : Nat) : AnyZI.SortsIn Try.prog Try.sortedA_ren Fence.wide m :=
  ⟨fun blk off cap ss W hH hblk hsz => callsIn_wide.2 (AnyM.slices_Sort_int Try.sortA blk off cap ss W hH hblk hsz),
   fun p cap W => callsIn_wide.2 (AnyM.slices_Sort_int_none Try.sortA p cap W)⟩
theorem keys_perm {E : List (Lit × DataW Value)} {N : List (Int × Nat)} (h : E.Perm (N.map (ent klI))) : (intKeys (DataW.map E)).Perm (N.map (·.1)) := by
  show (List.map _ E).Perm _
  refine (List.Perm.map _ h).trans ?_
  rw [List.map_map]
  exact List.Perm.refl _
theorem sorted_one {a b : List Int} (ha : a.Pairwise (· ≤ ·)) (hb : b.Pairwise (· ≤ ·)) (h : a.Perm b) : a = b := List.Perm.eq_of_pairwise (fun x y _ _ h1 h2 => Int.le_antisymm h1 h2) ha hb h
theorem merge_ids (L : List AnV) {ss : List Int} (h : ss.Perm (idsN L)) : ss.mergeSort (fun x y => decide (x ≤ y)) = idsN L := by
  refine sorted_one ?_ ((ids_sorted L _).imp fun h => by omega) ((List.mergeSort_perm _ _).trans h)
  have h1 : (ss.mergeSort fun x y => decide (x ≤ y)).Pairwise (fun x y => decide (x ≤ y) = true) := List.pairwise_mergeSort (fun a b c h1 h2 => by simp at *; omega) (fun a b => by simp; omega) ss
  exact h1.imp fun h => by simpa using h

section
variable {w w' w2 : World} {p most M : Nat} {hv : Value} {zs : List Int} {N : List (Int × Nat)} {L : List AnV}
set_option maxHeartbeats 2000000 in
theorem pa_ids (h : PA w p most M hv zs N L) : Calls Try.prog 21 #[.pointer (some ⟨p, 0, none⟩)] w fun e w' => ∃ u, e = .returned u ∧ RowOf zCells 1 w' u (idsN L) ∧ (∀ b, u.ownBlock = some b → w.heap.size ≤ b) ∧ w.grownBy w' none := by
  have HA := Lib.hid (pa_all h)
  obtain ⟨E, hown, hperm⟩ := h.map
  have hNl := h.zlen.2
  have hsz : Maps.size (DataW.map E) = N.length := by
    show E.length = N.length
    rw [hperm.length_eq, List.length_map]
  have HK := Lib.hid ((keys_perm hperm).trans h.ids)
  refine (callsIn_wide (n := 6)).1 ?_
  have hbl := hown.lt
  have hseq : SeqGives Fence.wide 2 Try.prog 39 #[.pointer (some ⟨w.heap.size, 0, none⟩)] encZ (fun ss => ss.Perm (intKeys (DataW.map E))) (Maps.size (DataW.map E)) (w.alloc (.cells #[.map (some M)] 58)) :=
    AnyZI.keys_gives (ρ := Try.keysA_ren) { Try.keysA with } Fence.wide _ trivial rfl (by omega) w.heap.size M N.length (DataW.map E) _ (by simp) (by simp) (by
      obtain ⟨es, clock, hb, Ft, hs, hD⟩ := hown
      exact ⟨es, clock, (Below.heap_alloc _ _ M hbl).trans hb, Ft, hs, hD⟩)
  have cA : CallsIn Fence.wide 5 Try.prog 32 #[.pointer (some ⟨p, 0, none⟩)] w fun e w' => e = .returned (.map (some M)) ∧ w' = w := callsIn_wide.2 HA.out
  have cK : ∀ mb W, CallsIn Fence.wide 5 Try.prog 34 #[.map mb] W fun e w' => e = .returned (.func (.func 39) #[] #[.pointer (some ⟨W.heap.size, 0, none⟩)]) ∧ w' = W.alloc (.cells #[.map mb] 58) := fun mb W => AnyZI.keys_in Try.keysA Fence.wide 5 trivial rfl mb W
  have cS := AnyZI.sorted_in Try.sortedA Fence.wide 5 trivial trivial trivial trivial rfl (by omega) (sorts12 _) (enters_of Try.func38 (by kernel_rfl) rfl) 39 #[.pointer (some ⟨w.heap.size, 0, none⟩)] trivial (enters_of Try.func39 (by kernel_rfl) rfl) _ _ (by rw [hsz]; unfold maxLen; omega) (by rw [hsz]; omega) _ hseq
  change CallsIn _ _ Try.prog 33 _ _ _ at cS
  have hfA : Fence.wide.fn 32 := trivial
  have hfK : Fence.wide.fn 34 := trivial
  have hfS : Fence.wide.fn 33 := trivial
  clear h hown hperm hsz HA hseq
  refine callsIn_of_wp Try.func21 rfl trivial ?_ rfl
  simp only [Try.ntmps21, List.size_toArray, List.length_cons, List.length_nil, Nat.reduceAdd, Nat.reduceSub, Array.replicate_succ, Array.replicate_zero, List.push_toArray, List.append_toArray, List.nil_append, List.cons_append]
  gi_wp2_with (first
    | (gi_at_call 32; refine cA.mono ?_; rintro e w' ⟨rfl, e2⟩; subst w')
    | (gi_at_call 34; refine (cK _ _).mono ?_; rintro e w' ⟨rfl, rfl⟩)
    | (gi_at_call 33; refine cS.mono ?_; rintro e w' ⟨v, ss, rfl, hS, hrow, hnil, hb⟩))
  go_ret
  have hp := hS.trans HK.out
  rw [merge_ids L hp, hp.length_eq] at hrow
  have e1 : (w.alloc (.cells #[.map (some M)] 58)).heap.size = w.heap.size + 1 := by simp
  have ga := World.grownBy_alloc w (.cells #[.map (some M)] 58) none
  refine ⟨_, rfl, ?_, fun b hb2 => ?_, ⟨hb.os.trans ga.os, hb.tape.trans ga.tape, hb.output.trans ga.output, Nat.le_trans ga.size hb.size, fun k hk _ => (hb.block k (by omega)).trans (ga.block k hk (by simp))⟩⟩
  · have h1 := RowAt.own hrow
    unfold RowOf
    rw [z_flat]
    exact h1
  · have := (World.ownsRow.lt hrow b hb2).1
    omega
end
end Go.Proofs.Ytpiemnffbcgbmaa
