/- Layer 17 (landed): Entries, Procs, Handles of a world. Written by wip/genflhd.py. -/
import Derived.Test.YtefiiooibbkffaaGreatFlMq
import Derived.Test.YtefiiooibbkffaaGreatFlLay
import Derived.Shelf.AbstractIn
import Derived.Maps.RangeWalk
namespace Go.Proofs.YtefiiooibbkffaaGreat
open Go.ChangeShapes Go.WideShapes Go.ChangeAt Go.RowKit Go.Deep Go.Maps Go.Sort Go.Shelf
set_option linter.unusedVariables false
set_option linter.unusedSimpArgs false

section
variable {w w' : World} {kd : Nat → Ro} {t r : Nat} {h : Gh} {S : Fl} {id : Int} {p : Pr}
set_option maxHeartbeats 2000000 in
theorem fentries_ok (k : FW w kd t r h S) (hok : SOk S) (hi : okI id) (hp : geA S.ps id = some p) :
    Calls Tryz.prog 23 #[.pointer (some ⟨r, 0, none⟩), .int .i64 id] w fun e w' => ∃ u, e = .returned u ∧ EOwn w' w.heap.size u p.L ∧ w.grownBy w' none := by
  have k0 := k.hw.at.1
  have hlk := k.pm.look (geA_ids hp) hi
  have hP := k.bw.get hp
  have c0 := hP.at0
  have HM := Lib.hid (isMade_ok k0)
  have HE := Lib.hid (entries_ok hP.vm (Nat.le_trans (hok.pi _ (geA_some hp)).ln (by decide)))
  clear k hp hok hP hi
  go_enter Tryz.func23, Tryz.ntmps23
  go_wp2_with fail
  refine HM.out.mono ?_
  rintro e w2 ⟨rfl, rfl⟩
  go_wp2_with fail
  refine HE.out.mono ?_
  rintro e w3 ⟨u, rfl, k3, g3⟩
  have HK := Lib.hid (And.intro k3 g3)
  obtain ⟨a3, z3, hvf⟩ := OwnOf.form k3
  subst hvf
  clear k3 g3 HE HM
  go_wp2_with fail
  go_ret
  exact ⟨_, rfl, HK.out.1, HK.out.2⟩
end
/-! ### keys of a map, sorted -/
def sortI (l : List Int) : List Int := l.mergeSort fun x y => decide (x ≤ y)
theorem sorts17 (m : Nat) : AnyZI.SortsIn Tryz.prog Tryz.sortedA_ren Fence.wide m :=
  ⟨fun blk off cap ss W hH hblk hsz => callsIn_wide.2 (AnyM.slices_Sort_int Tryz.sortA blk off cap ss W hH hblk hsz),
   fun p cap W => callsIn_wide.2 (AnyM.slices_Sort_int_none Tryz.sortA p cap W)⟩
theorem keys_perm17 {E : List (Lit × DataW Value)} {N : List (Int × Value)} (h : E.Perm (N.map (ent klI))) : (intKeys (DataW.map E)).Perm (N.map (·.1)) := by
  show (List.map _ E).Perm _
  refine (List.Perm.map _ h).trans ?_
  rw [List.map_map]
  exact List.Perm.refl _
theorem sortI_le (l : List Int) : (sortI l).Pairwise (· ≤ ·) := by
  have h1 : (l.mergeSort fun x y => decide (x ≤ y)).Pairwise (fun x y => decide (x ≤ y) = true) := List.pairwise_mergeSort (fun a b c h1 h2 => by simp at *; omega) (fun a b => by simp; omega) l
  exact h1.imp fun h => by simpa using h
theorem sortI_one {a b : List Int} (h : a.Perm b) : sortI a = sortI b :=
  List.Perm.eq_of_pairwise (fun x y _ _ h1 h2 => Int.le_antisymm h1 h2) (sortI_le a) (sortI_le b) (((List.mergeSort_perm a _).trans h).trans (List.mergeSort_perm b _).symm)
theorem sortI_length (l : List Int) : (sortI l).length = l.length := (List.mergeSort_perm l _).length_eq
section
variable {w w' : World} {kd : Nat → Ro} {t r : Nat} {h : Gh} {S : Fl}
set_option maxHeartbeats 4000000 in
theorem fprocs_ok (k : FW w kd t r h S) (hok : SOk S) : Calls Tryz.prog 20 #[.pointer (some ⟨r, 0, none⟩)] w fun e w' => ∃ u, e = .returned u ∧ RowOf zCells 1 w' u (sortI (S.ps.map (·.1))) ∧ (∀ b, u.ownBlock = some b → w.heap.size ≤ b) ∧ w.grownBy w' none := by
  have k0 := k.hw.at.1
  have k1 := k.hw.at.1
  have HM := Lib.hid (isMade_ok k0)
  have hmv := k.pm.pm
  obtain ⟨E, hown, hperm⟩ := hmv.own
  have hNl : S.ps.length ≤ 64 := by have := hok.pl; omega
  have hsz : Maps.size (DataW.map E) = S.ps.length := by
    show E.length = S.ps.length
    rw [hperm.length_eq]
    simp
  have HK := Lib.hid (show (intKeys (DataW.map E)).Perm (S.ps.map (·.1)) from by
    have h1 := keys_perm17 hperm
    rw [List.map_map] at h1
    first
    | exact h1
    | (refine h1.trans ?_
       rw [List.map_map]
       exact List.Perm.refl _))
  refine (callsIn_wide (n := 6)).1 ?_
  have hbl := hown.lt
  have hseq : SeqGives Fence.wide 2 Tryz.prog 108 #[.pointer (some ⟨w.heap.size, 0, none⟩)] encZ (fun ss => ss.Perm (intKeys (DataW.map E))) (Maps.size (DataW.map E)) (w.alloc (.cells #[.map (some h.pm)] 52)) :=
    AnyZI.keys_gives (ρ := Tryz.keysA_ren) { Tryz.keysA with } Fence.wide _ trivial rfl (by omega) w.heap.size h.pm _ (DataW.map E) _ (by simp) (by simp) (by
      obtain ⟨es, clock, hb, Ft, hs, hD⟩ := hown
      exact ⟨es, clock, (Below.heap_alloc _ _ h.pm hbl).trans hb, Ft, hs, hD⟩)
  have cM : CallsIn Fence.wide 5 Tryz.prog 51 #[.pointer (some ⟨r, 0, none⟩)] w fun e w' => e = .returned (.bool true) ∧ w' = w := callsIn_wide.2 HM.out
  have cK : ∀ mb W, CallsIn Fence.wide 5 Tryz.prog 56 #[.map mb] W fun e w' => e = .returned (.func (.func 108) #[] #[.pointer (some ⟨W.heap.size, 0, none⟩)]) ∧ w' = W.alloc (.cells #[.map mb] 52) := fun mb W => AnyZI.keys_in Tryz.keysA Fence.wide 5 trivial rfl mb W
  have cS := AnyZI.sorted_in Tryz.sortedA Fence.wide 5 trivial trivial trivial trivial rfl (by omega) (sorts17 _) (enters_of Tryz.func107 (by kernel_rfl) rfl) 108 #[.pointer (some ⟨w.heap.size, 0, none⟩)] trivial (enters_of Tryz.func108 (by kernel_rfl) rfl) _ _ (by rw [hsz]; unfold maxLen; omega) (by rw [hsz]; omega) _ hseq
  change CallsIn _ _ Tryz.prog 55 _ _ _ at cS
  have hfM : Fence.wide.fn 51 := trivial
  have hfK : Fence.wide.fn 56 := trivial
  have hfS : Fence.wide.fn 55 := trivial
  clear k hmv hown hperm hsz HM hseq hok k0
  refine callsIn_of_wp Tryz.func20 rfl trivial ?_ rfl
  simp only [Tryz.ntmps20, List.size_toArray, List.length_cons, List.length_nil, Nat.reduceAdd, Nat.reduceSub, Array.replicate_succ, Array.replicate_zero, List.push_toArray, List.append_toArray, List.nil_append, List.cons_append]
  gi_wp2_with (first
    | (gi_at_call 51; refine cM.mono ?_; rintro e w' ⟨rfl, e2⟩; subst w')
    | (gi_at_call 56; refine (cK _ _).mono ?_; rintro e w' ⟨rfl, rfl⟩)
    | (gi_at_call 55; refine cS.mono ?_; rintro e w' ⟨v, ss, rfl, hS, hrow, hnil, hb⟩))
  go_ret
  have hp := hS.trans HK.out
  have hm : ss.mergeSort (fun x y => decide (x ≤ y)) = sortI (S.ps.map (·.1)) := sortI_one hp
  rw [hm, hp.length_eq, ← sortI_length] at hrow
  have ga := World.grownBy_alloc w (.cells #[.map (some h.pm)] 52) none
  have e1 : (w.alloc (.cells #[.map (some h.pm)] 52)).heap.size = w.heap.size + 1 := by simp
  refine ⟨_, rfl, ?_, fun b hb2 => ?_, ⟨hb.os.trans ga.os, hb.tape.trans ga.tape, hb.output.trans ga.output, Nat.le_trans ga.size hb.size, fun k hk _ => (hb.block k (by omega)).trans (ga.block k hk (by simp))⟩⟩
  · have h1 := RowAt.own hrow
    unfold RowOf
    rw [z_flat]
    exact h1
  · have := (World.ownsRow.lt hrow b hb2).1
    omega
end
end Go.Proofs.YtefiiooibbkffaaGreat
