/- Layer 17 (landed): Entries, Procs, Handles of a world. Written by wip/genflhd.py. Layer 17 (landed): FlatForks, walked. -/
import Derived.Test.YtefiiooibbkffaaGreatFlMq
import Derived.Test.YtefiiooibbkffaaGreatFlLay
import Derived.Shelf.AbstractIn
import Derived.Maps.RangeWalk
import Derived.Test.YtefiiooibbkffaaGreatFlMs
namespace Go.Proofs.YtefiiooibbkffaaGreat
open Go.ChangeShapes Go.WideShapes Go.ChangeAt Go.RowKit Go.Deep Go.Maps Go.Sort Go.Shelf
set_option linter.unusedVariables false
set_option linter.unusedSimpArgs false

section
variable {w w' : World} {kd : Nat → Ro} {t r : Nat} {h : Gh} {S : Fl} {id : Int} {p : Pr}
set_option maxHeartbeats 2000000 in
theorem fentries_ok (k : FW w kd t r h S) (hok : SOk S) (hi : okI id) (hp : geA S.ps id = some p) :
    Calls Tryz.prog 23 #[.pointer (some ⟨r, 0, none⟩), .int .i64 id] w fun e w' => ∃ u, e = .returned u ∧ EOwn w' w.heap.size u p.L ∧ w.grownBy w' none := by
  have k0 := k.hw.at.1
  have hlk := k.pm.look (geA_ids hp) hi
  have hP := k.bw.get hp
  have c0 := hP.at0
  have HM := Lib.hid (isMade_ok k0)
  have HE := Lib.hid (entries_ok hP.vm (Nat.le_trans (hok.pi _ (geA_some hp)).ln (by decide)))
  clear k hp hok hP hi
  go_enter Tryz.func23, Tryz.ntmps23
  go_wp2_with fail
  refine HM.out.mono ?_
  rintro e w2 ⟨rfl, rfl⟩
  go_wp2_with fail
  refine HE.out.mono ?_
  rintro e w3 ⟨u, rfl, k3, g3⟩
  have HK := Lib.hid (And.intro k3 g3)
  obtain ⟨a3, z3, hvf⟩ := OwnOf.form k3
  subst hvf
  clear k3 g3 HE HM
  go_wp2_with fail
  go_ret
  exact ⟨_, rfl, HK.out.1, HK.out.2⟩
end
/-! ### keys of a map, sorted -/
def sortI (l : List Int) : List Int := l.mergeSort fun x y => decide (x ≤ y)
theorem sorts17 (m : Nat) : AnyZI.SortsIn Tryz.prog Tryz.sortedA_ren Fence.wide m :=
  ⟨fun blk off cap ss W hH hblk hsz => callsIn_wide.2 (AnyM.slices_Sort_int Tryz.sortA blk off cap ss W hH hblk hsz),
   fun p cap W => callsIn_wide.2 (AnyM.slices_Sort_int_none Tryz.sortA p cap W)⟩
theorem keys_perm17 {E : List (Lit × DataW Value)} {N : List (Int × Value)} (h : E.Perm (N.map (ent klI))) : (intKeys (DataW.map E)).Perm (N.map (·.1)) := by
  show (List.map _ E).Perm _
  refine (List.Perm.map _ h).trans ?_
  rw [List.map_map]
  exact List.Perm.refl _
theorem sortI_le (l : List Int) : (sortI l).Pairwise (· ≤ ·) := by
  have h1 : (l.mergeSort fun x y => decide (x ≤ y)).Pairwise (fun x y => decide (x ≤ y) = true) := List.pairwise_mergeSort (fun a b c h1 h2 => by simp at *; omega) (fun a b => by simp; omega) l
  exact h1.imp fun h => by simpa using h
theorem sortI_one {a b : List Int} (h : a.Perm b) : sortI a = sortI b :=
  List.Perm.eq_of_pairwise (fun x y _ _ h1 h2 => Int.le_antisymm h1 h2) (sortI_le a) (sortI_le b) (((List.mergeSort_perm a _).trans h).trans (List.mergeSort_perm b _).symm)
theorem mem_sortI {l : List Int} {x : Int} : x ∈ sortI l ↔ x ∈ l := (List.mergeSort_perm l _).mem_iff
theorem sortI_length (l : List Int) : (sortI l).length = l.length := (List.mergeSort_perm l _).length_eq
section
variable {w w' : World} {kd : Nat → Ro} {t r : Nat} {h : Gh} {S : Fl}
set_option maxHeartbeats 4000000 in
theorem fprocs_ok (k : FW w kd t r h S) (hok : SOk S) : Calls Tryz.prog 20 #[.pointer (some ⟨r, 0, none⟩)] w fun e w' => ∃ u, e = .returned u ∧ RowOf zCells 1 w' u (sortI (S.ps.map (·.1))) ∧ (∀ b, u.ownBlock = some b → w.heap.size ≤ b) ∧ w.grownBy w' none := by
  have k0 := k.hw.at.1
  have k1 := k.hw.at.1
  have HM := Lib.hid (isMade_ok k0)
  have hmv := k.pm.pm
  obtain ⟨E, hown, hperm⟩ := hmv.own
  have hNl : S.ps.length ≤ 64 := by have := hok.pl; omega
  have hsz : Maps.size (DataW.map E) = S.ps.length := by
    show E.length = S.ps.length
    rw [hperm.length_eq]
    simp
  have HK := Lib.hid (show (intKeys (DataW.map E)).Perm (S.ps.map (·.1)) from by
    have h1 := keys_perm17 hperm
    rw [List.map_map] at h1
    first
    | exact h1
    | (refine h1.trans ?_
       rw [List.map_map]
       exact List.Perm.refl _))
  refine (callsIn_wide (n := 6)).1 ?_
  have hbl := hown.lt
  have hseq : SeqGives Fence.wide 2 Tryz.prog 108 #[.pointer (some ⟨w.heap.size, 0, none⟩)] encZ (fun ss => ss.Perm (intKeys (DataW.map E))) (Maps.size (DataW.map E)) (w.alloc (.cells #[.map (some h.pm)] 52)) :=
    AnyZI.keys_gives (ρ := Tryz.keysA_ren) { Tryz.keysA with } Fence.wide _ trivial rfl (by omega) w.heap.size h.pm _ (DataW.map E) _ (by simp) (by simp) (by
      obtain ⟨es, clock, hb, Ft, hs, hD⟩ := hown
      exact ⟨es, clock, (Below.heap_alloc _ _ h.pm hbl).trans hb, Ft, hs, hD⟩)
  have cM : CallsIn Fence.wide 5 Tryz.prog 51 #[.pointer (some ⟨r, 0, none⟩)] w fun e w' => e = .returned (.bool true) ∧ w' = w := callsIn_wide.2 HM.out
  have cK : ∀ mb W, CallsIn Fence.wide 5 Tryz.prog 56 #[.map mb] W fun e w' => e = .returned (.func (.func 108) #[] #[.pointer (some ⟨W.heap.size, 0, none⟩)]) ∧ w' = W.alloc (.cells #[.map mb] 52) := fun mb W => AnyZI.keys_in Tryz.keysA Fence.wide 5 trivial rfl mb W
  have cS := AnyZI.sorted_in Tryz.sortedA Fence.wide 5 trivial trivial trivial trivial rfl (by omega) (sorts17 _) (enters_of Tryz.func107 (by kernel_rfl) rfl) 108 #[.pointer (some ⟨w.heap.size, 0, none⟩)] trivial (enters_of Tryz.func108 (by kernel_rfl) rfl) _ _ (by rw [hsz]; unfold maxLen; omega) (by rw [hsz]; omega) _ hseq
  change CallsIn _ _ Tryz.prog 55 _ _ _ at cS
  have hfM : Fence.wide.fn 51 := trivial
  have hfK : Fence.wide.fn 56 := trivial
  have hfS : Fence.wide.fn 55 := trivial
  clear k hmv hown hperm hsz HM hseq hok k0
  refine callsIn_of_wp Tryz.func20 rfl trivial ?_ rfl
  simp only [Tryz.ntmps20, List.size_toArray, List.length_cons, List.length_nil, Nat.reduceAdd, Nat.reduceSub, Array.replicate_succ, Array.replicate_zero, List.push_toArray, List.append_toArray, List.nil_append, List.cons_append]
  gi_wp2_with (first
    | (gi_at_call 51; refine cM.mono ?_; rintro e w' ⟨rfl, e2⟩; subst w')
    | (gi_at_call 56; refine (cK _ _).mono ?_; rintro e w' ⟨rfl, rfl⟩)
    | (gi_at_call 55; refine cS.mono ?_; rintro e w' ⟨v, ss, rfl, hS, hrow, hnil, hb⟩))
  go_ret
  have hp := hS.trans HK.out
  have hm : ss.mergeSort (fun x y => decide (x ≤ y)) = sortI (S.ps.map (·.1)) := sortI_one hp
  rw [hm, hp.length_eq, ← sortI_length] at hrow
  have ga := World.grownBy_alloc w (.cells #[.map (some h.pm)] 52) none
  have e1 : (w.alloc (.cells #[.map (some h.pm)] 52)).heap.size = w.heap.size + 1 := by simp
  refine ⟨_, rfl, ?_, fun b hb2 => ?_, ⟨hb.os.trans ga.os, hb.tape.trans ga.tape, hb.output.trans ga.output, Nat.le_trans ga.size hb.size, fun k hk _ => (hb.block k (by omega)).trans (ga.block k hk (by simp))⟩⟩
  · have h1 := RowAt.own hrow
    unfold RowOf
    rw [z_flat]
    exact h1
  · have := (World.ownsRow.lt hrow b hb2).1
    omega
set_option maxHeartbeats 4000000 in
theorem fhandles_ok (k : FW w kd t r h S) (hok : SOk S) : Calls Tryz.prog 25 #[.pointer (some ⟨r, 0, none⟩)] w fun e w' => ∃ u, e = .returned u ∧ RowOf zCells 1 w' u (sortI (S.H.map (·.1))) ∧ (∀ b, u.ownBlock = some b → w.heap.size ≤ b) ∧ w.grownBy w' none := by
  have k0 := k.hw.at.1
  have k1 := k.hw.at.2.2.2.1
  have HM := Lib.hid (isMade_ok k0)
  have hmv := k.hw.lm
  obtain ⟨E, hown, hperm⟩ := hmv.own
  have hNl : S.H.length ≤ 64 := by have := hok.hh; omega
  have hsz : Maps.size (DataW.map E) = S.H.length := by
    show E.length = S.H.length
    rw [hperm.length_eq]
    simp
  have HK := Lib.hid (show (intKeys (DataW.map E)).Perm (S.H.map (·.1)) from by
    have h1 := keys_perm17 hperm
    rw [List.map_map] at h1
    first
    | exact h1
    | (refine h1.trans ?_
       rw [List.map_map]
       exact List.Perm.refl _))
  refine (callsIn_wide (n := 6)).1 ?_
  have hbl := hown.lt
  have hseq : SeqGives Fence.wide 2 Tryz.prog 114 #[.pointer (some ⟨w.heap.size, 0, none⟩)] encZ (fun ss => ss.Perm (intKeys (DataW.map E))) (Maps.size (DataW.map E)) (w.alloc (.cells #[.map (some h.lm)] 56)) :=
    AnyZI.keys_gives (ρ := Tryz.keysH_ren) { Tryz.keysH with } Fence.wide _ trivial rfl (by omega) w.heap.size h.lm _ (DataW.map E) _ (by simp) (by simp) (by
      obtain ⟨es, clock, hb, Ft, hs, hD⟩ := hown
      exact ⟨es, clock, (Below.heap_alloc _ _ h.lm hbl).trans hb, Ft, hs, hD⟩)
  have cM : CallsIn Fence.wide 5 Tryz.prog 51 #[.pointer (some ⟨r, 0, none⟩)] w fun e w' => e = .returned (.bool true) ∧ w' = w := callsIn_wide.2 HM.out
  have cK : ∀ mb W, CallsIn Fence.wide 5 Tryz.prog 62 #[.map mb] W fun e w' => e = .returned (.func (.func 114) #[] #[.pointer (some ⟨W.heap.size, 0, none⟩)]) ∧ w' = W.alloc (.cells #[.map mb] 56) := fun mb W => AnyZI.keys_in Tryz.keysH Fence.wide 5 trivial rfl mb W
  have cS := AnyZI.sorted_in Tryz.sortedA Fence.wide 5 trivial trivial trivial trivial rfl (by omega) (sorts17 _) (enters_of Tryz.func107 (by kernel_rfl) rfl) 114 #[.pointer (some ⟨w.heap.size, 0, none⟩)] trivial (enters_of Tryz.func114 (by kernel_rfl) rfl) _ _ (by rw [hsz]; unfold maxLen; omega) (by rw [hsz]; omega) _ hseq
  change CallsIn _ _ Tryz.prog 55 _ _ _ at cS
  have hfM : Fence.wide.fn 51 := trivial
  have hfK : Fence.wide.fn 62 := trivial
  have hfS : Fence.wide.fn 55 := trivial
  clear k hmv hown hperm hsz HM hseq hok k0
  refine callsIn_of_wp Tryz.func25 rfl trivial ?_ rfl
  simp only [Tryz.ntmps25, List.size_toArray, List.length_cons, List.length_nil, Nat.reduceAdd, Nat.reduceSub, Array.replicate_succ, Array.replicate_zero, List.push_toArray, List.append_toArray, List.nil_append, List.cons_append]
  gi_wp2_with (first
    | (gi_at_call 51; refine cM.mono ?_; rintro e w' ⟨rfl, e2⟩; subst w')
    | (gi_at_call 62; refine (cK _ _).mono ?_; rintro e w' ⟨rfl, rfl⟩)
    | (gi_at_call 55; refine cS.mono ?_; rintro e w' ⟨v, ss, rfl, hS, hrow, hnil, hb⟩))
  go_ret
  have hp := hS.trans HK.out
  have hm : ss.mergeSort (fun x y => decide (x ≤ y)) = sortI (S.H.map (·.1)) := sortI_one hp
  rw [hm, hp.length_eq, ← sortI_length] at hrow
  have ga := World.grownBy_alloc w (.cells #[.map (some h.lm)] 56) none
  have e1 : (w.alloc (.cells #[.map (some h.lm)] 56)).heap.size = w.heap.size + 1 := by simp
  refine ⟨_, rfl, ?_, fun b hb2 => ?_, ⟨hb.os.trans ga.os, hb.tape.trans ga.tape, hb.output.trans ga.output, Nat.le_trans ga.size hb.size, fun k hk _ => (hb.block k (by omega)).trans (ga.block k hk (by simp))⟩⟩
  · have h1 := RowAt.own hrow
    unfold RowOf
    rw [z_flat]
    exact h1
  · have := (World.ownsRow.lt hrow b hb2).1
    omega

end
end Go.Proofs.YtefiiooibbkffaaGreat

namespace Go.Proofs.YtefiiooibbkffaaGreat
open Go.ChangeShapes Go.WideShapes Go.ChangeAt Go.RowKit Go.Deep Go.Sort
set_option linter.unusedVariables false
set_option linter.unusedSimpArgs false

section
variable {w0 w : World} {S : Fl} {r : Nat} {A : List (Nat × Int × Int)}
theorem St.entries (s : St w0 w S r A) (hok : SOk S) {id : Int} (hi : okI id) {p : Pr} (hp : geA S.ps id = some p) :
    Calls Tryz.prog 23 #[.pointer (some ⟨r, 0, none⟩), .int .i64 id] w fun e w' => ∃ u, e = .returned u ∧ EOwn w' w.heap.size u p.L ∧ w.grownBy w' none := by
  obtain ⟨kd, h, f, -, -⟩ := s
  exact fentries_ok f hok hi hp
theorem St.byte (s : St w0 w S r A) (hok : SOk S) (id pg a : Int) (hi : okI id) {x e : Int} (hb : S.byte id pg a = (x, e)) :
    Calls Tryz.prog 21 #[.pointer (some ⟨r, 0, none⟩), .int .i64 id, .int .i64 pg, .int .i64 a] w fun q w' => q = .returned (.tuple #[.int .i64 x, .int .i64 e]) ∧ w.grownBy w' none := by
  obtain ⟨kd, h, f, -, -⟩ := s
  have := fbyte_ok f hok id pg a hi
  rw [hb] at this
  exact this
theorem St.lens (s : St w0 w S r A) : Lens S := by
  obtain ⟨kd, h, f, -, -⟩ := s
  exact f.lens
end
theorem ans_err (w : World) (e n : Int) : (Instr.field 36 (.agg #[.int .i64 e, .int .i64 n]) 0).run Tryz.prog w = .ok (.int .i64 e) w := by kernel_rfl
theorem ok0 : okI 0 := ⟨by decide, by decide⟩
theorem ok10 : OkO o10 := ⟨(show okI 10 from ⟨by decide, by decide⟩), (show okI 1 from ⟨by decide, by decide⟩), ok0, ok0, ok0, ok0, ok0, ok0, ok0, ok0, ok0, ok0⟩
theorem ok9 {proc pg a v : Int} (h0 : okI proc) (h1 : okI pg) (h2 : okI a) (h3 : okI v) : OkO (o9 proc pg a v) := ⟨(show okI 9 from ⟨by decide, by decide⟩), h0, h1, ok0, ok0, ok0, ok0, ok0, h2, h3, ok0, ok0⟩
set_option maxRecDepth 100000 in
set_option maxHeartbeats 32000000 in
theorem forks17_walk {W : World} {s0 : Option Addr} {l0 c0 : Nat} {A0 : List FOp} (act0 : OpsAre W s0 l0 A0) (pg a : Int) (hpg : okI pg) (ha : okI a) :
    Calls Tryz.prog 7 #[.slice s0 l0 c0, .int .i64 pg, .int .i64 a] W fun e w' => e = .returned (.bool true) ∧ W.grownBy w' none := by
  have HLv := Lib.hid (fun wx => lives_ok wx)
  have HL0 := Lib.hid (light_ok (c := c0) act0 30 (by omega) (by omega))
  have HW := Lib.hid (fun w (g : W.grownBy w none) h1 h2 h3 => world_ok (w := w) (c := c0) (act0.grow g) h1 h2 h3)
  have HPg := Lib.hid hpg
  have HAo := Lib.hid ha
  clear act0 hpg ha
  go_enter Tryz.func7, Tryz.ntmps7
  go_wp2_with fail
  refine HL0.out.mono ?_
  rintro e w1 ⟨b0, rfl, g1, hb0⟩
  have HG1 := Lib.hid g1
  clear g1 HL0
  cases b0 with
  | false =>
    clear hb0
    go_wp2_with fail
    refine (HLv.out _).mono ?_
    rintro e w2 ⟨rfl, g2⟩
    have HG2 := Lib.hid (grown_trans HG1.out g2)
    clear g2
    go_wp2_with fail
    go_ret
    exact ⟨rfl, HG2.out⟩
  | true =>
    obtain ⟨h01, h02, h03⟩ := hb0 rfl
    have HWo := Lib.hid (HW.out w1 HG1.out (by omega) h02 h03)
    have HSi := Lib.hid (show SI (runF (newF [3, 2]) A0) 30 200 by
      have h1 := si_new.run (Int.le_refl _) (os := A0) (by omega) A0.length (Nat.le_refl _)
      rw [List.take_length] at h1
      exact h1.mono (by omega) (by omega))
    have HIv := Lib.hid (show Iv (runF (newF [3, 2]) A0) by
      have h1 := iv_new.run si_new (Int.le_refl _) (os := A0) (by omega) A0.length (Nat.le_refl _)
      rw [List.take_length] at h1
      exact h1)
    obtain ⟨S1, hS1⟩ : ∃ S1, runF (newF [3, 2]) A0 = S1 := ⟨_, rfl⟩
    rw [hS1] at HWo HSi HIv
    clear hb0 hS1 HW h01 h02 h03
    go_wp2_with fail
    refine HWo.out.mono ?_
    rintro e w3 ⟨r, kd3, h3, rfl, k3, cc3⟩
    have HS3 := Lib.hid (show St w1 w3 S1 r [] from ⟨kd3, h3, k3, (fun a ha => by cases ha), cc3⟩)
    clear k3 cc3 HWo
    have HDo := Lib.hid (HS3.out.step (S' := (S1.act o10).S) fun kd h k => do_all k HSi.out (by omega) (by omega) (by omega) o10 ok10 (fun h => by rcases h with h | h <;> cases h))
    have HF := Lib.hid (fork_act (S := S1))
    have HSi2 := Lib.hid (show SI (S1.act o10).S 31 200 by
      have := HSi.out.act (o := o10) (by omega) (by omega)
      rw [show pgO o10 = 0 by unfold pgO o10; simp, Int.add_zero] at this
      exact this)
    generalize (S1.act o10).S = S2 at *
    generalize (S1.act o10).e = er at *
    generalize S1.doN o10 = N at *
    simp only [o10] at HDo
    clear HS3
    go_wp2_with fail
    refine HDo.out.mono ?_
    rintro e w5 ⟨rfl, hs5⟩
    have HS5 := Lib.hid (hs5 er N)
    have a0 := (HS5.out.at (a := (w5.heap.size, er, N)) (by simp)).1
    have a1 := (HS5.out.at (a := (w5.heap.size, er, N)) (by simp)).2
    clear hs5 HDo
    rcases HF.out with ⟨he, p, hp, hN, hS2⟩ | he
    · subst he
      have HK := Lib.hid (show Kin S2 N S1 p (forkF S1 p).pa (forkF S1 p).ch (forkF S1 p) by rw [hS2, hN]; exact fork_kin HSi.out (by omega) HIv.out hp)
      have HNk := Lib.hid (show okI N by
        obtain ⟨i0, e0, e1, -, -⟩ := lowA_spec S1.ps
        have := HSi.out.ps.pl
        rw [hN, e0]
        exact ⟨by omega, by omega⟩)
      have HPl := Lib.hid (HSi.out.ps.pr _ (geA_some hp)).1.mp
      clear hp hN hS2 HF HSi HIv
      generalize (forkF S1 p).pa = pa at *
      generalize (forkF S1 p).ch = ch at *
      generalize forkF S1 p = fk at *
      have HLL := Lib.hid (show pa.L = p.L by have := HK.out; rw [this.ep, this.fk.pl])
      have HOk := Lib.hid (HSi2.out.ok (by omega) (by omega))
      have HEn := Lib.hid (fun W' (g : (w5.alloc (.cells #[.int .i64 0, .int .i64 N] 36)).grownBy W' none) => (HS5.out.grow g).entries HOk.out (id := 1) ⟨by decide, by decide⟩ HK.out.gp)
      have HEn0 := Lib.hid (HEn.out _ (grown_refl _ none))
      clear HEn
      go_wp2_with fail
      refine HEn0.out.mono ?_
      rintro e w6 ⟨u6, rfl, k6, g6⟩
      obtain ⟨s6, c6, hvf⟩ := OwnOf.form k6
      subst hvf
      have HR6 := Lib.hid (eown_row k6)
      have HS6 := Lib.hid (HS5.out.grow g6)
      have hln : pa.L.length ≤ 700 := by
        have h1 := (HSi2.out.ps.pr _ (geA_some HK.out.gp)).1
        have h2 := len_sum _ h1.mp.rf
        have h3 := h1.sm
        simp only at h2 h3
        omega
      have hl0 : 0 ≤ (pa.L.length : Int) := by omega
      obtain ⟨L, hL⟩ : ∃ L, pa.L = L := ⟨_, rfl⟩
      rw [hL] at HR6 HLL hln hl0 ⊢
      have HLe := Lib.hid hL
      clear hL
      clear k6 g6 a0 a1 HEn0
      go_wp2_with fail
      go_loopw [9, 10, 45] (fun hv pv iv wr => ∃ q : Nat, q ≤ L.length ∧ iv = .int .i64 q ∧ hv = .int .i64 (hwF (L.take q) pg (2, false)).1 ∧ pv = .bool (hwF (L.take q) pg (2, false)).2 ∧ Hid (St w1 wr S2 r [(w5.heap.size, 0, N)]) ∧ Hid (w6.grownBy wr none)) (fun _ _ iv _ => L.length - (intOf iv).toNat)
      case atStart => exact ⟨0, by omega, rfl, rfl, rfl, HS6, Lib.hid (grown_refl _ _)⟩
      case round =>
        obtain ⟨q, hq, rfl, rfl, rfl, HSq, HGq⟩ := hrel
        clear HS6 HS5
        by_cases hlt : q < L.length
        · obtain ⟨x, hx⟩ : ∃ x, L[q]? = some x := ⟨_, List.getElem?_eq_getElem hlt⟩
          obtain ⟨g, o, c2, hv, ka⟩ := en_cells (erow_grow HR6.out HGq.out) hx
          obtain ⟨ka0, ka1, ka2, ka3, ka4, ka5, ka6, ka7, ka8, ka9⟩ := ka
          injection hv with e1 e2 e3
          subst e1 e3
          have gx := World.grownBy_alloc wr (.cells #[.int .i64 x.s, .int .i64 x.e, .int .i64 x.f, .int .i64 x.o, .bool x.sh, .int .i64 x.p, .int .i64 x.m, .int .i64 x.i, .int .i64 x.a, .bool x.wi] 50) none
          have HSx := Lib.hid (HSq.out.grow gx)
          have HGx := Lib.hid (grown_trans HGq.out gx)
          have HSy := Lib.hid (HSx.out.grow (grown_drew1 _))
          have HGy := Lib.hid (grown_trans HGx.out (grown_drew1 _))
          obtain ⟨y0, y1, -, -, y4, -, -, y7, -, -⟩ := (EnB.new wr x).all
          obtain ⟨z0, z1, -, -, z4, -, -, z7, -, -⟩ := ((EnB.new wr x).grow (grown_drew1 _)).all
          have HNx := Lib.hid (hw_next (pg := pg) hx (2, false))
          clear hx gx
          by_cases p1 : x.s ≤ pg
          · have b1 : decide (x.s ≤ pg) = true := decide_eq_true p1
            by_cases p2 : pg < x.e
            · have b2 : decide (pg < x.e) = true := decide_eq_true p2
              have HN2 := Lib.hid (show hwF (L.take (q + 1)) pg (2, false) = (x.i, !x.sh) by rw [HNx.out, if_pos ⟨p1, p2⟩])
              clear HNx p1 p2
              go_upto_region 13 with fail
              go_region
              go_wp2_with fail
              go_roundw
              case rel => exact ⟨q + 1, by omega, by go_num, by rw [HN2.out], by rw [HN2.out], by first | exact HSy | exact HSx, by first | exact HGy | exact HGx⟩
              case measure => simp [intOf]; omega
            · have b2 : decide (pg < x.e) = false := decide_eq_false p2
              have HN2 := Lib.hid (show hwF (L.take (q + 1)) pg (2, false) = hwF (L.take q) pg (2, false) by rw [HNx.out, if_neg (fun e => p2 e.2)])
              clear HNx p1 p2
              go_wp2_with fail
              go_roundw
              case rel => exact ⟨q + 1, by omega, by go_num, by rw [HN2.out], by rw [HN2.out], HSx, HGx⟩
              case measure => simp [intOf]; omega
          · have b1 : decide (x.s ≤ pg) = false := decide_eq_false p1
            have HN2 := Lib.hid (show hwF (L.take (q + 1)) pg (2, false) = hwF (L.take q) pg (2, false) by rw [HNx.out, if_neg (fun e => p1 e.1)])
            clear HNx p1
            go_wp2_with fail
            go_roundw
            case rel => exact ⟨q + 1, by omega, by go_num, by rw [HN2.out], by rw [HN2.out], HSx, HGx⟩
            case measure => simp [intOf]; omega
        · obtain rfl : q = L.length := by omega
          rw [List.take_length]
          have hh := hw_page pg (2, false) (HLL.out ▸ HPl.out.rf : RF 0 L)
          obtain ⟨hv, hhv⟩ : ∃ hv, hwF L pg (2, false) = hv := ⟨_, rfl⟩
          rw [hhv] at hh ⊢
          obtain ⟨H, P⟩ := hv
          rw [HLL.out] at hh
          have HH := Lib.hid hh
          obtain ⟨x, e, hxe⟩ : ∃ x e, S2.byte 1 pg a = (x, e) := ⟨_, _, rfl⟩
          obtain ⟨y, f, hyf⟩ : ∃ y f, S2.byte N pg a = (y, f) := ⟨_, _, rfl⟩
          have hxr := byte_range S2 1 pg a
          rw [hxe] at hxr
          have HX := Lib.hid hxe
          have HY := Lib.hid hyf
          have HXr := Lib.hid hxr
          have HB1 := Lib.hid (HSq.out.byte HOk.out 1 pg a ⟨by decide, by decide⟩ hxe)
          have HB2 := Lib.hid (fun W' (g : wr.grownBy W' none) => (HSq.out.grow g).byte HOk.out N pg a HNk.out hyf)
          have a2 := fun W' (g : wr.grownBy W' none) => ((HSq.out.grow g).at (a := (w5.heap.size, 0, N)) (by simp)).2
          have HA2 := Lib.hid a2
          clear hh hhv hxe hyf hxr a2 HGq HR6
          go_wp2_with fail
          refine HB1.out.mono ?_
          rintro e1 w7 ⟨rfl, g7⟩
          have HG7 := Lib.hid g7
          have HB3 := Lib.hid (HB2.out w7 g7)
          have c7 := HA2.out w7 g7
          try simp only at c7
          clear g7 HB1
          go_wp2_with fail
          refine HB3.out.mono ?_
          rintro e1 w8 ⟨rfl, g8⟩
          have HS8 := Lib.hid ((HSq.out.grow HG7.out).grow g8)
          clear g8 HB3 HB2 c7 HG7 HSq
          by_cases hH : H = 2
          · have bH : (H == 2) = true := by simpa using hH
            have hf : f = 4 ∨ f = 2 := by
              have h1 := kin_none (pg := pg) (a := a) HK.out (fun v hv => by
                have h2 := HH.out
                rw [hv] at h2
                simp only at h2
                injection h2 with h3 h4
                rw [← h3, hH])
              rw [HY.out] at h1
              exact h1
            clear hH
            have HG8 := Lib.hid (grown_trans HG1.out HS8.out.grown)
            rcases hf with hf | hf
            · have bf : (f == 4) = true := by simpa using hf
              clear hf
              go_wp2_with fail
              refine (HLv.out _).mono ?_
              rintro e1 w9 ⟨rfl, g9⟩
              have HG9 := Lib.hid (grown_trans HG8.out g9)
              clear g9
              go_wp2_with fail
              go_ret
              exact ⟨rfl, HG9.out⟩
            · have bf : (f == 4) = false := by rw [hf]; rfl
              have bf2 : (f == 2) = true := by simpa using hf
              clear hf
              go_wp2_with fail
              refine (HLv.out _).mono ?_
              rintro e1 w9 ⟨rfl, g9⟩
              have HG9 := Lib.hid (grown_trans HG8.out g9)
              clear g9
              go_wp2_with fail
              go_ret
              exact ⟨rfl, HG9.out⟩
          · have bH : (H == 2) = false := by simpa using hH
            obtain ⟨v, hv, hvi, hvs⟩ : ∃ v, pageOf p.L pg = some v ∧ v.i = H ∧ (!v.sh) = P := by
              have h2 := HH.out
              cases e : pageOf p.L pg with
              | none =>
                rw [e] at h2
                simp only at h2
                injection h2 with h3 h4
                exact (hH h3).elim
              | some v =>
                rw [e] at h2
                simp only at h2
                injection h2 with h3 h4
                exact ⟨v, rfl, h3.symm, h4.symm⟩
            have hsm := kin_byte (pg := pg) (a := a) HK.out hv (by rw [hvi]; exact hH)
            rw [HX.out, HY.out] at hsm
            injection hsm with hs1 hs2
            subst hs1 hs2
            have HV := Lib.hid (And.intro hv (And.intro hvi hvs))
            have HHn := Lib.hid hH
            obtain ⟨x0, x1⟩ := HXr.out
            try simp only at x0 x1
            obtain ⟨z, hz⟩ : ∃ z, (x + 1).tmod 256 = z := ⟨_, rfl⟩
            have hz0 : 0 ≤ z ∧ z ≤ 255 := by
              rw [← hz, Int.tmod_eq_emod_of_nonneg (by omega)]
              omega
            have hz1 := hz0.1
            have hz2 := hz0.2
            have HZ := Lib.hid hz0
            have HZe := Lib.hid hz
            have HDo := Lib.hid (HS8.out.run (S' := (S2.act (o9 1 pg a z)).S) fun kd h k => do_all k HSi2.out (by omega) (by omega) (by omega) (o9 1 pg a z) (ok9 ⟨by decide, by decide⟩ HPg.out HAo.out ⟨by omega, by omega⟩) (fun h => by rcases h with h | h <;> cases h))
            have HSt := Lib.hid (fun he => kin_store (pg := pg) (a := a) HK.out HS8.out.lens HV.out.1 (by rw [HV.out.2.1]; exact HHn.out) (x := z) he)
            have HSi3 := Lib.hid (show SI (S2.act (o9 1 pg a z)).S 32 200 by
              have := HSi2.out.act (o := o9 1 pg a z) (by omega) (by omega)
              rw [show pgO (o9 1 pg a z) = 0 by unfold pgO o9; simp, Int.add_zero] at this
              exact this)
            generalize (S2.act (o9 1 pg a z)).S = S3 at *
            generalize (S2.act (o9 1 pg a z)).e = e3 at *
            generalize S2.doN (o9 1 pg a z) = n3 at *
            simp only [o9] at HDo
            clear hH hv hvi hvs hz0 HXr
            go_wp2_with fail
            refine HDo.out.mono ?_
            rintro e1 w9 ⟨rfl, hs9⟩
            have HS9 := Lib.hid hs9
            have hfd := ans_err w9 e3 n3
            clear hs9 HDo HS8
            by_cases he3 : e3 = 0
            · subst he3
              obtain ⟨hst1, hst2⟩ := HSt.out rfl
              obtain ⟨zz, ff, hzf⟩ : ∃ zz ff, S3.byte N pg a = (zz, ff) := ⟨_, _, rfl⟩
              rw [hzf, HV.out.2.1] at hst1 hst2
              rw [HY.out] at hst2
              try simp only at hst1 hst2
              have HB4 := Lib.hid (HS9.out.byte (HSi3.out.ok (by omega) (by omega)) N pg a HNk.out hzf)
              have c9 := (HS9.out.at (a := (w5.heap.size, 0, N)) (by simp)).2
              try simp only at c9
              have HT1 := Lib.hid hst1
              have HT2 := Lib.hid hst2
              clear hst1 hst2 hzf HSt
              go_wp2_with fail
              clear hfd
              refine HB4.out.mono ?_
              rintro e1 w10 ⟨rfl, g10⟩
              have HG10 := Lib.hid (grown_trans (grown_trans HG1.out HS9.out.grown) g10)
              clear g10 HB4 c9 HS9
              by_cases hH1 : H = 1
              · have bH1 : (H == 1) = true := by simpa using hH1
                have hzz : zz = z := HT1.out hH1
                have bz : (zz == z) = true := by simpa using hzz
                clear hH1 hzz
                go_wp2_with fail
                refine (HLv.out _).mono ?_
                rintro e1 w11 ⟨rfl, g11⟩
                have HG11 := Lib.hid (grown_trans HG10.out g11)
                clear g11
                go_wp2_with fail
                go_ret
                exact ⟨rfl, HG11.out⟩
              · have bH1 : (H == 1) = false := by simpa using hH1
                cases P with
                | false =>
                  clear hH1
                  go_wp2_with fail
                  refine (HLv.out _).mono ?_
                  rintro e1 w11 ⟨rfl, g11⟩
                  have HG11 := Lib.hid (grown_trans HG10.out g11)
                  clear g11
                  go_wp2_with fail
                  go_ret
                  exact ⟨rfl, HG11.out⟩
                | true =>
                  have hzz : zz = x := HT2.out hH1 (by have := HV.out.2.2; simpa using this)
                  have bz : (zz == x) = true := by simpa using hzz
                  clear hH1 hzz
                  go_wp2_with fail
                  refine (HLv.out _).mono ?_
                  rintro e1 w11 ⟨rfl, g11⟩
                  have HG11 := Lib.hid (grown_trans HG10.out g11)
                  clear g11
                  go_wp2_with fail
                  go_ret
                  exact ⟨rfl, HG11.out⟩
            · have b9 : (e3 != 0) = true := by simpa using he3
              have HG9 := Lib.hid (grown_trans HG1.out HS9.out.grown)
              clear he3
              go_wp2_with fail
              refine (HLv.out _).mono ?_
              rintro e1 w10 ⟨rfl, g10⟩
              have HG10 := Lib.hid (grown_trans HG9.out g10)
              clear g10
              go_wp2_with fail
              go_ret
              exact ⟨rfl, HG10.out⟩
    · have HG6 := Lib.hid (grown_trans HG1.out HS5.out.grown)
      rcases he with rfl | rfl
      · clear HF HS5
        go_wp2_with fail
        refine (HLv.out _).mono ?_
        rintro e w6 ⟨rfl, g6⟩
        have HG7 := Lib.hid (grown_trans HG6.out g6)
        clear g6
        go_wp2_with fail
        go_ret
        exact ⟨rfl, HG7.out⟩
      · clear HF HS5
        go_wp2_with fail
        refine (HLv.out _).mono ?_
        rintro e w6 ⟨rfl, g6⟩
        have HG7 := Lib.hid (grown_trans HG6.out g6)
        clear g6
        go_wp2_with fail
        go_ret
        exact ⟨rfl, HG7.out⟩
theorem forks17_say (W : World) (s0 : Option Addr) (l0 c0 : Nat) (A0 : List FOp) (act0 : OpsAre W s0 l0 A0) (pg a : Int) (hpg : okI pg) (ha : okI a) :
    Calls Tryz.prog 7 #[.slice s0 l0 c0, .int .i64 pg, .int .i64 a] W fun e w' => e = .returned (.bool true) ∧ Below W.heap.size W w' := said (forks17_walk act0 pg a hpg ha)
end Go.Proofs.YtefiiooibbkffaaGreat
