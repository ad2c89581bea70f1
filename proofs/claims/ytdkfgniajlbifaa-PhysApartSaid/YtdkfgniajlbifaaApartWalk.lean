/- PhysApart answers true, whatever the act, the bytes and the byte, and changes nothing that was there. -/
import Derived.Test.YtdkfgniajlbifaaLight
import Derived.Deep.RegionWith
import Derived.BigRegion
namespace Go.Proofs.Ytdkfgniajlbifaa
open Go.ChangeShapes Go.WideShapes Go.ChangeAt Go.RowKit Go.Deep
open Extern.Stop (cell)
set_option linter.unusedVariables false

/-- The boxed act. -/
def Boxed (wr : World) (x : Nat) (A : ActV) : Prop := wr.heap[x]? = some (.cells #[.int .i64 A.k, .int .i64 A.a, .int .i64 A.b, .int .u64 A.v, .slice A.s A.l A.c] 33 (0, 0))

theorem Boxed.cells {wr : World} {x : Nat} {A : ActV} (h : Boxed wr x A) : wr.cell? ⟨x, 0, none⟩ = some (.int .i64 A.k) ∧ wr.cell? ⟨x, 1, none⟩ = some (.int .i64 A.a) ∧ wr.cell? ⟨x, 2, none⟩ = some (.int .i64 A.b) ∧ wr.cell? ⟨x, 3, none⟩ = some (.int .u64 A.v) ∧ wr.cell? ⟨x, 4, none⟩ = some (.slice A.s A.l A.c) := by
  unfold Boxed at h
  exact ⟨by rw [cell_of_row _ _ _ _ _ _ h]; rfl, by rw [cell_of_row _ _ _ _ _ _ h]; rfl, by rw [cell_of_row _ _ _ _ _ _ h]; rfl, by rw [cell_of_row _ _ _ _ _ _ h]; rfl, by rw [cell_of_row _ _ _ _ _ _ h]; rfl⟩

/-- The array of pages: the first q are the pages of L. -/
structure Pages (wr : World) (x d q : Nat) (L : List UInt8) : Prop where
  block : ∃ cur, wr.heap[x]? = some (.cells cur 50 (0, 0)) ∧ cur.size = 4 ∧ ∀ j, j < q → ∃ p, cur[j]? = some (.slice (some ⟨p, 0, none⟩) 4096 4096) ∧ p ≠ d ∧ p ≠ x ∧ wr.heap[p]? = some (.cells ((pageOf L j).map cell).toArray 67 (0, 0))

theorem Pages.kept {wr w' : World} {x d q : Nat} {L : List UInt8} (h : Pages wr x d q L) (hx : x ≠ d) (G : wr.grownBy w' (some d)) : Pages w' x d q L := by
  obtain ⟨cur, hc, hs, hp⟩ := h.block
  refine ⟨cur, blk_kept hc G (by simpa using Ne.symm hx), hs, fun j hj => ?_⟩
  obtain ⟨p, h1, h2, h3, h4⟩ := hp j hj
  exact ⟨p, h1, h2, h3, blk_kept h4 G (by simpa using Ne.symm h2)⟩

theorem Pages.put {wr : World} {x d q p : Nat} {L : List UInt8} (h : Pages wr x d q L) (hq : q < 4) (hpd : p ≠ d) (hpx : p ≠ x) (hp : wr.heap[p]? = some (.cells ((pageOf L q).map cell).toArray 67 (0, 0))) :
    Pages (wr.setCell ⟨x, q, none⟩ (.slice (some ⟨p, 0, none⟩) 4096 4096)) x d (q + 1) L := by
  obtain ⟨cur, hc, hs, hpp⟩ := h.block
  refine ⟨_, heap_setCell_same wr x q cur _ _ hc, by simpa using hs, fun j hj => ?_⟩
  by_cases hjq : j = q
  · subst hjq
    refine ⟨p, by simp [Array.getElem?_setIfInBounds, hs, hq], hpd, hpx, ?_⟩
    rw [heap_setCell_other _ _ _ _ (by simpa using hpx)]; exact hp
  · obtain ⟨p', h1, h2, h3, h4⟩ := hpp j (by omega)
    refine ⟨p', by rw [Array.getElem?_setIfInBounds, if_neg (Ne.symm hjq)]; exact h1, h2, h3, ?_⟩
    rw [heap_setCell_other _ _ _ _ (by simpa using h3)]; exact h4

theorem Pages.spot {wr : World} {x d q : Nat} {L : List UInt8} (h : Pages wr x d q L) (j : Nat) (hj : j < 4) : (∃ u, wr.cell? ⟨x, j, none⟩ = some u) ∧ wr.frozen? ⟨x, j, none⟩ = false := by
  obtain ⟨cur, hc, hs, _⟩ := h.block
  exact ⟨⟨_, by rw [cell_of_row _ _ _ _ _ _ hc]; exact Array.getElem?_eq_getElem (by omega)⟩, frozen_of_row _ _ _ _ _ hc⟩

theorem Pages.told {wr : World} {x d q : Nat} {L : List UInt8} (h : Pages wr x d q L) (j : Nat) (hj : j < q) : ∃ p, p ≠ d ∧ wr.cell? ⟨x, j, none⟩ = some (.slice (some ⟨p, 0, none⟩) 4096 4096) ∧ wr.heap[p]? = some (.cells ((pageOf L j).map cell).toArray 67 (0, 0)) := by
  obtain ⟨cur, hc, hs, hp⟩ := h.block
  obtain ⟨p, h1, h2, h3, h4⟩ := hp j hj
  exact ⟨p, h2, by rw [cell_of_row _ _ _ _ _ _ hc]; exact h1, h4⟩

theorem light_one (A : ActV) : Light [A] ↔ A.l ≤ 5000 := by
  unfold Light
  simp
  omega

set_option maxHeartbeats 2000000 in
set_option maxRecDepth 100000 in
theorem apart_walk0 (w : World) (A : ActV) (cs : Array Value) (hA : ActIs w A cs.toList) (s0 : Option Addr) (l0 c0 : Nat) (b0 : List UInt8) (S0 : Src w s0 l0 b0) (x : Int) (hx0 : 0 ≤ x) (hx1 : x < 256) :
    Calls Try.prog 4 #[.agg cs, .slice s0 l0 c0, .int .u8 x] w fun e w' => e = .returned (.bool true) ∧ Below w.heap.size w w' := by
  have e : cs = #[.int .i64 A.k, .int .i64 A.a, .int .i64 A.b, .int .u64 A.v, .slice A.s A.l A.c] := by
    have := hA.cells
    cases cs
    simpa using this
  subst e
  have HS0 := Lib.hid S0
  have HX0 := Lib.hid hx0
  have HX1 := Lib.hid hx1
  have HA := Lib.hid hA
  clear S0 hx0 hx1 hA
  obtain ⟨k, hk⟩ : ∃ k, k = A.k := ⟨_, rfl⟩
  by_cases hbig : 5000 < l0
  · have d0 : decide ((l0 : Int) > 5000) = true := by simp; omega
    clear hbig
    go_enter Try.func4, Try.ntmps4
    go_wp2_with fail
    refine (newE w ((Below.refl _ _).alloc (Nat.le_refl _) _) _ 4 rfl (by omega) (by omega)).mono ?_
    rintro e w1 ⟨rfl, h1, -⟩
    have H1 := Lib.hid h1
    clear h1
    go_wp2_with fail
    refine (livesE H1.out).mono ?_
    rintro e w2 ⟨rfl, h2, -⟩
    have H2 := Lib.hid h2
    clear h2
    go_wp2_with fail
    go_ret
    exact ⟨rfl, H2.out.below⟩
  · have d0 : decide ((l0 : Int) > 5000) = false := by simp; omega
    clear hbig
    go_enter Try.func4, Try.ntmps4
    go_wp2_with fail
    refine (newE w ((Below.refl _ _).alloc (Nat.le_refl _) _) _ 4 rfl (by omega) (by omega)).mono ?_
    rintro e w1 ⟨rfl, h1, hG1⟩
    have HBX : Hid (Boxed w1 w.heap.size A) := (blk_kept (heap_alloc_new w _) hG1 (by simp))
    have hsz : ∀ o, (w.alloc o).heap.size = w.heap.size + 1 := fun o => by simp
    rw [hsz] at h1 ⊢
    generalize hdd : w.heap.size + 1 = d at *
    have hwd : w.heap.size < d := by omega
    clear hdd hsz
    generalize List.replicate (4 * 4096) (0 : UInt8) = L0 at *
    obtain ⟨q0, q1, q2, q3, q4⟩ := HBX.out.cells
    have H1 := Lib.hid h1
    clear h1 hG1
    have HAA : Hid (ActsAre (w1.alloc (.cells #[.int .i64 A.k, .int .i64 A.a, .int .i64 A.b, .int .u64 A.v, .slice A.s A.l A.c] 33)) (some ⟨w1.heap.size, 0, none⟩) 1 [A]) := by
      have hb : Boxed (w1.alloc (.cells #[.int .i64 A.k, .int .i64 A.a, .int .i64 A.b, .int .u64 A.v, .slice A.s A.l A.c] 33)) w1.heap.size A := heap_alloc_new w1 _
      obtain ⟨r0, r1, r2, r3, r4⟩ := hb.cells
      refine ⟨rfl, .inr ⟨w1.heap.size, 0, rfl, fun i B hi => ?_⟩⟩
      obtain ⟨rfl, rfl⟩ : i = 0 ∧ B = A := by
        cases i with
        | zero => simp at hi; exact ⟨rfl, hi.symm⟩
        | succ i => simp at hi
      exact ⟨r0, r1, r2, r3, r4, HA.out.src.below (H1.out.below.alloc H1.out.below.size _), HA.out.v⟩
    have HS1 : Hid (St w (w1.alloc (.cells #[.int .i64 A.k, .int .i64 A.a, .int .i64 A.b, .int .u64 A.v, .slice A.s A.l A.c] 33)) (d + 1) d 4 L0) :=
      H1.out.grow (World.grownBy_alloc w1 (.cells #[.int .i64 A.k, .int .i64 A.a, .int .i64 A.b, .int .u64 A.v, .slice A.s A.l A.c] 33) none)
    have HBX1 : Hid (Boxed (w1.alloc (.cells #[.int .i64 A.k, .int .i64 A.a, .int .i64 A.b, .int .u64 A.v, .slice A.s A.l A.c] 33)) w.heap.size A) := blk_kept HBX.out (World.grownBy_alloc w1 _ none) (by simp)
    by_cases hlight : A.l ≤ 5000
    · have HLI := Lib.hid ((light_one A).2 hlight)
      clear hlight
      go_wp2_with fail
      refine (light_any _ _ _ _ _ HAA.out true (by simpa using HLI.out)).mono ?_
      rintro e w2 ⟨rfl, hb2⟩
      have HS2 := Lib.hid (HS1.out.grow (grown_of_below hb2 none))
      have HBX2 : Hid (Boxed w2 w.heap.size A) := blk_kept HBX1.out (grown_of_below hb2 none) (by simp)
      clear hb2 q0 q1 q2 q3 q4
      go_wp2_with fail
      go_loopw [8] (fun k wr => ∃ (q : Nat) (L : List UInt8), q ≤ 4 ∧ k = .int .i64 q ∧ St w wr (d + 1) d 4 L ∧ Boxed wr w.heap.size A) (fun k _ => 4 - (intOf k).toNat)
      case atStart => exact ⟨0, L0, by omega, rfl, HS2.out, HBX2.out⟩
      case round =>
        obtain ⟨q, L, hq, rfl, hS, hB⟩ := hrel
        have HS := Lib.hid hS
        have HBo := Lib.hid hB
        clear hS hB
        by_cases hlt : q < 4
        · go_wp2_with fail
          refine (fillE HS.out _ q rfl (by omega) s0 l0 c0 b0 (HS0.out.below HS.out.below)).mono ?_
          rintro e w3 ⟨rfl, h3, hG3⟩
          have HS3 := Lib.hid h3
          have HB3 : Hid (Boxed w3 w.heap.size A) := blk_kept HBo.out hG3 (by simp; omega)
          clear h3 hG3
          go_wp2_with fail
          refine (setByteE HS3.out _ _ q (17 * q) _ rfl (by omega) (by omega) (by omega) HX0.out HX1.out).mono ?_
          rintro e w4 ⟨rfl, h4, hG4⟩
          have HS4 := Lib.hid h4
          have HB4 : Hid (Boxed w4 w.heap.size A) := blk_kept HB3.out hG4 (by simp; omega)
          clear h4 hG4
          go_wp2_with fail
          go_roundw
          case rel => exact ⟨q + 1, _, by omega, by go_num, HS4.out, HB4.out⟩
          case measure => simp [intOf]; omega
        · have HP : Hid (Pages (wr.alloc (.cells #[.slice none 0 0, .slice none 0 0, .slice none 0 0, .slice none 0 0] 50)) wr.heap.size d 0 L) := ⟨_, heap_alloc_new wr _, rfl, fun j hj => by omega⟩
          have HSa := Lib.hid (HS.out.grow (World.grownBy_alloc wr (.cells #[.slice none 0 0, .slice none 0 0, .slice none 0 0, .slice none 0 0] 50) none))
          have HBa : Hid (Boxed (wr.alloc (.cells #[.slice none 0 0, .slice none 0 0, .slice none 0 0, .slice none 0 0] 50)) w.heap.size A) := blk_kept HBo.out (World.grownBy_alloc wr _ none) (by simp)
          have hdX := HS.out.dlt
          have hmX := HS.out.mlt
          have hwX := HS.out.below.size
          have HL := Lib.hid HS.out.len
          go_wp2_with fail
          generalize hX : wr.heap.size = X at *
          clear hX
          go_loopw [45] (fun k wr => ∃ q : Nat, q ≤ 4 ∧ k = .int .i64 q ∧ St w wr (d + 1) d 4 L ∧ Boxed wr w.heap.size A ∧ Pages wr X d q L ∧ X < wr.heap.size) (fun k _ => 4 - (intOf k).toNat)
          case atStart => exact ⟨0, by omega, rfl, HSa.out, HBa.out, HP.out, by obtain ⟨cur, hc, _⟩ := HP.out.block; exact (Array.getElem?_eq_some_iff.1 hc).1⟩
          case round =>
            obtain ⟨r, hr, rfl, hS, hB, hP, hXs⟩ := hrel
            have HS5 := Lib.hid hS
            have HB5 := Lib.hid hB
            have HP5 := Lib.hid hP
            clear hS hB hP
            by_cases hlr : r < 4
            · have hdv := HS5.out.dlt
              have hmv := HS5.out.mlt
              have hwv := HS5.out.below.size
              go_wp2_with fail
              refine (pageE HS5.out _ r rfl (by omega)).mono ?_
              rintro e w6 ⟨rfl, h6, hG6, hp6⟩
              have hP6 := HP5.out.kept (by omega) (grown_none hG6)
              have hB6 : Boxed w6 w.heap.size A := blk_kept HB5.out hG6 (by simp)
              obtain ⟨⟨u, hc⟩, hf⟩ := hP6.spot r hlr
              have hw6 := hG6.size
              generalize hV : wr.heap.size = V at *
              clear hV
              have G7 := grown_setCells w6 X r [.slice (some ⟨V, 0, none⟩) 4096 4096]
              have HS7 : Hid (St w (w6.setCell ⟨X, r, none⟩ (.slice (some ⟨V, 0, none⟩) 4096 4096)) (d + 1) d 4 L) := h6.grow' G7 (by omega) (by omega) (by omega)
              have HB7 : Hid (Boxed (w6.setCell ⟨X, r, none⟩ (.slice (some ⟨V, 0, none⟩) 4096 4096)) w.heap.size A) := blk_kept hB6 G7 (by simp; omega)
              have HP7 := Lib.hid (hP6.put hlr (by omega) (by omega) hp6)
              have HX7 : Hid (X < (w6.setCell ⟨X, r, none⟩ (.slice (some ⟨V, 0, none⟩) 4096 4096)).heap.size) := by have := G7.size; show X < (w6.setCells X r [.slice (some ⟨V, 0, none⟩) 4096 4096]).heap.size; omega
              clear h6 hG6 hp6 hP6 hB6 G7
              go_wp2_with fail
              go_roundw
              case rel => exact ⟨r + 1, by omega, by go_num, HS7.out, HB7.out, HP7.out, HX7.out⟩
              case measure => simp [intOf]; omega
            · obtain rfl : r = 4 := by omega
              obtain ⟨q0, q1, q2, q3, q4⟩ := HB5.out.cells
              go_wp2_with fail
              refine (act_st HS5.out A _ _ _ _ _ _ _ _ rfl rfl rfl rfl rfl (HA.out.src.below HS5.out.below) HA.out.v).mono ?_
              rintro e w6 ⟨rfl, h6, hG6⟩
              have HAP : Hid (∀ j : Nat, j < 4 → (j : Int) ≠ A.a → pageOf (actS 4 A L).2 j = pageOf L j) := fun j hj hne => actS_apart HL.out j hj hne
              have HB6 : Hid (Boxed w6 w.heap.size A) := blk_kept HB5.out hG6 (by simp; omega)
              have HP6 := Lib.hid (HP5.out.kept (by omega) hG6)
              generalize (actS 4 A L).2 = L6 at *
              generalize (actS 4 A L).1 = b6 at *
              have HS6 := Lib.hid h6
              clear h6 hG6 q0 q1 q2 q3 q4
              go_wp2_with fail
              go_loopw [57] (fun k wr => ∃ r : Nat, r ≤ 4 ∧ k = .int .i64 r ∧ St w wr (d + 1) d 4 L6 ∧ Boxed wr w.heap.size A ∧ Pages wr X d 4 L) (fun k _ => 4 - (intOf k).toNat)
              case atStart => exact ⟨0, by omega, rfl, HS6.out, HB6.out, HP6.out⟩
              case round =>
                obtain ⟨r, hr, rfl, hS, hB, hP⟩ := hrel
                have HS8 := Lib.hid hS
                have HB8 := Lib.hid hB
                have HP8 := Lib.hid hP
                clear hS hB hP
                by_cases hlr : r < 4
                · obtain ⟨-, q1, -, -, -⟩ := HB8.out.cells
                  by_cases hra : (r : Int) = A.a
                  · have hne : ((r : Int) != A.a) = false := by simp [hra]
                    clear hra
                    go_wp2_with fail
                    go_quiet (fail)
                    go_wp2_with fail
                    go_roundw
                    case rel => exact ⟨r + 1, by omega, by go_num, HS8.out.grow (grown_drewN _ _ _), HB8.out, HP8.out.kept (by omega) (grown_drewN _ _ _)⟩
                    case measure => simp [intOf]; omega
                  · have hne : ((r : Int) != A.a) = true := by simp [hra]
                    have HPE := Lib.hid (HAP.out r hlr hra)
                    obtain ⟨p, hpd, hpc, hpp⟩ := HP8.out.told r hlr
                    have HPP := Lib.hid hpp
                    clear hra hpp
                    go_wp2_with fail
                    have HSD : Hid (St w wr.drew (d + 1) d 4 L6) := HS8.out.grow (grown_drewN wr 1 _)
                    have HBD : Hid (Boxed wr.drew w.heap.size A) := HB8.out
                    have HPD : Hid (Pages wr.drew X d 4 L) := HP8.out.kept (by omega) (grown_drewN wr 1 _)
                    have HPL : Hid ((pageOf L r).length = 4096) := pageOf_length HL.out r hlr
                    go_region_with (first | (go_at_call 23; refine (pageE HSD.out _ r rfl (by omega)).mono ?_; rintro e w9 ⟨rfl, h9, hG9, hp9⟩; have hc9 := (World.grownBy.cell hG9 hpc (by simp)); have HA9 := Lib.hid (Src.of_block hp9); rw [HPE.out, HPL.out] at HA9; have HB9 := Lib.hid (Src.of_block (blk_kept HPP.out (grown_trans (grown_drewN wr 1 none) hG9) (by simp))); rw [HPL.out] at HB9; have H9 := Lib.hid h9; have HG9 := Lib.hid hG9; clear h9 hG9 hp9) | (go_at_call 22; refine (bytesEq HA9.out HB9.out _ _ true (by simp)).mono ?_; rintro e w10 ⟨rfl, rfl⟩))
                    all_goals
                      go_wp2_with fail
                      go_roundw
                      case rel => exact ⟨r + 1, by omega, by go_num, H9.out, blk_kept HBD.out HG9.out (by simp), HPD.out.kept (by omega) (grown_none HG9.out)⟩
                      case measure => simp [intOf]; omega
                · go_wp2_with fail
                  refine (livesE HS8.out).mono ?_
                  rintro e w9 ⟨rfl, h9, -⟩
                  have H9 := Lib.hid h9
                  clear h9
                  go_wp2_with fail
                  go_ret
                  exact ⟨rfl, H9.out.below⟩
    · have HLI := Lib.hid (show ¬ Light [A] from fun h => hlight ((light_one A).1 h))
      clear hlight
      go_wp2_with fail
      refine (light_any _ _ _ _ _ HAA.out false (by simpa using HLI.out)).mono ?_
      rintro e w2 ⟨rfl, hb2⟩
      have HS2 := Lib.hid (HS1.out.grow (grown_of_below hb2 none))
      clear hb2 q0 q1 q2 q3 q4
      go_wp2_with fail
      refine (livesE HS2.out).mono ?_
      rintro e w3 ⟨rfl, h3, -⟩
      have H3 := Lib.hid h3
      clear h3
      go_wp2_with fail
      go_ret
      exact ⟨rfl, H3.out.below⟩

theorem apart_walk (w : World) (A : ActV) (cs : Array Value) (hA : ActIs w A cs.toList) (s0 : Option Addr) (l0 c0 : Nat) (b0 : List UInt8) (S0 : Src w s0 l0 b0) (x : Int) (wx : (Lit.int .u8 x).wf = true) :
    Calls Try.prog 4 #[.agg cs, .slice s0 l0 c0, .int .u8 x] w fun e w' => e = .returned (.bool true) ∧ Below w.heap.size w w' := by
  have hx := byte_of_wf wx
  exact apart_walk0 w A cs hA s0 l0 c0 b0 S0 x hx.1 hx.2
end Go.Proofs.Ytdkfgniajlbifaa
