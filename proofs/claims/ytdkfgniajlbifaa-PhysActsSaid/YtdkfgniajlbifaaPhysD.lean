/- Calls of package phys: Fill, Same, New. -/
import Derived.Test.YtdkfgniajlbifaaPhysC
import Derived.OwnWalk
import Derived.Laws.MakeOwn
namespace Go.Proofs.Ytdkfgniajlbifaa
open Go.ChangeShapes Go.WideShapes Go.ChangeAt Go.RowKit
open Extern.Stop (cell)
set_option linter.unusedVariables false

theorem fill_ok {w : World} {m d n : Nat} {L : List UInt8} (h : Mem w m d n L) (i : Nat) (hi : i < n) (s : Option Addr) (l c : Nat) (bs : List UInt8) (hs : Src w s l bs) :
    Calls Try.prog 26 #[.pointer (some ⟨m, 0, none⟩), .int .i64 i, .slice s l c] w fun e w' =>
      e = .returned (.bool true) ∧ w' = w.setCells d (i * 4096) ((fillOf bs).map cell) := by
  have HF := Lib.hid (find_ok h i hi)
  obtain ⟨hsl, hsrc⟩ := hs
  have ht : w.there d (i * 4096) 4096 := there_of_bytes h.body _ _ (by have := h.len; omega)
  have hinfo : (Try.prog.info? 5).map (·.size) = some 1 := by kernel_rfl
  clear h
  generalize i * 4096 = o at *
  obtain ⟨k, hk⟩ : ∃ k, k = min l 4096 := ⟨_, rfl⟩
  have hlen : ((bs.take 4096).map cell).length = k := by simp; omega
  have hcopy : ∀ ty, (Builtin.copy_ #[31, 31] ty #[.slice (some ⟨d, o, none⟩) 4096 4096, .slice s l c]).run Try.prog w = .ok (.int .i64 k) (w.setCells d o ((bs.take 4096).map cell)) := by
    intro ty
    rcases hsrc with h0 | ⟨b, p, rfl, hr⟩
    · have hb : bs = [] := by cases bs <;> simp_all
      subst hb
      have := run_copy_none (P := Try.prog) w 31 31 ty 5 (some ⟨d, o, none⟩) s 4096 4096 l c Try.underlying31 hinfo (by rw [h0]; exact Nat.min_eq_left (Nat.zero_le _))
      rw [this]
      have : k = 0 := by omega
      subst this
      rfl
    · have := run_copy_cells (P := Try.prog) w 31 31 ty 5 d o 4096 4096 ⟨b, p, none⟩ l c ((bs.take 4096).map cell) Try.underlying31 hinfo (by rw [hlen, hk])
        (fun j v hv => by
          rw [Addr.add_mid]
          refine hr j v ?_
          simp only [List.getElem?_map, List.getElem?_take] at hv ⊢
          split at hv
          · exact hv
          · simp at hv)
        (fun j hj => (ht j (by omega)).1) (fun j hj => (ht j (by omega)).2) (one_cells _)
      rw [this, hlen]
      rfl
  have hslice : ∃ A, (A = o + k ∨ k = 4096) ∧ ∀ W, (Instr.sliceAt 67 (.pointer (some ⟨d, o, none⟩)) (some (.int .i64 (k : Int))) none none).run Try.prog W = .ok (.slice (some ⟨d, A, none⟩) (4096 - k) (4096 - k)) W := by
    refine ⟨if 4096 = k then o else o + k, ?_, fun W => ?_⟩
    · split
      · right; omega
      · left; rfl
    · rw [run_sliceAt_from W 67 5 4096 Try.underlying67 hinfo d o k (by omega) (by omega)]
      rw [Int.toNat_natCast]
  obtain ⟨A, hA, hsl2⟩ := hslice
  obtain ⟨w1, hw1⟩ : ∃ w1, w1 = w.setCells d o ((bs.take 4096).map cell) := ⟨_, rfl⟩
  rw [← hw1] at hcopy
  have ht1 : w1.there d o 4096 := by rw [hw1]; exact World.there_setCells ht _ _ _
  have hclear : ∀ ty, (Builtin.clear_ #[31] ty #[.slice (some ⟨d, A, none⟩) (4096 - k) (4096 - k)]).run Try.prog w1 = .ok (.tuple #[]) (w1.setCells d (o + k) (List.replicate (4096 - k) (.int .u8 0))) := by
    intro ty
    by_cases hk4 : k = 4096
    · subst hk4
      simp [Builtin.clear_, run_underlying Try.underlying31, World.setCells]
    · have hA' : A = o + k := by omega
      subst hA'
      exact Lib.run_clear_slice w1 31 5 ty (.int .u8 0) Try.underlying31 (fun w => by kernel_rfl) rfl rfl d (o + k) (4096 - k) (4096 - k) (by omega)
        (fun j hj => by have := (ht1 (k + j) (by omega)).1; rwa [← Nat.add_assoc] at this) (fun j hj => by have := (ht1 (k + j) (by omega)).2; rwa [← Nat.add_assoc] at this)
  have hfin : w1.setCells d (o + k) (List.replicate (4096 - k) (.int .u8 0)) = w.setCells d o ((fillOf bs).map cell) := by
    rw [fillOf, List.map_append, setCells_append, hlen, ← hw1, List.map_replicate]
    congr 2
    omega
  obtain ⟨w2, hw2⟩ : ∃ w2, w2 = w1.setCells d (o + k) (List.replicate (4096 - k) (.int .u8 0)) := ⟨_, rfl⟩
  rw [← hw2] at hclear hfin
  have HFIN := Lib.hid hfin
  clear hfin hw2 hw1 hlen hsrc hsl ht ht1 hinfo hA
  clear hk
  go_enter Try.func26, Try.ntmps26
  go_wp2_with (go_at_call 36; refine (Calls.mono HF.out ?_); rintro e w' ⟨rfl, rfl⟩)
  go_ret
  exact ⟨rfl, HFIN.out⟩

theorem same_ok {w : World} {m d n : Nat} {L : List UInt8} (h : Mem w m d n L) (i j : Nat) (hi : i < n) (hj : j < n) :
    Calls Try.prog 20 #[.pointer (some ⟨m, 0, none⟩), .int .i64 i, .int .i64 j] w fun e w' =>
      e = .returned (.bool (pageOf L i == pageOf L j)) ∧ ∃ k, w' = w.drewN k := by
  have HF := Lib.hid (find_ok h i hi)
  have HG := Lib.hid (find_ok h j hj)
  have hlx := pageOf_length h.len i hi
  have hly := pageOf_length h.len j hj
  have hrx : w.rangeAt d (i * 4096) ((pageOf L i).map cell) := range_of_bytes h.body (i * 4096) 4096 (by have := h.len; omega)
  have hry : w.rangeAt d (j * 4096) ((pageOf L j).map cell) := range_of_bytes h.body (j * 4096) 4096 (by have := h.len; omega)
  clear h
  generalize pageOf L i = xs at *
  generalize pageOf L j = ys at *
  have HM := Lib.hid (info_pageM hlx)
  have HM2 := Lib.hid (info_pageM hly)
  have HX := Lib.hid hrx
  have HY := Lib.hid hry
  have heq : ∀ W, (Op.equalIn 10000 67 (.agg (xs.map cell).toArray) (.agg (ys.map cell).toArray)).run Try.prog W = .ok (xs == ys) W := fun W =>
    run_equalIn_bytes W 9998 67 5 4096 Try.underlying67 Try.underlying5 (fun _ => by kernel_rfl) xs ys hlx hly
  clear hlx hly hrx hry
  go_enter Try.func20, Try.ntmps20
  go_wp2_with fail
  refine (Calls.mono HF.out ?_); rintro e w' ⟨rfl, rfl⟩
  go_wp2_with fail
  refine (Calls.mono HG.out ?_); rintro e w' ⟨rfl, rfl⟩
  go_wp2_with fail
  refine wp_region_quiet_lit (by kernel_rfl) (by kernel_rfl) ?_
  go_big_quiet_step (fail)
  go_big_quiet_step (fail)
  refine wpQuiet_load_mid rfl 67 _ rfl d (i * 4096) rfl (xs.map cell) _ HX.out Try.underlying67 rfl HM.out ?_
  simp only [Act.put, List.setIfInBounds_toArray, List.set_cons_succ, List.set_cons_zero]
  go_big_quiet_step (fail)
  go_big_quiet_step (fail)
  refine wpQuiet_load_mid rfl 67 _ rfl d (j * 4096) rfl (ys.map cell) _ HY.out Try.underlying67 rfl HM2.out ?_
  simp only [Act.put, List.setIfInBounds_toArray, List.set_cons_succ, List.set_cons_zero]
  repeat (go_big_quiet_step (fail))
  refine wpQuiet_nil ?_
  intro _ hw'
  obtain ⟨nq, hw''⟩ := hw'
  subst hw''
  go_wp2
  go_ret
  exact ⟨rfl, _, rfl⟩

theorem info_frame : (Try.prog.info? 67).map (fun i => (i.zero, i.size, i.bytes)) = some (some (.agg (zeroPage.map cell).toArray), 4096, 4096) := by kernel_rfl

theorem zeroPage_get : ∀ i (h : i < zeroPage.length), zeroPage[i] = 0 := by
  unfold zeroPage
  intro i h
  exact List.getElem_replicate h

theorem made_zero (N : Nat) : madeCells (zeroPage.map cell).toArray N = ((List.replicate N (0 : UInt8)).map cell).toArray := by
  have hl := zeroPage_length
  have hg := zeroPage_get
  generalize zeroPage = Z at *
  apply Array.ext
  · simp [madeCells]
  · intro i h1 h2
    have hlt : i % (Z.map cell).toArray.size < (Z.map cell).toArray.size := Nat.mod_lt _ (by rw [List.size_toArray, List.length_map, hl]; omega)
    simp only [madeCells, Array.getElem_map, Array.getElem_range]
    rw [getElem!_pos (Z.map cell).toArray _ hlt]
    simp [hg]

theorem new_ok (n : Nat) (w : World) (h1 : 1 ≤ n) (h2 : n ≤ 256) :
    Calls Try.prog 12 #[.int .i64 n] w fun e w' =>
      e = .returned (.pointer (some ⟨w.heap.size + 1, 0, none⟩)) ∧ Mem w' (w.heap.size + 1) w.heap.size n (List.replicate (n * 4096) 0) ∧ w.grownBy w' none ∧ w'.heap.size = w.heap.size + 2 := by
  have hmk : (Instr.makeSlice 57 (.int .i64 (n : Int)) (.int .i64 (n : Int))).run Try.prog w = .ok (.slice (some ⟨w.heap.size, 0, none⟩) n n) (w.alloc (.cells ((List.replicate (n * 4096) (0 : UInt8)).map cell).toArray 67)) := by
    obtain ⟨i0, hi, hz0, hz1, hz2⟩ := info_parts info_frame
    have hr := run_make (P := Try.prog) w 57 67 i0 _ Try.underlying57 hi hz0 .i64 .i64 (n : Int) (n : Int) (by omega) (by omega) (by rw [hz2]; omega) (by omega)
    rw [hr, Int.toNat_natCast, hz1]
    simp only [Value.cells]
    rw [made_zero]
  obtain ⟨X, hX⟩ : ∃ X, X = ((List.replicate (n * 4096) (0 : UInt8)).map cell).toArray := ⟨_, rfl⟩
  rw [← hX] at hmk
  have hd : decide ((n : Int) < 1) = false := by simp; omega
  have hd2 : decide ((n : Int) > 256) = false := by simp; omega
  have HX := Lib.hid hX
  clear hX
  go_enter Try.func12, Try.ntmps12
  go_wp2
  go_ret
  refine ⟨rfl, ⟨?_, ?_, by simp, by omega, h1, h2⟩, (World.grownBy_alloc w _ none |> grown_trans <| World.grownBy_alloc _ _ none), by simp⟩
  · have := heap_alloc_new (w.alloc (.cells X 67)) (.cells #[.slice (some ⟨w.heap.size, 0, none⟩) n n] 59)
    simpa using this
  · rw [← HX.out]
    exact heap_alloc2_old w _ _

theorem new_no (n : Int) (w : World) (h : ¬ (1 ≤ n ∧ n ≤ 256)) :
    Calls Try.prog 12 #[.int .i64 n] w fun e w' => e = .returned (.pointer none) ∧ w = w' := by
  by_cases h0 : n < 1
  · go_enter Try.func12, Try.ntmps12
    go_wp2
    go_ret
    exact ⟨rfl, rfl⟩
  · have hd : decide (n < 1) = false := by simpa using h0
    have hd2 : 256 < n := by omega
    clear h
    go_enter Try.func12, Try.ntmps12
    go_wp2
    go_ret
    exact ⟨rfl, rfl⟩
end Go.Proofs.Ytdkfgniajlbifaa
