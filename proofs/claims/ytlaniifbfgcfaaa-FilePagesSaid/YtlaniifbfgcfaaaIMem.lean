/- Layer 10: rows of bytes in whatever block; pages that the law makes; the very same bytes. -/
import Derived.Test.YtlaniifbfgcfaaaRows
import Derived.Test.YtlaniifbfgcfaaaIList
import Derived.Test.YtlaniifbfgcfaaaTRow
import Derived.Test.YtlaniifbfgcfaaaTInts
import Derived.WalkKit
import Derived.ProofKit
import Derived.OpenShut
import Derived.WalkLawsBesides
import Derived.WalkSpells
import Derived.BigQuiet
import Derived.WalkArith
import Derived.Deep.QuietTactic
import Derived.Deep.DeepMust
import Derived.Outline
import Derived.Below
import Derived.Laws.MakeOwn
import Derived.Laws.BytesArg
import Derived.Laws.CopyOwn
import Derived.Laws.OwnMore
import Derived.Laws.AppendOwnNone
import Derived.Deep.AppendLies
import Derived.Deep.OwnRows
import Derived.Deep.RegionHeld3
namespace Go.Proofs.Ytlaniifbfgcfaaa
open Go.ChangeShapes Go.WideShapes Go.ChangeAt Go.RowKit Go.Deep
open Extern.Stop (cell)
set_option linter.unusedVariables false

theorem grown_drew1 (w : World) : w.grownBy w.drew none := ⟨rfl, rfl, rfl, Nat.le_refl _, fun _ _ _ => rfl⟩
theorem grown_draws (w : World) (n : Nat) : w.grownBy (w.drewN n) none := ⟨rfl, rfl, rfl, Nat.le_refl _, fun _ _ _ => rfl⟩
theorem grown_set (W : World) (b o : Nat) (v : Value) : W.grownBy (W.setCell ⟨b, o, none⟩ v) (some b) := ⟨rfl, rfl, rfl, by simp, fun k _ hk => heap_setCell_other W _ k v (fun e => hk (by rw [e]))⟩
theorem grown_at {a b e : World} {x : Nat} (h : a.grownBy b none) (g : b.grownBy e (some x)) (hx : a.heap.size ≤ x) : a.grownBy e none :=
  ⟨g.os.trans h.os, g.tape.trans h.tape, g.output.trans h.output, Nat.le_trans h.size g.size, fun k hk _ => (g.block k (Nat.lt_of_lt_of_le hk h.size) (by intro e; have e2 := Option.some.inj e; omega)).trans (h.block k hk (by simp))⟩
theorem grown_then {a b : World} {r : Option Nat} (h : a.grownBy b r) : a.grownBy b.drew r := ⟨h.os, h.tape, h.output, h.size, fun k hk hr => h.block k hk hr⟩
theorem okS {x : Int} (h0 : -100000 ≤ x) (h1 : x ≤ 100000) : okI x := ⟨by omega, by omega⟩

/-- Block g, of whatever type, begins with these bytes. -/
def Bs (w : World) (g : Nat) (bs : List UInt8) : Prop := ∃ cur t, w.heap[g]? = some (.cells cur t (0, 0)) ∧ bs.length ≤ cur.size ∧ cur.toList.take bs.length = bs.map cell
section
variable {w w' : World} {g : Nat} {bs : List UInt8}
theorem Bs.lt (h : Bs w g bs) : g < w.heap.size := by obtain ⟨cur, t, h1, _⟩ := h; exact (Array.getElem?_eq_some_iff.1 h1).1
theorem Bs.kept (h : Bs w g bs) (hb : w'.heap[g]? = w.heap[g]?) : Bs w' g bs := by obtain ⟨cur, t, h1, h2⟩ := h; exact ⟨cur, t, hb.trans h1, h2⟩
theorem Bs.grow (h : Bs w g bs) (k : w.grownBy w' none) : Bs w' g bs := h.kept (k.block g h.lt (by simp))
theorem Bs.at (h : Bs w g bs) {q : Nat} {x : UInt8} (hq : bs[q]? = some x) : w.cell? ⟨g, q, none⟩ = some (.int .u8 x.toNat) ∧ w.frozen? ⟨g, q, none⟩ = false := by
  obtain ⟨cur, t, h1, h2, h3⟩ := h
  refine ⟨?_, frozen_of_row _ _ _ _ _ h1⟩
  rw [cell_of_row _ _ _ _ _ _ h1, ← Array.getElem?_toList]
  have hlt := (List.getElem?_eq_some_iff.1 hq).1
  have h6 := congrArg (fun z => z[q]?) h3
  rw [List.getElem?_take, if_pos hlt, List.getElem?_map, hq] at h6
  exact h6
theorem Bs.src (h : Bs w g bs) : Src w (some ⟨g, 0, none⟩) bs.length bs := by
  refine ⟨rfl, .inr ⟨g, 0, rfl, fun j v hv => ?_⟩⟩
  rw [List.getElem?_map] at hv
  obtain ⟨x, hx, rfl⟩ := Option.map_eq_some_iff.1 hv
  rw [Nat.zero_add]
  exact (h.at hx).1
theorem Bs.set (h : Bs w g bs) (q : Nat) (x : Int) (h0 : 0 ≤ x) (h1 : x < 256) : Bs (w.setCell ⟨g, q, none⟩ (.int .u8 x)) g (bs.set q (b8 x)) := by
  obtain ⟨cur, t, k1, k2, k3⟩ := h
  refine ⟨cur.setIfInBounds q (.int .u8 x), t, heap_setCell_same w g q cur _ _ k1, by simpa using k2, ?_⟩
  rw [List.length_set, Array.toList_setIfInBounds, List.take_set, k3, List.map_set, cell_b8 h0 h1]

/-- An answer in new memory. -/
def Fresh (w w' : World) (O : List Nat) (v : Value) (bs : List UInt8) : Prop := ∃ s c, v = .slice s bs.length c ∧ (bs.length = 0 ∨ ∃ g, s = some ⟨g, 0, none⟩ ∧ w.heap.size ≤ g ∧ g ∉ O ∧ Bs w' g bs)
theorem Fresh.nil (w w' : World) (O : List Nat) (s : Option Addr) (c : Nat) : Fresh w w' O (.slice s 0 c) [] := ⟨s, c, rfl, .inl rfl⟩
theorem Fresh.src {O : List Nat} {v : Value} (h : Fresh w w' O v bs) : ∃ s c, v = .slice s bs.length c ∧ Src w' s bs.length bs := by
  obtain ⟨s, c, rfl, h0 | ⟨g, rfl, _, _, hb⟩⟩ := h
  · exact ⟨s, c, rfl, rfl, .inl h0⟩
  · exact ⟨_, c, rfl, hb.src⟩
end
/-- Behind a call. -/
def ILeft (D : World → Nat → IS → List Nat → Prop) (w w' : World) (p : Nat) (O : List Nat) (s : IS) : Prop := ∃ O', D w' p s O' ∧ Turn O w w' ∧ ∀ b, b ∈ O' → b ∈ O ∨ w.heap.size ≤ b

theorem run_str {w : World} {s : Option Addr} {l : Nat} {bs : List UInt8} (h : Src w s l bs) (c : Nat) : (convert 32 9 (.slice s l c)).run Try.prog w = .ok (.string ⟨bs.toArray⟩) w := by
  by_cases hl : l = 0
  · have hb : bs = [] := by have := h.1; cases bs <;> simp_all
    subst hl hb
    cases s with
    | none =>
      rw [run_convert_bytes_nil w 32 5 Try.underlying32 Try.underlying5 0 c _ Try.underlying9]
      rfl
    | some a =>
      rw [run_convert_bytes_string w _ _ 5 _ _ _ Try.underlying32 Try.underlying5 Try.underlying9,
        run_bytesToString w a 0 c [] (by simpa using run_loadCells_list (P := Try.prog) w a [] (by simp))]
      rfl
  · rcases h.2 with h0 | ⟨b, o, rfl, hr⟩
    · exact absurd h0 hl
    · rw [run_convert_bytes_arg w 32 5 Try.underlying32 Try.underlying5 b o l c (bs.map fun x => (x.toNat : Int)) (by simpa using h.1)
        (fun i hi => by
          have hi' : i < bs.length := by rw [h.1]; exact hi
          rw [hr i (cell bs[i]) (by simp [List.getElem?_eq_getElem hi'])]
          simp [List.getD, List.getElem?_eq_getElem hi', cell]) _ Try.underlying9]
      simp [strOfNums, Function.comp_def]
theorem bytesEq {w : World} {s s' : Option Addr} {l l' : Nat} {bs bs' : List UInt8} (h : Src w s l bs) (h' : Src w s' l' bs') (c c' : Nat) (b : Bool) (hb : (bs == bs') = b) :
    Calls Try.prog 18 #[.slice s l c, .slice s' l' c'] w fun e w' => e = .returned (.bool b) ∧ w' = w := by
  have h1 := run_str h c
  have h2 := run_str h' c'
  have HB := Lib.hid hb
  clear h h' hb
  go_enter Try.func18, Try.ntmps18
  go_wp2
  go_ret
  refine ⟨?_, rfl⟩
  rw [← HB.out]
  rfl

theorem made_bytes (N : Nat) : madeCells #[Value.int .u8 0] N = ((List.replicate N (0 : UInt8)).map cell).toArray := by
  apply Array.ext
  · simp [madeCells]
  · intro i h1 h2
    simp [madeCells, cell, Nat.mod_one]
theorem run_make_page (W : World) : (Instr.makeSlice 32 (.int .i64 4096) (.int .i64 4096)).run Try.prog W = .ok (.slice (some ⟨W.heap.size, 0, none⟩) 4096 4096) (W.alloc (.cells (pageZ.map cell).toArray 5)) := by
  obtain ⟨i0, hi, hz0, hz1, hz2⟩ := info_parts (show (Try.prog.info? 5).map (fun i => (i.zero, i.size, i.bytes)) = some (some (.int .u8 0), 1, 1) by kernel_rfl)
  have hr := run_make (P := Try.prog) W 32 5 i0 _ Try.underlying32 hi hz0 .i64 .i64 4096 4096 (by omega) (by omega) (by rw [hz2]; omega) (by omega)
  rw [hr, hz1]
  have e : Int.toNat 4096 = 4096 := rfl
  rw [e, Nat.mul_one]
  simp only [Value.cells]
  rw [made_bytes]
  rfl
theorem fillOf_len (bs : List UInt8) : (fillOf bs).length = 4096 := fillOf_length bs

set_option maxRecDepth 100000 in
theorem page_ok {w : World} {s : Option Addr} {l : Nat} {bs : List UInt8} (c : Nat) (h : Src w s l bs) (hl : l ≤ 1000000) :
    Calls Try.prog 29 #[.slice s l c] w fun e w' => ∃ g, e = .returned (.slice (some ⟨g, 0, none⟩) 4096 4096) ∧ w.heap.size ≤ g ∧ Bs w' g (fillOf bs) ∧ w.grownBy w' none := by
  have hmk := run_make_page w
  have ga := World.grownBy_alloc w (.cells (pageZ.map cell).toArray 5) none
  have hnew := heap_alloc_new w (.cells (pageZ.map cell).toArray 5)
  have hs := h.kept ga (by simp)
  obtain ⟨Z, hZ⟩ : ∃ Z, (pageZ.map cell).toArray = Z := ⟨_, rfl⟩
  have hZs : Z.size = 4096 := by rw [← hZ]; simp [pageZ]
  have hZl : Z.toList = pageZ.map cell := by rw [← hZ]
  rw [hZ] at hmk ga hnew hs
  generalize hwA : w.alloc (.cells Z 5) = wA at *
  obtain ⟨w9, h9, b9, hcopy⟩ : ∃ w9, Bs w9 w.heap.size (fillOf bs) ∧ Below w.heap.size wA w9 ∧ ∃ k, (Builtin.copy_ #[32, 32] 3 #[.slice (some ⟨w.heap.size, 0, none⟩) 4096 4096, .slice s l c]).run Try.prog wA = .ok (goInt k) w9 := by
    by_cases h0 : l = 0
    · have hbs : bs = [] := by have := hs.1; cases bs <;> simp_all
      subst h0 hbs
      have hrun := run_copy_none (P := Try.prog) wA 32 32 3 5 (some ⟨w.heap.size, 0, none⟩) s 4096 4096 0 c Try.underlying32 (by kernel_rfl) (by simp [Nat.min])
      refine ⟨wA, ⟨Z, 5, hnew, ?_, ?_⟩, Below.refl _ _, 0, hrun⟩
      · rw [fillOf_len, hZs]; exact Nat.le_refl _
      · rw [fillOf_len, hZl, List.take_of_length_le (by simp [pageZ])]
        congr 1
    · rcases hs.2 with h1 | ⟨b, o, rfl, hr⟩
      · exact absurd h1 h0
      · have hbl := hs.1
        have hrun := run_copy_row (P := Try.prog) wA 32 32 3 5 w.heap.size 0 4096 4096 ⟨b, o, none⟩ l c Z 5 ((bs.take 4096).map cell) Try.underlying32 (by kernel_rfl) hnew (by rw [List.length_map, List.length_take, hbl]; exact Nat.min_comm _ _)
          (fun j v hv => by
            rw [Addr.add_mid]
            refine hr j v ?_
            rw [List.getElem?_map, List.getElem?_take] at hv
            split at hv
            · rw [List.getElem?_map]; exact hv
            · cases hv) (by simp [hZs]; omega) (one_cells _)
        refine ⟨_, ?_, below_setRow (Below.refl _ _) (Nat.le_refl _) _, _, hrun⟩
        refine ⟨_, 5, setRow_heap wA w.heap.size _ _ 5 _ hnew, ?_, ?_⟩
        · rw [fillOf_len]; simp [hZs]; omega
        · rw [fillOf_len, hZl]
          unfold fillOf pageZ
          apply List.ext_getElem?
          intro i
          simp only [List.take_zero, List.nil_append, List.getElem?_take, List.getElem?_map, List.getElem?_append, List.length_map, List.length_take, List.getElem?_drop, List.getElem?_replicate, List.length_replicate]
          by_cases hi : i < 4096
          · rw [if_pos hi]
            by_cases hib : i < min 4096 bs.length
            · simp [hib]
            · simp only [hib, if_false]
              have e1 : 0 + min 4096 bs.length + (i - min 4096 bs.length) < 4096 := by omega
              have e2 : i - min 4096 bs.length < 4096 - bs.length := by omega
              rw [if_pos e1, if_pos e2]
          · rw [if_neg hi]
            have hib : ¬ i < min 4096 bs.length := by omega
            have e2 : ¬ i - min 4096 bs.length < 4096 - bs.length := by omega
            simp only [hib, if_false]
            rw [if_neg e2]
            rfl
  obtain ⟨k, hcopy⟩ := hcopy
  have HG := Lib.hid (grown_of_below ((below_of_grown ga (Nat.le_refl _) (by simp)).trans b9) none)
  have H9 := Lib.hid h9
  clear h ga hnew hs h9 b9 hZ hZs hZl
  go_enter Try.func29, Try.ntmps29
  go_wp2_with fail
  go_ret
  exact ⟨w.heap.size, rfl, Nat.le_refl _, H9.out, HG.out⟩
end Go.Proofs.Ytlaniifbfgcfaaa
