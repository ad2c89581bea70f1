/- Package file (landed): New, Ids, Make. -/
import Derived.Test.YtlaniifbfgcfaaaIDa
import Derived.Laws.MakeOwn
namespace Go.Proofs.Ytlaniifbfgcfaaa
open Go.ChangeShapes Go.WideShapes Go.ChangeAt Go.RowKit Go.Deep
open Extern.Stop (cell)
set_option linter.unusedVariables false

theorem fl_new (w : World) : Calls Try.prog 11 #[] w fun e w' => ∃ p M, e = .returned (.pointer (some ⟨p, 0, none⟩)) ∧ SI w' p newI (.slice none 0 0) M 0 ∧ w.grownBy w' none ∧ ∀ b, b ∈ blk p (.slice none 0 0) M → w.heap.size ≤ b := by
  have hmk : (Instr.makeMap 62 none).run Try.prog w = .ok (.map (some w.heap.size)) (w.alloc (.map #[] 0)) := rfl
  have hm := IMap.made w
  have ga := World.grownBy_alloc w (.map #[] 0) none
  have hsz := World.size_alloc w (.map #[] 0)
  generalize hwA : w.alloc (.map #[] 0) = wA at *
  have gb := World.grownBy_alloc wA (.cells #[.slice none 0 0, .map (some w.heap.size), .int .i64 0] 64) none
  have hb := heap_alloc_new wA (.cells #[.slice none 0 0, .map (some w.heap.size), .int .i64 0] 64)
  have HS := Lib.hid (show SI (wA.alloc (.cells #[.slice none 0 0, .map (some w.heap.size), .int .i64 0] 64)) wA.heap.size newI (.slice none 0 0) w.heap.size 0 from ⟨hb, ⟨rfl, .inl ⟨rfl, rfl⟩⟩, hm.kept (gb.block _ hm.lt (by simp))⟩)
  have HG := Lib.hid (grown_trans ga gb)
  have HZ := Lib.hid hsz
  clear hm ga gb hb hsz
  go_enter Try.func11, Try.ntmps11
  go_wp2_with fail
  go_ret
  exact ⟨_, _, rfl, HS.out, HG.out, by intro b hb; have := HZ.out; simp [blk, Value.ownBlock] at hb; omega⟩

/-- The numbers that are filled in. -/
def idRow (m j : Nat) : List Int := (List.range m).map fun i => if i < j then (i : Int) + 1 else 0
theorem idRow_len (m j : Nat) : (idRow m j).length = m := by simp [idRow]
theorem idRow_zero (m : Nat) : idRow m 0 = List.replicate m 0 := by
  unfold idRow
  apply List.ext_getElem <;> simp
theorem idRow_all (m : Nat) : idRow m m = (List.range m).map fun i : Nat => (i : Int) + 1 := by
  unfold idRow
  refine List.map_congr_left fun i hi => ?_
  rw [if_pos (List.mem_range.1 hi)]
theorem idRow_set {m j : Nat} (hj : j < m) : (idRow m j).set j ((j : Int) + 1) = idRow m (j + 1) := by
  unfold idRow
  apply List.ext_getElem
  · simp
  · intro i h1 h2
    rw [List.getElem_set]
    simp only [List.getElem_map, List.getElem_range]
    by_cases e : j = i
    · subst e
      rw [if_pos rfl, if_pos (by omega)]
    · rw [if_neg e]
      by_cases h3 : i < j
      · rw [if_pos h3, if_pos (by omega)]
      · rw [if_neg h3, if_neg (by omega)]
def idCells (m j : Nat) : Array Value := ((idRow m j).map (Value.int .i64)).toArray
theorem made_ids (m : Nat) : madeCells #[Value.int .i64 0] m = idCells m 0 := by
  unfold idCells
  rw [idRow_zero]
  apply Array.ext
  · simp [madeCells]
  · intro i h1 h2
    simp [madeCells, Nat.mod_one]
theorem run_make_ids (m : Nat) (hm : m ≤ 1000) (w : World) :
    (Instr.makeSlice 28 (.int .i64 (m : Int)) (.int .i64 (m : Int))).run Try.prog w = .ok (.slice (some ⟨w.heap.size, 0, none⟩) m m) (w.alloc (.cells (idCells m 0) 3)) := by
  have h := run_make_row' (P := Try.prog) 28 3 (.int .i64 0) 8 Try.underlying28 (by kernel_rfl) rfl .i64 .i64 m (by omega) (by omega) w
  rw [made_ids] at h
  exact h
/-- A row of numbers while it is filled. -/
structure IdW (w wr : World) (g m j : Nat) : Prop where
  row : wr.heap[g]? = some (.cells (idCells m j) 3 (0, 0))
  fresh : w.heap.size ≤ g
  grown : w.grownBy wr none
theorem IdW.step {w wr : World} {g m j : Nat} (h : IdW w wr g m j) (hj : j < m) : IdW w (wr.setCell ⟨g, j, none⟩ (.int .i64 ((j : Int) + 1))) g m (j + 1) := by
  refine ⟨?_, h.fresh, grown_at h.grown (grown_set wr g j _) h.fresh⟩
  rw [heap_setCell_same wr g j _ _ _ h.row]
  unfold idCells
  rw [← idRow_set hj, List.map_set]
  simp
theorem IdW.at {w wr : World} {g m j : Nat} (h : IdW w wr g m j) (hj : j < m) : (∃ z, wr.cell? ⟨g, j, none⟩ = some (.int .i64 z)) ∧ wr.frozen? ⟨g, j, none⟩ = false := by
  refine ⟨⟨(idRow m j)[j]'(by rw [idRow_len]; exact hj), ?_⟩, frozen_of_row _ _ _ _ _ h.row⟩
  rw [cell_of_row _ _ _ _ _ _ h.row]
  simp [idCells, idRow_len, hj]
theorem IdW.rowOf {w wr : World} {g m : Nat} (h : IdW w wr g m m) : RowOf zCells 1 wr (.slice (some ⟨g, 0, none⟩) m m) ((List.range m).map fun i : Nat => (i : Int) + 1) := by
  unfold RowOf
  rw [← idRow_all, z_flat]
  refine ⟨by simp, ?_⟩
  rw [idRow_len]
  refine .inr ⟨g, 0, m, rfl, (Array.getElem?_eq_some_iff.1 h.row).1, fun j u hu => ?_⟩
  rw [Nat.zero_add, cell_of_row _ _ _ _ _ _ h.row]
  simpa [idCells] using hu

section
variable {w w' : World} {p M n : Nat} {s s' : IS} {v : Value}
set_option maxHeartbeats 1000000 in
theorem fl_ids (h : SI w p s v M n) (hk : s.Ok) : Calls Try.prog 28 #[.pointer (some ⟨p, 0, none⟩)] w fun e w' => ∃ u, e = .returned u ∧ RowOf zCells 1 w' u (idsI s) ∧ w.grownBy w' none := by
  obtain ⟨c0, c1, c2⟩ := h.at
  obtain ⟨a, c, e1⟩ := h.form
  subst e1
  have HM := Lib.hid (made_ok h)
  have hlen := hk.len
  unfold idsI
  obtain ⟨m, hm⟩ : ∃ m, s.Z.length = m := ⟨_, rfl⟩
  rw [hm] at c0 hlen ⊢
  have hmk := run_make_ids m (by omega) w
  have HI := Lib.hid (show IdW w (w.alloc (.cells (idCells m 0) 3)) w.heap.size m 0 from ⟨heap_alloc_new w _, Nat.le_refl _, World.grownBy_alloc w _ none⟩)
  obtain ⟨g, hg⟩ : ∃ g, w.heap.size = g := ⟨_, rfl⟩
  rw [hg] at hmk HI
  clear h hk hm
  go_enter Try.func28, Try.ntmps28
  go_wp2_with fail
  refine HM.out.mono ?_
  rintro e w2 ⟨rfl, e2⟩
  subst w2
  go_wp2_with fail
  generalize w.alloc (.cells (idCells m 0) 3) = wA at *
  go_loopw [4, 16] (fun _ iv wr => ∃ j : Nat, j ≤ m ∧ iv = .int .i64 j ∧ Hid (IdW w wr g m j)) (fun _ iv _ => m - (intOf iv).toNat)
  case atStart => exact ⟨0, Nat.zero_le _, rfl, HI⟩
  case round =>
    clear HI
    obtain ⟨j, hj, rfl, HJ⟩ := hrel
    by_cases hlt : j < m
    · have hjb : decide ((j : Int) < (m : Int)) = true := by simp; omega
      have d3 : decide (m ≤ j) = false := decide_eq_false (by omega)
      obtain ⟨⟨z, k1⟩, f1⟩ := HJ.out.at hlt
      have HN := Lib.hid (HJ.out.step hlt)
      go_wp2_with fail
      exact ⟨⟨j + 1, by omega, by simp, HN⟩, by simp [intOf]; omega⟩
    · have hjb : decide ((j : Int) < (m : Int)) = false := by simp; omega
      obtain rfl : j = m := by omega
      go_wp2_with fail
      go_ret
      exact ⟨_, rfl, HJ.out.rowOf, HJ.out.grown⟩

/-- 'append(l, n)': the row's own block, or a new one. -/
theorem wpList_zadd {ops : Array Oper} {rest : List Oper} {o : Oper} {a : Act} {Q : Exit → Act → World → Prop} (w : World) (hgd : o.guard = none) (s x : Operand)
    (ho : o.op = .call { callee := .builtin .append, args := #[s, x], argTypes := #[28, 28] }) (base : Nat) (v : Value) (xs : List Int) (y : Int) (hs : a.eval s = v) (h : ZOwn w base v xs) (H c : Nat)
    (hx : a.eval x = .slice (some ⟨H, 0, none⟩) 1 c) (hH : w.heap.size = H) (hl : xs.length ≤ 1000000) (hbase : base ≤ H)
    (hK : ∀ g cap w', ZOwn w' base (.slice (some ⟨g, 0, none⟩) (xs.length + 1) cap) (xs ++ [y]) → (w.alloc (.cells #[.int .i64 y] 3)).grownBy w' v.ownBlock → (v.ownBlock = some g ∨ H ≤ g) → wpList Try.prog ops Q rest (a.put o.dst (.slice (some ⟨g, 0, none⟩) (xs.length + 1) cap)) w') :
    wpList Try.prog ops Q (o :: rest) a (w.alloc (.cells #[.int .i64 y] 3)) := by
  obtain ⟨i0, hi, hz0, hz1, hz2⟩ := info_parts info_int10
  subst hH
  refine wpList_append_lies _ hgd s x 28 ho base 3 i0 (.int .i64 0) 1 8 Try.underlying28 hi hz0 hz1 hz2 rfl (by decide) v xs.length (xs.flatMap zCells) hs (World.ownsRow.alloc h _) ⟨w.heap.size, 0, none⟩ 1 c (zCells y) hx rfl ?_ ?_ (by omega) (by unfold maxLen; omega) (by omega) (by simp; omega) (w.heap.size + 1) (by simp) ?_
  · exact World.news_of_block (heap_alloc_new w _)
  · intro u hu; simp [zCells] at hu; rw [hu]; rfl
  · intro g cap w' hown hgrow hat hlt
    refine hK g cap w' ?_ hgrow (hat.imp id (fun e => by omega))
    unfold ZOwn
    simp only [List.length_append, List.length_cons, List.length_nil, List.flatMap_append, List.flatMap_cons, List.flatMap_nil, List.append_nil]
    exact hown

/-- What a call leaves. -/
def LeftS (w w' : World) (p M n : Nat) (v : Value) (s' : IS) : Prop := ∃ v', SI w' p s' v' M n ∧ Turn (blk p v M) w w' ∧ ∀ b, b ∈ blk p v' M → b ∈ blk p v M ∨ w.heap.size ≤ b
theorem SI.same (h : SI w p s v M n) : LeftS w w p M n v s := ⟨v, h, Turn.refl _ _, fun b hb => .inl hb⟩
theorem SI.added (h : SI w p s v M n) {wB w9 : World} (g0 : w.grownBy wB none) (g9 : wB.grownBy w9 v.ownBlock) {g c : Nat} {q : Int} (ho : ZOwn w9 0 (.slice (some ⟨g, 0, none⟩) (s.Z.length + 1) c) (s.Z ++ [q])) (hat : v.ownBlock = some g ∨ w.heap.size ≤ g) :
    LeftS w (w9.setCell ⟨p, 0, none⟩ (.slice (some ⟨g, 0, none⟩) (s.Z.length + 1) c)) p M n v ⟨s.Z ++ [q], s.P, s.left⟩ := by
  have hB := h.grow g0
  have hp9 : w9.heap[p]? = wB.heap[p]? := g9.block p hB.plt h.vp.symm
  have hM9 : w9.heap[M]? = wB.heap[M]? := g9.block M hB.pages.lt h.vM.symm
  have hpg : g ≠ p := fun e => by
    subst e
    rcases hat with h1 | h1
    · exact h.vp h1
    · have := h.plt; omega
  have hk : ∀ b, b ≠ p → (w9.setCell ⟨p, 0, none⟩ (.slice (some ⟨g, 0, none⟩) (s.Z.length + 1) c)).heap[b]? = w9.heap[b]? := fun b hb => heap_setCell_other w9 ⟨p, 0, none⟩ b _ (by first | exact hb | exact hb.symm)
  refine ⟨.slice (some ⟨g, 0, none⟩) (s.Z.length + 1) c, ⟨heap_setCell_same w9 p 0 _ _ _ (hp9.trans hB.head), ho.kept fun b hb => hk b fun e => ?_, (hB.pages.kept hM9).kept (hk M h.ne)⟩, ?_, fun b hb => ?_⟩
  · have e2 : g = b := by simpa [Value.ownBlock] using hb
    exact hpg (e2.trans e)
  · have t1 : Turn (blk p v M) w w9 := by
      refine ⟨g9.os.trans g0.os, g9.tape.trans g0.tape, g9.output.trans g0.output, Nat.le_trans g0.size g9.size, fun b hb hO => ?_⟩
      rw [g9.block b (Nat.lt_of_lt_of_le hb g0.size) fun e => hO (by simp [blk, ← e]), g0.block b hb (by simp)]
    exact t1.trans' (Turn.setCell (blk p v M) w9 p 0 _ (by simp [blk]))
  · simp [blk, Value.ownBlock] at hb
    rcases hb with rfl | rfl | rfl
    · exact .inl (by simp [blk])
    · exact .inl (by simp [blk])
    · rcases hat with h1 | h1
      · exact .inl (by simp [blk, h1])
      · exact .inr h1

set_option maxHeartbeats 1000000 in
theorem fl_make (h : SI w p s v M n) (hk : s.Ok) (q : Int) :
    Calls Try.prog 12 #[.pointer (some ⟨p, 0, none⟩), .int .i64 q] w fun e w' => e = .returned (.tuple #[.int .i64 (makeI s q).1, .int .i64 (makeI s q).2.1]) ∧ LeftS w w' p M n v (makeI s q).2.2 := by
  obtain ⟨c0, c1, c2⟩ := h.at
  obtain ⟨a, c, e1⟩ := h.form
  have HM := Lib.hid (made_ok h)
  have hlen := hk.len
  by_cases hn : 0 ≤ q ∧ q ≤ 4096
  · have HB := Lib.hid (mayBe_ok w q true (decide_eq_true hn))
    by_cases hz : 16 ≤ s.Z.length
    · rw [show makeI s q = (0, 5, s) by unfold makeI; rw [if_pos hn, if_pos hz]]
      have d2 : decide ((s.Z.length : Int) ≥ 16) = true := decide_eq_true (by omega)
      have HS := Lib.hid h.same
      subst e1
      clear h hk hn hz
      go_enter Try.func12, Try.ntmps12
      go_wp2_with fail
      refine HM.out.mono ?_
      rintro e w2 ⟨rfl, e2⟩
      subst w2
      go_wp2_with fail
      refine HB.out.mono ?_
      rintro e w2 ⟨rfl, e2⟩
      subst w2
      go_wp2_with fail
      go_ret2
      exact ⟨rfl, HS.out⟩
    · rw [show makeI s q = ((s.Z.length : Int) + 1, 0, ⟨s.Z ++ [q], s.P, s.left⟩) by unfold makeI; rw [if_pos hn, if_neg hz]]
      have d2 : decide ((s.Z.length : Int) ≥ 16) = false := decide_eq_false (by omega)
      have HH := Lib.hid h
      have HZ := Lib.hid h.sizes
      subst e1
      clear h hk hn hz
      go_enter Try.func12, Try.ntmps12
      go_wp2_with fail
      refine HM.out.mono ?_
      rintro e w2 ⟨rfl, e2⟩
      subst w2
      go_wp2_with fail
      refine HB.out.mono ?_
      rintro e w2 ⟨rfl, e2⟩
      subst w2
      go_wp2_with (at_builtin; refine wpList_zadd w rfl _ _ rfl 0 (.slice a s.Z.length c) s.Z q rfl HZ.out w.heap.size _ rfl rfl (by omega) (Nat.zero_le _) ?_; intro g9 c9 w9 hown9 hg9 hat9; have hB := HH.out.grow (World.grownBy_alloc w (.cells #[.int .i64 q] 3) none); have hp9 := hg9.block p hB.plt HH.out.vp.symm; have k9 : w9.cell? ⟨p, 0, none⟩ = some (.slice a s.Z.length c) := (by rw [cell_of_row _ _ _ _ _ _ (hp9.trans hB.head)]; rfl); have f9 : w9.frozen? ⟨p, 0, none⟩ = false := frozen_of_row _ _ _ _ _ (hp9.trans hB.head); have HA := Lib.hid (HH.out.added (World.grownBy_alloc w (.cells #[.int .i64 q] 3) none) hg9 hown9 hat9); clear hown9 hg9 hat9 hB hp9)
      go_ret2
      exact ⟨rfl, HA.out⟩
  · have HB := Lib.hid (mayBe_ok w q false (decide_eq_false hn))
    rw [show makeI s q = (0, 2, s) by unfold makeI; rw [if_neg hn]]
    have HS := Lib.hid h.same
    clear h hk hn
    go_enter Try.func12, Try.ntmps12
    go_wp2_with fail
    refine HM.out.mono ?_
    rintro e w2 ⟨rfl, e2⟩
    subst w2
    go_wp2_with fail
    refine HB.out.mono ?_
    rintro e w2 ⟨rfl, e2⟩
    subst w2
    go_wp2_with fail
    go_ret2
    exact ⟨rfl, HS.out⟩
end
end Go.Proofs.Ytlaniifbfgcfaaa
