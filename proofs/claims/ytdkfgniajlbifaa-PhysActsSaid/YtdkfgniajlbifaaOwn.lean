/- A slice of bytes that the law itself made by append([]byte{}, b...): its bytes, read, written and kept. -/
import Derived.Test.YtdkfgniajlbifaaBytesEq
import Derived.Test.YtdkfgniajlbifaaActs
import Derived.Laws.OwnMore
import Derived.Laws.AppendOwnNone
namespace Go.Proofs.Ytdkfgniajlbifaa
open Go.ChangeShapes Go.WideShapes Go.ChangeAt Go.RowKit
open Extern.Stop (cell)
set_option linter.unusedVariables false

/-- Block g is a row of cap cells, the first l of which are the bytes bs. -/
structure Own (w : World) (g l cap : Nat) (bs : List UInt8) : Prop where
  block : ∃ cur, w.heap[g]? = some (.cells cur 5 (0, 0)) ∧ cur.size = cap ∧ cur.toList.take l = bs.map cell
  le : l ≤ cap
  len : bs.length = l

theorem Own.lt {w : World} {g l cap : Nat} {bs : List UInt8} (h : Own w g l cap bs) : g < w.heap.size := by
  obtain ⟨cur, hc, _⟩ := h.block
  exact (Array.getElem?_eq_some_iff.1 hc).1

theorem Own.kept {w w' : World} {g l cap : Nat} {bs : List UInt8} {r : Option Nat} (h : Own w g l cap bs) (G : w.grownBy w' r) (hr : r ≠ some g) : Own w' g l cap bs := by
  obtain ⟨cur, hc, h1, h2⟩ := h.block
  exact ⟨⟨cur, blk_kept hc G hr, h1, h2⟩, h.le, h.len⟩

theorem Own.at {w : World} {g l cap : Nat} {bs : List UInt8} (h : Own w g l cap bs) (q : Nat) (hq : q < l) : w.cell? ⟨g, q, none⟩ = some (.int .u8 (bs.getD q 0).toNat) ∧ w.frozen? ⟨g, q, none⟩ = false := by
  obtain ⟨cur, hc, h1, h2⟩ := h.block
  refine ⟨?_, frozen_of_row w g q _ _ hc⟩
  rw [cell_of_row w g q _ _ _ hc, ← Array.getElem?_toList]
  have h3 := congrArg (fun z => z[q]?) h2
  have hq' : q < bs.length := by rw [h.len]; exact hq
  rw [List.getElem?_take, if_pos hq, List.getElem?_map, List.getElem?_eq_getElem hq'] at h3
  rw [h3]
  simp [List.getD, List.getElem?_eq_getElem hq', cell]

theorem Own.src {w : World} {g l cap : Nat} {bs : List UInt8} (h : Own w g l cap bs) : Src w (some ⟨g, 0, none⟩) l bs := by
  refine ⟨h.len, .inr ⟨g, 0, rfl, fun j v hv => ?_⟩⟩
  have hj : j < bs.length := by
    have := (List.getElem?_eq_some_iff.1 hv).1
    simpa using this
  rw [Nat.zero_add, (h.at j (by rw [← h.len]; exact hj)).1, ← hv]
  simp [List.getD, List.getElem?_eq_getElem hj, cell]

theorem Own.set {w : World} {g l cap : Nat} {bs : List UInt8} (h : Own w g l cap bs) (q : Nat) (x : Int) (hq : q < l) (h0 : 0 ≤ x) (h1 : x < 256) : Own (w.setCell ⟨g, q, none⟩ (.int .u8 x)) g l cap (bs.set q (b8 x)) := by
  obtain ⟨cur, hc, hs, ht⟩ := h.block
  refine ⟨⟨cur.setIfInBounds q (.int .u8 x), heap_setCell_same w g q cur _ _ hc, by simpa using hs, ?_⟩, h.le, by simpa using h.len⟩
  rw [Array.toList_setIfInBounds, List.take_set, ht, List.map_set, cell_b8 h0 h1]

/-- append([]byte{}, b...): a row of the law's own with b's bytes. -/
theorem wpList_clone {ops : Array Oper} {rest : List Oper} {o : Oper} {a : Act} {Q : Exit → Act → World → Prop} {w : World} (hg : o.guard = none) (x y : Operand)
    (hop : o.op = Op.call { callee := Callee.builtin Builtin.append, args := #[x, y], argTypes := #[31, 31] })
    (g : Nat) (hb : w.heap[g]? = some (.cells #[] 5 (0, 0))) (hx : a.eval x = .slice (some ⟨g, 0, none⟩) 0 0)
    (s : Option Addr) (l c : Nat) (bs : List UInt8) (hy : a.eval y = .slice s l c) (hs : Src w s l bs) (hl : l ≤ 140737488355328)
    (hK : ∀ g' cap w', g ≤ g' → Own w' g' l cap bs → w.grownBy w' (some g) → wpList Try.prog ops Q rest (a.put o.dst (.slice (some ⟨g', 0, none⟩) l cap)) w') :
    wpList Try.prog ops Q (o :: rest) a w := by
  have hglt := (Array.getElem?_eq_some_iff.1 hb).1
  obtain ⟨i0, hi, hz0, hz1, hz2⟩ := info_parts (show (Try.prog.info? 5).map (fun i => (i.zero, i.size, i.bytes)) = some (some (.int .u8 0), 1, 1) by kernel_rfl)
  have hown : w.ownsRow g 5 1 (.slice (some ⟨g, 0, none⟩) 0 0) 0 [] := ⟨rfl, .inr ⟨g, 0, #[], rfl, Nat.le_refl _, hb, Nat.le_refl _, by simp [maxLen], rfl, rfl⟩⟩
  have key : ∃ v' w', (Builtin.append_ #[31, 31] o.type #[.slice (some ⟨g, 0, none⟩) 0 0, .slice s l c]).run Try.prog w = .ok v' w' ∧ w'.ownsRow g 5 1 v' l (bs.map cell) ∧ w.grownBy w' (some g) ∧ v' ≠ .slice none 0 0 := by
    by_cases h0 : l = 0
    · have hbs : bs = [] := by have := hs.1; cases bs <;> simp_all
      subst h0 hbs
      refine ⟨.slice (some ⟨g, 0, none⟩) 0 0, w, ?_, by simpa using hown, grown_refl _ _, by simp⟩
      cases s with
      | none => simp [Builtin.append_, run_underlying Try.underlying31, sizeOf, typeInfo, hi, Builtin.lenOf, Builtin.firstCells, storeCells]
      | some ad =>
        have hf := run_firstCells_some (P := Try.prog) w i0.size 0 ad 0 c [] (by simp) (by simp)
        simp [Builtin.append_, run_underlying Try.underlying31, sizeOf, typeInfo, hi, Builtin.lenOf, storeCells, hf]
    · rcases hs.2 with h | ⟨b, p, rfl, hr⟩
      · exact absurd h h0
      · obtain ⟨v', w', hrun, hown', hgr, hnil⟩ := run_append_own (P := Try.prog) w g 31 o.type 5 i0 (.int .u8 0) 1 1 Try.underlying31 hi hz0 hz1 hz2 rfl (by omega) _ 0 [] hown ⟨b, p, none⟩ l c (bs.map cell)
          (by simpa using hs.1) (fun j u hu => by rw [Addr.add_mid]; exact hr j u hu) (one_cells _) (by unfold maxLen; omega) (by omega) (by omega)
        refine ⟨v', w', hrun, by simpa using hown', hgr, fun hv => ?_⟩
        have := hnil.1 hv
        simp at this
  obtain ⟨v', w', hrun, ⟨hlen, hor⟩, hgr, hv'⟩ := key
  rcases hor with ⟨hn, _⟩ | ⟨g', cap, cur, rfl, hgg, hcell, hle, _, hsz, htk⟩
  · exact absurd hn hv'
  · refine wpList_plain hg fun K hK' => ?_
    have hfin := hK g' cap w' hgg ⟨⟨cur, hcell, by simpa using hsz, by simpa using htk⟩, hle, hs.1⟩ hgr
    unfold Oper.wp
    simp [execOp, hop, resolve, invoke, builtin, hx, hy, hrun, Result.andThen]
    exact hK' _ _ hfin
end Go.Proofs.Ytdkfgniajlbifaa
