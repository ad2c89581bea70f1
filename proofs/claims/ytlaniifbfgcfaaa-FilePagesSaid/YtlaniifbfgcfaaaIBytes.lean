/- Layer 10: a row of bytes copied; over its types alone. -/
import Derived.Test.YtlaniifbfgcfaaaIRef1
namespace Go.Proofs.Ytlaniifbfgcfaaa
open Go.ChangeShapes Go.WideShapes Go.ChangeAt Go.RowKit Go.Deep
open Extern.Stop (cell)
set_option linter.unusedVariables false

/-- append([]byte{}, b...): a row of its own with b's bytes. -/
theorem run_bytes (w : World) (g : Nat) (ty : TypeId) (hb : w.heap[g]? = some (.cells #[] 5 (0, 0))) (s : Option Addr) (l c : Nat) (bs : List UInt8) (hs : Src w s l bs) (hl : l ≤ 1000000) :
    ∃ g' cap w', (Builtin.append_ #[32, 32] ty #[.slice (some ⟨g, 0, none⟩) 0 0, .slice s l c]).run Try.prog w = .ok (.slice (some ⟨g', 0, none⟩) l cap) w' ∧ g ≤ g' ∧ (∃ cur, w'.heap[g']? = some (.cells cur 5 (0, 0)) ∧ l ≤ cur.size ∧ cur.toList.take l = bs.map cell) ∧ w.grownBy w' (some g) := by
  have hglt := (Array.getElem?_eq_some_iff.1 hb).1
  obtain ⟨i0, hi, hz0, hz1, hz2⟩ := info_parts (show (Try.prog.info? 5).map (fun i => (i.zero, i.size, i.bytes)) = some (some (.int .u8 0), 1, 1) by kernel_rfl)
  have hown : w.ownsRow g 5 1 (.slice (some ⟨g, 0, none⟩) 0 0) 0 [] := ⟨rfl, .inr ⟨g, 0, #[], rfl, Nat.le_refl _, hb, Nat.le_refl _, by simp [maxLen], rfl, rfl⟩⟩
  by_cases h0 : l = 0
  · have hbs : bs = [] := by have := hs.1; cases bs <;> simp_all
    subst h0 hbs
    refine ⟨g, 0, w, ?_, Nat.le_refl _, ⟨#[], hb, by simp, by simp⟩, grown_refl _ _⟩
    cases s with
    | none => simp [Builtin.append_, run_underlying Try.underlying32, sizeOf, typeInfo, hi, Builtin.lenOf, Builtin.firstCells, storeCells]
    | some ad =>
      have hf := run_firstCells_some (P := Try.prog) w i0.size 0 ad 0 c [] (by simp) (by simp)
      simp [Builtin.append_, run_underlying Try.underlying32, sizeOf, typeInfo, hi, Builtin.lenOf, storeCells, hf]
  · rcases hs.2 with h | ⟨b, p, rfl, hr⟩
    · exact absurd h h0
    · obtain ⟨v', w', hrun, hown', hgr, hnil⟩ := run_append_own (P := Try.prog) w g 32 ty 5 i0 (.int .u8 0) 1 1 Try.underlying32 hi hz0 hz1 hz2 rfl (by omega) _ 0 [] hown ⟨b, p, none⟩ l c (bs.map cell)
        (by simpa using hs.1) (fun j u hu => by rw [Addr.add_mid]; exact hr j u hu) (one_cells _) (by unfold maxLen; omega) (by omega) (by omega)
      have hown2 : w'.ownsRow g 5 1 v' l (bs.map cell) := by simpa using hown'
      rcases hown2.2 with ⟨hn, h2⟩ | ⟨g', cap, cur, rfl, hgg, hcell, hle, _, hsz, htk⟩
      · exact absurd h2 h0
      · exact ⟨g', cap, w', hrun, hgg, ⟨cur, hcell, by omega, by simpa using htk⟩, by simpa [Value.ownBlock] using hgr⟩
theorem wpList_bytes {ops : Array Oper} {rest : List Oper} {o : Oper} {a : Act} {Q : Exit → Act → World → Prop} {w : World} (hg : o.guard = none) (x y : Operand)
    (hop : o.op = Op.call { callee := Callee.builtin Builtin.append, args := #[x, y], argTypes := #[32, 32] })
    (g : Nat) (hb : w.heap[g]? = some (.cells #[] 5 (0, 0))) (hx : a.eval x = .slice (some ⟨g, 0, none⟩) 0 0)
    (s : Option Addr) (l c : Nat) (bs : List UInt8) (hy : a.eval y = .slice s l c) (hs : Src w s l bs) (hl : l ≤ 1000000)
    (hK : ∀ g' cap w', g ≤ g' → (∃ cur, w'.heap[g']? = some (.cells cur 5 (0, 0)) ∧ l ≤ cur.size ∧ cur.toList.take l = bs.map cell) → w.grownBy w' (some g) → wpList Try.prog ops Q rest (a.put o.dst (.slice (some ⟨g', 0, none⟩) l cap)) w') :
    wpList Try.prog ops Q (o :: rest) a w := by
  obtain ⟨g', cap, w', hrun, h1, h2, h3⟩ := run_bytes w g o.type hb s l c bs hs hl
  refine wpList_plain hg fun K hK' => ?_
  have hfin := hK g' cap w' h1 h2 h3
  unfold Oper.wp
  simp [execOp, hop, resolve, invoke, builtin, hx, hy, hrun, Result.andThen]
  exact hK' _ _ hfin

/-- append([]byte{}, b...) as one step of a region that draws. -/
theorem step_bytes {ops : Array Oper} {o : Oper} {a : Act} {w : World} {K : Act → World → Prop} {Q : Exit → Act → World → Prop} {E : Prop}
    (hg : o.guard = none) (x y : Operand) (hop : o.op = Op.call { callee := Callee.builtin Builtin.append, args := #[x, y], argTypes := #[32, 32] })
    (g : Nat) (hb : w.heap[g]? = some (.cells #[] 5 (0, 0))) (hx : a.eval x = .slice (some ⟨g, 0, none⟩) 0 0)
    (s : Option Addr) (l c : Nat) (bs : List UInt8) (hy : a.eval y = .slice s l c) (hs : Src w s l bs) (hl : l ≤ 1000000)
    (hK : ∀ g' cap w', g ≤ g' → (∃ cur, w'.heap[g']? = some (.cells cur 5 (0, 0)) ∧ l ≤ cur.size ∧ cur.toList.take l = bs.map cell) → w.grownBy w' (some g) → K (a.put o.dst (.slice (some ⟨g', 0, none⟩) l cap)) w') :
    if Region.wanted o (yielded ops a.tmps) = true then Oper.wp Try.prog o a w K Q else E := by
  have hw : Region.wanted o (yielded ops a.tmps) = true := by simp [Region.wanted, hg]
  rw [if_pos hw]
  obtain ⟨g', cap, w', hrun, h1, h2, h3⟩ := run_bytes w g o.type hb s l c bs hs hl
  have hfin := hK g' cap w' h1 h2 h3
  unfold Oper.wp
  simp [execOp, hop, resolve, invoke, builtin, hx, hy, hrun, Result.andThen]
  exact hfin

end Go.Proofs.Ytlaniifbfgcfaaa
