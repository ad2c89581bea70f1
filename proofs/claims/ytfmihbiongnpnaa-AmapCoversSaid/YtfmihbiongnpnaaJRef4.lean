/- The document's counts of layer 11: Grow. -/
import Derived.Test.YtfmihbiongnpnaaJZeros
import Derived.Deep.RegionHeld
namespace Go.Proofs.Ytfmihbiongnpnaa
open Go.ChangeShapes Go.WideShapes Go.ChangeAt Go.RowKit Go.Deep
set_option linter.unusedVariables false
set_option linter.unusedSimpArgs false

theorem step_append_run {P : Program} {w : World} {ops : Array Oper} {o : Oper} {a : Act} {K : Act → World → Prop} {Q : Exit → Act → World → Prop} {E : Prop} (hgd : o.guard = none) (s x : Operand) (t tn : TypeId)
    (ho : o.op = .call { callee := .builtin .append, args := #[s, x], argTypes := #[t, tn] }) (vs vx : Value) (hs : a.eval s = vs) (hx : a.eval x = vx)
    (v' : Value) (w' : World) (hr : (Builtin.append_ #[t, tn] o.type #[vs, vx]).run P w = .ok v' w') (h : K (a.put o.dst v') w') : if Region.wanted o (yielded ops a.tmps) = true then Oper.wp P o a w K Q else E := by
  have hw : Region.wanted o (yielded ops a.tmps) = true := by simp [Region.wanted, hgd]
  rw [if_pos hw]
  exact Lib.wp_append_run w s x t tn ho vs vx hs hx v' w' hr h
/-- 'append([]int{}, l...)', run. -/
theorem run_zcopy (w : World) {g c : Nat} {xs : List Int} (h : ZOwn w 0 (.slice (some ⟨g, 0, none⟩) xs.length c) xs) (hl : xs.length ≤ 1000000) :
    ∃ g' c' w', (∀ ty, (Builtin.append_ #[39, 39] ty #[.slice (some ⟨w.heap.size, 0, none⟩) 0 0, .slice (some ⟨g, 0, none⟩) xs.length c]).run Try.prog (w.alloc (.cells #[] 3)) = .ok (.slice (some ⟨g', 0, none⟩) xs.length c') w') ∧
      ZOwn w' w.heap.size (.slice (some ⟨g', 0, none⟩) xs.length c') xs ∧ w.grownBy w' none := by
  obtain ⟨i0, hi, hz0, hz1, hz2⟩ := info_parts info_int11
  have hown : (w.alloc (.cells #[] 3)).ownsRow w.heap.size 3 1 (.slice (some ⟨w.heap.size, 0, none⟩) 0 0) 0 [] :=
    ⟨by simp, .inr ⟨w.heap.size, 0, #[], rfl, Nat.le_refl _, heap_alloc_new w _, Nat.le_refl _, Nat.zero_le _, by simp, by simp⟩⟩
  have ga := World.grownBy_alloc w (.cells #[] 3) none
  have hg := OwnOf.grow h ga
  obtain ⟨v', w', hr, h2, h3, h4, h5⟩ := run_append_own_at (P := Try.prog) (w.alloc (.cells #[] 3)) w.heap.size 39 39 3 i0 (.int .i64 0) 1 8 Try.underlying39 hi hz0 hz1 hz2 rfl (by decide) (.slice (some ⟨w.heap.size, 0, none⟩) 0 0) 0 [] hown ⟨g, 0, none⟩ xs.length c (xs.flatMap zCells) hg.1 (fun j u hu => World.ownsRow.cells hg (g := g) rfl j u hu) (z_ones xs) (by unfold maxLen; omega) (by omega) (by simp)
  rw [Nat.zero_add, List.nil_append] at h2
  have hv : ∃ g' cap, v' = .slice (some ⟨g', 0, none⟩) xs.length cap := by
    rcases h2.2 with ⟨h1, _⟩ | ⟨g', cap, cur, h1, _⟩
    · exact absurd (h4.1 h1).1 (by simp)
    · exact ⟨g', cap, h1⟩
  obtain ⟨g', cap, rfl⟩ := hv
  exact ⟨g', cap, w', fun _ => hr, h2, grown_at ga h3 (Nat.le_refl _)⟩
theorem run_zeros (w : World) {base g c : Nat} {xs : List Int} (h : ZOwn w base (.slice (some ⟨g, 0, none⟩) xs.length c) xs) (hl : xs.length ≤ 1000000) (k : Nat) (hk : k ≤ 1000000) (hbase : base ≤ w.heap.size) :
    ∃ g' c' w', (∀ ty, (Builtin.append_ #[39, 3] ty #[.slice (some ⟨g, 0, none⟩) xs.length c, .int .i64 k]).run Try.prog w = .ok (.slice (some ⟨g', 0, none⟩) (xs.length + k) c') w') ∧
      ZOwn w' base (.slice (some ⟨g', 0, none⟩) (xs.length + k) c') (xs ++ List.replicate k 0) ∧ w.grownBy w' (some g) := by
  obtain ⟨i0, hi, hz0, hz1, hz2⟩ := info_parts info_int11
  obtain ⟨g', c', w', h1, h2, h3⟩ := run_append_zeros (P := Try.prog) w base 39 3 39 3 i0 .i64 Try.underlying39 Try.underlying3 hi hz0 hz1 hz2 g xs.length c (xs.flatMap zCells) h k hk hl hbase
  refine ⟨g', c', w', fun _ => h1, ?_, h3⟩
  unfold ZOwn OwnOf
  rw [List.length_append, List.length_replicate, z_flat, List.map_append, List.map_replicate, ← z_flat]
  exact h2

section
variable {w : World} {q g c : Nat} {L : List Int}
end
end Go.Proofs.Ytfmihbiongnpnaa
