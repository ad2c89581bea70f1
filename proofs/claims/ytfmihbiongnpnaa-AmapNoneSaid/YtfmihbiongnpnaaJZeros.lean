/- 'append(l, make([]int, k)...)' onto a row of one's own. Over no program. -/
import Derived.Test.YtfmihbiongnpnaaJRef3
namespace Go.Proofs.Ytfmihbiongnpnaa
open Go.ChangeShapes Go.WideShapes Go.ChangeAt Go.RowKit Go.Deep
set_option linter.unusedVariables false

theorem zeroCells_ints (k : Nat) : (Builtin.zeroCells (Value.int .i64 0).cells k).toList = List.replicate k (Value.int .i64 0) := by
  unfold Builtin.zeroCells
  apply List.ext_getElem?
  intro o
  rw [Array.getElem?_toList, Array.getElem?_map, List.getElem?_replicate]
  have hs : (Value.int .i64 0).cells.size = 1 := rfl
  rw [hs, Nat.mul_one]
  by_cases ho : o < k
  · rw [Array.getElem?_range, if_pos ho, if_pos ho, Option.map_some, Nat.mod_one]
    rfl
  · rw [if_neg ho, Array.getElem?_eq_none (by simpa using Nat.le_of_not_lt ho)]
    rfl

section
variable {P : Program} (w : World)
theorem run_append_zeros (base : Nat) (t tn ty e : TypeId) (i : TypeInfo) (kn : IntKind) (ht : P.underlying t = some (.slice e)) (htn : P.underlying tn = some (.int kn)) (hi : P.info? e = some i) (hz : i.zero = some (.int .i64 0))
    (hsize : i.size = 1) (hby : i.bytes = 8) (g n cap : Nat) (xs : List Value) (hown : w.ownsRow base e 1 (.slice (some ⟨g, 0, none⟩) n cap) n xs) (k : Nat) (hk : k ≤ 1000000) (hn : n ≤ 1000000) (hbase : base ≤ w.heap.size) :
    ∃ g' cap' w', (Builtin.append_ #[t, tn] ty #[.slice (some ⟨g, 0, none⟩) n cap, .int .i64 k]).run P w = .ok (.slice (some ⟨g', 0, none⟩) (n + k) cap') w' ∧
      w'.ownsRow base e 1 (.slice (some ⟨g', 0, none⟩) (n + k) cap') (n + k) (xs ++ List.replicate k (.int .i64 0)) ∧ w.grownBy w' (some g) := by
  have hlen : (xs ++ List.replicate k (Value.int .i64 0)).length = (n + k) * 1 := by rw [List.length_append, hown.1, List.length_replicate]; omega
  have hw : IntKind.i64.wrap (k : Int) = k := by rw [IntKind.wrap_i64]; omega
  have hneg : ¬ ((k : Int) < 0) := by omega
  rcases hown.2 with ⟨h0, _⟩ | ⟨g', cap', cur, hsl, hbg, hg, hnc, hcm, hcs, htake⟩
  · cases h0
  · cases hsl
    have h48i : ¬ (281474976710656 < (k : Int) * 8) := by omega
    by_cases hroom : n + k ≤ cap
    · by_cases hk0 : k = 0
      · subst hk0
        refine ⟨g, cap, w, ?_, ?_, ⟨rfl, rfl, rfl, Nat.le_refl _, fun _ _ _ => rfl⟩⟩
        · simp [Builtin.append_, run_underlying ht, run_underlying htn, sizeOf, typeInfo, hi, hby, asInt, asIntOf, IntKind.wrap_i64, hnc, storeCells]
        · rw [List.replicate_zero, List.append_nil]
          exact hown
      · have hst := run_storeCells_at P g n e (List.replicate k (Value.int .i64 0)) 0 cur w hg (by rw [List.length_replicate]; omega) (by intro v hv; rw [(List.mem_replicate.1 hv).2]; rfl)
        have hzc : Builtin.zeroCells (Value.int .i64 0).cells k = (List.replicate k (Value.int .i64 0)).toArray := by rw [← zeroCells_ints k]
        have hst3 : Sem.run P (storeCells ⟨g, n, none⟩ (List.replicate k (Value.int .i64 0))) w = .ok () (w.setRow g (List.take n cur.toList ++ (List.replicate k (Value.int .i64 0) ++ List.drop (n + k) cur.toList)).toArray) := by simpa using hst
        clear hst
        refine ⟨g, cap, w.setRow g (cur.toList.take n ++ List.replicate k (Value.int .i64 0) ++ cur.toList.drop (n + (List.replicate k (Value.int .i64 0)).length)).toArray, ?_, ⟨hlen, .inr ⟨g, cap, _, rfl, hbg, setRow_heap w g cur _ e _ hg, hroom, hcm, ?_, ?_⟩⟩, ⟨rfl, rfl, rfl, by simp, fun b _ hb => setRow_other w g b _ (fun e => hb (by simp [e]))⟩⟩
        · simp [Builtin.append_, run_underlying ht, run_underlying htn, sizeOf, typeInfo, zeroValue, hi, hz, hsize, hby, asInt, asIntOf, hw, hneg, h48i, hk0, hroom, hzc, Addr.add_lit, hst3, Result.andThen]
        · simp only [List.size_toArray, List.length_append, List.length_take, List.length_drop, Array.length_toList, List.length_replicate]
          omega
        · rw [Nat.mul_one] at htake ⊢
          rw [htake, List.append_assoc, ← List.append_assoc]
          have : n + k = (xs ++ List.replicate k (Value.int .i64 0)).length := by rw [hlen, Nat.mul_one]
          rw [this]
          exact List.take_left
    · have hzc : Builtin.zeroCells (Value.int .i64 0).cells k = (List.replicate k (Value.int .i64 0)).toArray := by rw [← zeroCells_ints k]
      have holds : ∀ j u, xs[j]? = some u → w.drew.cell? ((⟨g, 0, none⟩ : Addr).add j) = some u := hown.cells (g := g) rfl
      have hold := run_firstCells_some (P := P) w.drew 1 n ⟨g, 0, none⟩ n cap xs hown.1 holds
      have hfit : Builtin.nextslicecap (n + k) cap * i.bytes ≤ 281474976710656 := by
        rw [hby]
        exact growslice_fits (by omega) (by omega)
      have hr := Lib.run_append_grow_zeros (P := P) w t tn ty e i (.int .i64 0) .i64 kn ht htn hi hz (some ⟨g, 0, none⟩) n cap xs (by rw [hsize]; exact hold) k (by omega) (by omega) (by omega) (by omega) (by rw [hby]; omega) hfit
      rw [hzc] at hr
      refine ⟨w.heap.size, _, _, hr, ⟨hlen, .inr ⟨w.heap.size, _, _, rfl, hbase, heap_alloc_new w.drew _, grownCap_ge w (n + k) cap e, grownCap_le_maxLen w (n + k) cap e (by unfold maxLen; omega), ?_, ?_⟩⟩, ⟨rfl, rfl, rfl, by simp, fun b hb _ => heap_alloc_old w.drew _ hb⟩⟩
      · have hge := grownCap_ge w (n + k) cap e
        have h1 : (Value.int .i64 0).cells.size = 1 := rfl
        have h2 := hown.1
        simp only [Array.size_append, List.size_toArray, size_zeroCells, h1, List.length_replicate]
        omega
      · simp only [Array.toList_append, List.append_assoc]
        rw [← List.append_assoc, ← hlen]
        exact List.take_left
end
end Go.Proofs.Ytfmihbiongnpnaa
