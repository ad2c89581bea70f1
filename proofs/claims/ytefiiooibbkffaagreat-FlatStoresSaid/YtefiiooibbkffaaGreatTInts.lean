/- Slices of values that are numbers alone, by their numbers. Over any program. -/
import Derived.Test.YtefiiooibbkffaaGreatTFlat
namespace Go.Proofs.YtefiiooibbkffaaGreat
open Go.ChangeShapes Go.WideShapes Go.ChangeAt Go.RowKit
set_option linter.unusedVariables false

theorem wf_ok64 {x : Int} (h : (Lit.int .i64 x).wf = true) : okI x := by
  simp [Lit.wf, IntKind.min, IntKind.max, IntKind.signed, IntKind.bits] at h
  exact ⟨by omega, by omega⟩

/-- Rows of n numbers each. -/
structure IntRows (w : World) (s : Option Addr) (l n : Nat) (zss : List (List Int)) : Prop where
  len : zss.length = l
  each : ∀ zs, zs ∈ zss → zs.length = n ∧ ∀ z, z ∈ zs → okI z
  cells : l = 0 ∨ ∃ g o, s = some ⟨g, o, none⟩ ∧ ∀ (i : Nat) zs, zss[i]? = some zs → ∀ (j : Nat) z, zs[j]? = some z → w.cell? ⟨g, o + i * n + j, none⟩ = some (.int .i64 z)

section
variable {H : Type} {enc : TypeId × Value → H} {P : Program} {w : World} {base : Nat} {spare : Nat → Bool} {held : Bool}
theorem ck_ints {n : Nat} {cs : List Value} (hl : cs.length = n) (h : ∀ (i : Nat) k v, (List.replicate n (CK.int .i64))[i]? = some k → cs[i]? = some v → CKis enc P w base spare held k v) :
    ∃ zs : List Int, zs.length = n ∧ cs = zs.map (Value.int .i64) ∧ ∀ z, z ∈ zs → okI z := by
  induction cs generalizing n with
  | nil => simp at hl; subst hl; exact ⟨[], rfl, rfl, by simp⟩
  | cons c cs ih =>
    obtain ⟨m, rfl⟩ : ∃ m, n = m + 1 := ⟨cs.length, by simp at hl; omega⟩
    obtain ⟨zs, h1, h2, h3⟩ := ih (n := m) (by simp at hl; omega) fun i k v hk hv => h (i + 1) k v (by rw [List.replicate_succ, List.getElem?_cons_succ]; exact hk) (by rw [List.getElem?_cons_succ]; exact hv)
    obtain ⟨z, rfl, hw⟩ := h 0 (CK.int .i64) c (by rw [List.replicate_succ]; rfl) rfl
    exact ⟨z :: zs, by simp [h1], by rw [h2]; rfl, fun y hy => by
      rcases List.mem_cons.1 hy with rfl | hy
      · exact wf_ok64 hw
      · exact h3 y hy⟩

theorem introws_of_trod {t e : TypeId} {d n : Nat} {fuel : Nat} {s : Option Addr} {l c : Nat} {x : DataW H × List MemPlace} (ht : P.underlying t = some (.slice e)) (hk : ckOf P d e = some (List.replicate n (.int .i64))) (hn : P.cellsOf e = n) (h0 : 0 < n)
    (h : DataW.trod enc P w base spare held fuel t [.slice s l c] = some x) : ∃ zss, IntRows w s l n zss := by
  obtain ⟨css, hr, hck⟩ := rows_of_trod ht hk (by rw [List.length_replicate]; exact hn) (by rw [List.length_replicate]; exact h0) h
  rw [List.length_replicate] at hr
  obtain ⟨zss, hl, hz⟩ := list_all l (fun i (zs : List Int) => zs.length = n ∧ css[i]? = some (zs.map (Value.int .i64)) ∧ ∀ z, z ∈ zs → okI z) fun i hi => by
    have hg : css[i]? = some (css[i]'(by rw [hr.len]; exact hi)) := List.getElem?_eq_getElem (by rw [hr.len]; exact hi)
    have hm := List.mem_of_getElem? hg
    obtain ⟨zs, h1, h2, h3⟩ := ck_ints (hr.each _ hm) (hck _ hm)
    exact ⟨zs, h1, by rw [hg, h2], h3⟩
  refine ⟨zss, ⟨hl, fun zs hzs => ?_, ?_⟩⟩
  · obtain ⟨i, hi⟩ := List.getElem?_of_mem hzs
    exact ⟨(hz i zs hi).1, (hz i zs hi).2.2⟩
  · rcases hr.cells with h1 | ⟨g, o, hs, hc⟩
    · exact .inl h1
    · refine .inr ⟨g, o, hs, fun i zs hi j z hj => hc i _ (hz i zs hi).2.1 j _ ?_⟩
      rw [List.getElem?_map, hj]
      rfl
/-- One number of a row, in a later world. -/
theorem IntRows.at {wr : World} {s : Option Addr} {l n : Nat} {zss : List (List Int)} (h : IntRows w s l n zss) (g : ∀ b, b < w.heap.size → wr.heap[b]? = w.heap[b]?) {i : Nat} {zs : List Int} (hi : zss[i]? = some zs) :
    ∃ b o, s = some ⟨b, o, none⟩ ∧ ∀ (j : Nat) z, zs[j]? = some z → wr.cell? ⟨b, o + i * n + j, none⟩ = some (.int .i64 z) := by
  have hlt := (List.getElem?_eq_some_iff.1 hi).1
  rcases h.cells with h0 | ⟨b, o, hs, hc⟩
  · have := h.len; omega
  · refine ⟨b, o, hs, fun j z hz => ?_⟩
    have h1 := hc i zs hi j z hz
    exact (World.cell?_of_block (a := ⟨b, o + i * n + j, none⟩) (g b (World.block_lt_of_cell? w _ h1))).trans h1
end
end Go.Proofs.YtefiiooibbkffaaGreat
