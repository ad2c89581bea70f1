/- FilePages' parameter: a slice of pairs of numbers. -/
import Derived.Test.YtlaniifbfgcfaaaICuts
namespace Go.Proofs.Ytlaniifbfgcfaaa
open Go.ChangeShapes Go.WideShapes Go.ChangeAt Go.RowKit Go.Deep
open Extern.Stop (cell)
set_option linter.unusedVariables false

structure PairsU (w : World) (s : Option Addr) (l : Nat) (L : List (Int × Int)) : Prop where
  len : L.length = l
  ok : ∀ x, x ∈ L → okU x.1 ∧ okU x.2
  cells : l = 0 ∨ ∃ g o, s = some ⟨g, o, none⟩ ∧ ∀ (i : Nat) x, L[i]? = some x → w.cell? ⟨g, o + i * 2, none⟩ = some (.int .u64 x.1) ∧ w.cell? ⟨g, o + i * 2 + 1, none⟩ = some (.int .u64 x.2)
theorem PairsU.at {w wr : World} {s : Option Addr} {l : Nat} {L : List (Int × Int)} (h : PairsU w s l L) (g : w.grownBy wr none) {i : Nat} {x : Int × Int} (hi : L[i]? = some x) :
    ∃ b o, s = some ⟨b, o, none⟩ ∧ wr.cell? ⟨b, o + i * 2, none⟩ = some (.int .u64 x.1) ∧ wr.cell? ⟨b, o + i * 2 + 1, none⟩ = some (.int .u64 x.2) := by
  have hlt := (List.getElem?_eq_some_iff.1 hi).1
  rcases h.cells with h0 | ⟨b, o, hs, hc⟩
  · have := h.len; omega
  · obtain ⟨c0, c1⟩ := hc i x hi
    exact ⟨b, o, hs, g.cell c0 (by simp), g.cell c1 (by simp)⟩

section
variable {H : Type} {enc : TypeId × Value → H} {w : World} {base : Nat} {spare : Nat → Bool} {held : Bool}
theorem wf_okU {x : Int} (h : (Lit.int .u64 x).wf = true) : okU x := by
  simp [Lit.wf, IntKind.min, IntKind.max, IntKind.signed, IntKind.bits] at h
  exact ⟨by omega, by omega⟩
set_option maxRecDepth 100000 in
theorem two_cells {fuel : Nat} {cs : List Value} {x : DataW H × List MemPlace} (h : DataW.trod enc Try.prog w base spare held fuel 57 cs = some x) : ∃ a b : Int, cs = [.int .u64 a, .int .u64 b] ∧ okU a ∧ okU b := by
  have hC : Try.prog.cellsOf 56 = 1 := by kernel_rfl
  have hC2 : Try.prog.cellsOf 57 = 2 := by kernel_rfl
  obtain ⟨xs, m, _, _, hlen, hxs, hel⟩ := DataW.trod_array Try.underlying57 h
  rw [hC2] at hlen
  have h0 := hel 0 (by omega)
  have h1 := hel 1 (by omega)
  rw [hC] at h0 h1
  have e0 : xs[0]? = some (xs[0]'(by omega)) := List.getElem?_eq_getElem (by omega)
  have e1 : xs[1]? = some (xs[1]'(by omega)) := List.getElem?_eq_getElem (by omega)
  rw [e0] at h0
  rw [e1] at h1
  obtain ⟨c0, c1, rfl⟩ : ∃ c0 c1, cs = [c0, c1] := by
    match cs, hlen with
    | [a, b], _ => exact ⟨a, b, rfl⟩
  · obtain ⟨a, ha, _, oa⟩ := DataW.trod_int Try.underlying56 (show DataW.trod enc Try.prog w base spare held m 56 [c0] = _ by simpa using h0)
    obtain ⟨b, hb, _, ob⟩ := DataW.trod_int Try.underlying56 (show DataW.trod enc Try.prog w base spare held m 56 [c1] = _ by simpa using h1)
    simp at ha hb
    exact ⟨a, b, by rw [ha, hb], wf_okU oa, wf_okU ob⟩

set_option maxRecDepth 100000 in
theorem pairs_of_trod {fuel : Nat} {s : Option Addr} {l c : Nat} {x : DataW H × List MemPlace} (h : DataW.trod enc Try.prog w base spare held fuel 67 [.slice s l c] = some x) : ∃ L, PairsU w s l L := by
  have hC2 : Try.prog.cellsOf 57 = 2 := by kernel_rfl
  rcases DataW.trod_slice Try.underlying67 h with ⟨hcs, _⟩ | ⟨a, len, cap, elems, rest, m, _, hcs, _, _, _, _, hlen, hel, _⟩
  · simp at hcs
    obtain ⟨rfl, rfl, rfl⟩ := hcs
    exact ⟨[], ⟨rfl, by simp, .inl rfl⟩⟩
  · simp at hcs
    obtain ⟨rfl, rfl, rfl⟩ := hcs
    by_cases hl0 : l = 0
    · subst hl0
      exact ⟨[], ⟨rfl, by simp, .inl rfl⟩⟩
    · have key : ∀ i, i < l → ∃ x : Int × Int, okU x.1 ∧ okU x.2 ∧ w.cell? ((a.add (i * 2)).add 0) = some (.int .u64 x.1) ∧ w.cell? ((a.add (i * 2)).add 1) = some (.int .u64 x.2) := by
        intro i hi
        have h1 := hel i hi
        have he : elems[i]? = some (elems[i]'(by omega)) := List.getElem?_eq_getElem (by omega)
        rw [he] at h1
        obtain ⟨cs, hcells, htr⟩ := Option.bind_eq_some_iff.1 h1
        obtain ⟨_, _, hat⟩ := World.cells?_some hcells
        obtain ⟨x, y, rfl, ox, oy⟩ := two_cells htr
        rw [hC2] at hat
        exact ⟨(x, y), ox, oy, hat 0 (by omega), hat 1 (by omega)⟩
      obtain ⟨g, o, spot⟩ := a
      have hspot : spot = none := by
        obtain ⟨x, -, -, h2, -⟩ := key 0 (by omega)
        exact World.cell?_spot (by simpa [Addr.add] using h2)
      subst hspot
      obtain ⟨L, hl, hL⟩ := list_all l (fun i (x : Int × Int) => okU x.1 ∧ okU x.2 ∧ w.cell? ⟨g, o + i * 2, none⟩ = some (.int .u64 x.1) ∧ w.cell? ⟨g, o + i * 2 + 1, none⟩ = some (.int .u64 x.2)) fun i hi => by
        obtain ⟨x, h1, h2, h3, h4⟩ := key i hi
        rw [Addr.add_mid, Addr.add_mid] at h3 h4
        exact ⟨x, h1, h2, h3, h4⟩
      refine ⟨L, hl, fun x hx => ?_, .inr ⟨g, o, rfl, fun i x hi => ⟨(hL i x hi).2.2.1, (hL i x hi).2.2.2⟩⟩⟩
      obtain ⟨i, hi⟩ := List.getElem?_of_mem hx
      exact ⟨(hL i x hi).1, (hL i x hi).2.1⟩
end

/-- A page's first byte. -/
theorem fill_head (b : UInt8) (bs : List UInt8) : (fillOf (b :: bs))[0]? = some b := by
  simp [fillOf]
theorem pageZ_head : pageZ[0]? = some 0 := by unfold pageZ; rw [List.getElem?_replicate]; rfl
/-- Two bytes that the law writes out. -/
theorem two_src (w : World) (x y : Int) (h0 : 0 ≤ x) (h1 : x < 256) (h2 : 0 ≤ y) (h3 : y < 256) : Src (w.alloc (.cells #[.int .u8 x, .int .u8 y] 5 (0, 0))) (some ⟨w.heap.size, 0, none⟩) 2 [b8 x, b8 y] := by
  have h : (w.alloc (.cells #[.int .u8 x, .int .u8 y] 5 (0, 0))).heap[w.heap.size]? = some (.cells (([b8 x, b8 y]).map cell).toArray 5 (0, 0)) := by
    rw [heap_alloc_new w _]
    congr 2
    simp only [List.map_cons, List.map_nil]
    rw [cell_b8 h0 h1, cell_b8 h2 h3]
  exact Src.of_block h
end Go.Proofs.Ytlaniifbfgcfaaa
