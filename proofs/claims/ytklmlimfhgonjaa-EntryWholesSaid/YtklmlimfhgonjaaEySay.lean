/- What the arguments of layer 15's laws read as: entries, lists of them, pairs of numbers. -/
import Derived.Test.YtklmlimfhgonjaaEyMem
import Derived.Test.YtklmlimfhgonjaaOpen
import Derived.Test.YtklmlimfhgonjaaTFlat
import Derived.Below
namespace Go.Proofs.Ytklmlimfhgonjaa
open Go.ChangeShapes Go.WideShapes Go.ChangeAt Go.RowKit
set_option linter.unusedVariables false

theorem okI_wf {x : Int} (h : (Lit.int .i64 x).wf = true) : okI x := wf_ok64 h
theorem okU_wf {x : Int} (h : (Lit.int .u64 x).wf = true) : okU x := by
  simp [Lit.wf, IntKind.min, IntKind.max, IntKind.signed, IntKind.bits] at h
  exact ⟨by omega, by omega⟩
theorem below_of {w w' : World} (g : w.grownBy w' none) : Below w.heap.size w w' := ⟨g.os, g.tape, g.output, g.size, fun k hk => g.block k hk (by simp)⟩
theorem said {f : FuncId} {args : Array Value} {w : World} (h : Calls Try.prog f args w fun e w' => e = .returned (.bool true) ∧ w.grownBy w' none) : Calls Try.prog f args w fun e w' => e = .returned (.bool true) ∧ Below w.heap.size w w' := h.mono fun _ _ k => ⟨k.1, below_of k.2⟩
/-- A list of entries that came in. -/
def EntsC (w : World) (s : Option Addr) (l c : Nat) (L : List En) : Prop := L.length = l ∧ (ERow w (.slice s l c) L ∧ l ≤ c) ∧ ∀ x, x ∈ L → OkE x
theorem ents_cap {H : Type} {enc : TypeId × Value → H} {P : Program} {w : World} {base : Nat} {spare : Nat → Bool} {held : Bool} {t e : TypeId} {fuel : Nat} {s : Option Addr} {l c : Nat} {x : DataW H × List MemPlace} (ht : P.underlying t = some (.slice e))
    (h : DataW.trod enc P w base spare held fuel t [.slice s l c] = some x) : l ≤ c ∧ (s = none → l = 0 ∧ c = 0) := by
  rcases DataW.trod_slice ht h with ⟨hcs, _⟩ | ⟨a, len, cap, elems, rest, m, _, hcs, _, _, hlc, _⟩
  · simp at hcs
    obtain ⟨rfl, rfl, rfl⟩ := hcs
    exact ⟨Nat.le_refl _, fun _ => ⟨rfl, rfl⟩⟩
  · simp at hcs
    obtain ⟨rfl, rfl, rfl⟩ := hcs
    exact ⟨hlc, fun h => by cases h⟩
set_option maxRecDepth 100000 in
theorem ens_of_trod {H : Type} {enc : TypeId × Value → H} {w : World} {base : Nat} {spare : Nat → Bool} {held : Bool} {fuel : Nat} {s : Option Addr} {l c : Nat} {x : DataW H × List MemPlace}
    (h : DataW.trod enc Try.prog w base spare held fuel 22 [.slice s l c] = some x) : ∃ L, EntsC w s l c L := by
  obtain ⟨hcap, hnil⟩ := ents_cap Try.underlying22 h
  obtain ⟨css, hr, hck⟩ := rows_of_trod (d := 5) (ks := [.int .i64, .int .i64, .int .i64, .int .i64, .bool, .int .i64, .int .i64, .int .i64, .int .i64, .bool]) Try.underlying22 (by kernel_rfl) (by kernel_rfl) (by simp) h
  have key : ∀ cs, cs ∈ css → ∃ A : En, enCells A = cs ∧ OkE A := by
    intro cs hcs
    have hl := hr.each cs hcs
    have hk := hck cs hcs
    match cs, hl with
    | [a, b, e, f, g, i, j, k, m, n], _ =>
      obtain ⟨v0, rfl, h0⟩ := hk 0 _ _ rfl rfl
      obtain ⟨v1, rfl, h1⟩ := hk 1 _ _ rfl rfl
      obtain ⟨v2, rfl, h2⟩ := hk 2 _ _ rfl rfl
      obtain ⟨v3, rfl, h3⟩ := hk 3 _ _ rfl rfl
      obtain ⟨v4, rfl⟩ := hk 4 _ _ rfl rfl
      obtain ⟨v5, rfl, h5⟩ := hk 5 _ _ rfl rfl
      obtain ⟨v6, rfl, h6⟩ := hk 6 _ _ rfl rfl
      obtain ⟨v7, rfl, h7⟩ := hk 7 _ _ rfl rfl
      obtain ⟨v8, rfl, h8⟩ := hk 8 _ _ rfl rfl
      obtain ⟨v9, rfl⟩ := hk 9 _ _ rfl rfl
      exact ⟨⟨v0, v1, v2, v3, v4, v5, v6, v7, v8, v9⟩, rfl, wf_ok64 h5, wf_ok64 h6⟩
  obtain ⟨As, hl, hAs⟩ := list_all l (fun i (A : En) => css[i]? = some (enCells A) ∧ OkE A) fun i hi => by
    have hg : css[i]? = some (css[i]'(by rw [hr.len]; exact hi)) := List.getElem?_eq_getElem (by rw [hr.len]; exact hi)
    obtain ⟨A, h1, h2⟩ := key _ (List.mem_of_getElem? hg)
    exact ⟨A, by rw [hg, h1], h2⟩
  refine ⟨As, hl, ⟨?_, hcap⟩, fun A hA => ?_⟩
  · subst hl
    rcases Nat.eq_zero_or_pos As.length with h0 | h0
    · have hn := List.length_eq_zero_iff.1 h0
      subst hn
      cases s with
      | none =>
        obtain ⟨-, rfl⟩ := hnil rfl
        exact .inl (RowAt.nil _ _)
      | some a => exact .inr ⟨rfl, a, c, rfl⟩
    · rcases hr.cells with h1 | ⟨g, o, hs, hc⟩
      · omega
      · subst hs
        have hcell : ∀ (i : Nat) A, As[i]? = some A → ∀ (j : Nat) v, (enCells A)[j]? = some v → w.cell? ⟨g, o + i * 10 + j, none⟩ = some v := fun i A hi j v hv => hc i _ (hAs i A hi).1 j v hv
        obtain ⟨A0, hA0⟩ : ∃ A, As[0]? = some A := ⟨_, List.getElem?_eq_getElem h0⟩
        refine .inl ⟨by rw [flat_len enCells 10 en_len], .inr ⟨g, o, c, rfl, World.block_lt_of_cell? w _ (hcell 0 A0 hA0 0 _ rfl), fun q u hu => ?_⟩⟩
        have hq := (List.getElem?_eq_some_iff.1 hu).1
        rw [flat_len enCells 10 en_len] at hq
        obtain ⟨A, hA⟩ : ∃ A, As[q / 10]? = some A := ⟨_, List.getElem?_eq_getElem (by omega)⟩
        obtain ⟨v, hv⟩ : ∃ v, (enCells A)[q % 10]? = some v := ⟨_, List.getElem?_eq_getElem (by rw [en_len]; omega)⟩
        have h1 := flat_at enCells 10 en_len As (q / 10) A hA (q % 10) v hv
        rw [show q / 10 * 10 + q % 10 = q by omega, hu] at h1
        cases h1
        have h2 := hcell _ A hA _ _ hv
        rw [show o + q / 10 * 10 + q % 10 = o + q by omega] at h2
        exact h2
  · obtain ⟨i, hi⟩ := List.getElem?_of_mem hA
    exact (hAs i A hi).2
set_option maxRecDepth 100000 in
theorem en_of {H : Type} {enc : TypeId × Value → H} {w w1 : World} {base b0 : Nat} {spare : Nat → Bool} {held : Bool} {r : Reach} {v : Value} {d : DataW H} {p : List MemPlace}
    (h : DataW.Trod enc Try.prog w base spare held 25 v d p) (hv : Value.okWide Try.prog w1 r b0 25 v) :
    ∃ A : En, v = .agg #[.int .i64 A.s, .int .i64 A.e, .int .i64 A.f, .int .i64 A.o, .bool A.sh, .int .i64 A.p, .int .i64 A.m, .int .i64 A.i, .int .i64 A.a, .bool A.wi] ∧ OkE A := by
  obtain ⟨cs, rfl, _⟩ := okWide_struct Try.underlying25 hv
  obtain ⟨fuel, hf⟩ := h
  obtain ⟨hl, hck⟩ := ck_of_trod 6 25 [.int .i64, .int .i64, .int .i64, .int .i64, .bool, .int .i64, .int .i64, .int .i64, .int .i64, .bool] _ fuel _ (by kernel_rfl) hf
  obtain ⟨l⟩ := cs
  simp only [Value.cells] at hl hck
  match l, hl with
  | [a, b, e, f, g, i, j, k, m, n], _ =>
    obtain ⟨v0, rfl, h0⟩ := hck 0 _ _ rfl rfl
    obtain ⟨v1, rfl, h1⟩ := hck 1 _ _ rfl rfl
    obtain ⟨v2, rfl, h2⟩ := hck 2 _ _ rfl rfl
    obtain ⟨v3, rfl, h3⟩ := hck 3 _ _ rfl rfl
    obtain ⟨v4, rfl⟩ := hck 4 _ _ rfl rfl
    obtain ⟨v5, rfl, h5⟩ := hck 5 _ _ rfl rfl
    obtain ⟨v6, rfl, h6⟩ := hck 6 _ _ rfl rfl
    obtain ⟨v7, rfl, h7⟩ := hck 7 _ _ rfl rfl
    obtain ⟨v8, rfl, h8⟩ := hck 8 _ _ rfl rfl
    obtain ⟨v9, rfl⟩ := hck 9 _ _ rfl rfl
    exact ⟨⟨v0, v1, v2, v3, v4, v5, v6, v7, v8, v9⟩, rfl, wf_ok64 h5, wf_ok64 h6⟩
theorem len2 {α : Type} {l : List α} (h : l.length = 2) : ∃ a b, l = [a, b] := by
  match l, h with
  | [a, b], _ => exact ⟨a, b, rfl⟩
theorem two_of {H : Type} {enc : TypeId × Value → H} {w w1 : World} {base b0 : Nat} {spare : Nat → Bool} {held : Bool} {r : Reach} {v : Value} {d : DataW H} {p : List MemPlace}
    (h : DataW.Trod enc Try.prog w base spare held 28 v d p) (hv : Value.okWide Try.prog w1 r b0 28 v) : ∃ x y : Int, v = .agg #[.int .i64 x, .int .i64 y] := by
  simp only [Value.okWide, Try.underlying28] at hv
  obtain ⟨cs, rfl, hsz, _⟩ := hv
  have hC : Try.prog.cellsOf 3 = 1 := by kernel_rfl
  have hC2 : Try.prog.cellsOf 28 = 2 := by kernel_rfl
  obtain ⟨fuel, hf⟩ := h
  obtain ⟨xs, m, _, _, hlen, hxs, hel⟩ := DataW.trod_array Try.underlying28 hf
  rw [hC2] at hsz
  simp only [Value.cells] at hel
  have h0 := hel 0 (by omega)
  have h1 := hel 1 (by omega)
  rw [hC] at h0 h1
  have e0 : xs[0]? = some (xs[0]'(by omega)) := List.getElem?_eq_getElem (by omega)
  have e1 : xs[1]? = some (xs[1]'(by omega)) := List.getElem?_eq_getElem (by omega)
  rw [e0] at h0
  rw [e1] at h1
  obtain ⟨l⟩ := cs
  obtain ⟨c0, c1, rfl⟩ := len2 (l := l) (by simpa using hsz)
  obtain ⟨a, ha, _⟩ := int_of_trod Try.underlying3 (v := c0) (by simpa using h0)
  obtain ⟨b, hb, _⟩ := int_of_trod Try.underlying3 (v := c1) (by simpa using h1)
  exact ⟨a, b, by rw [ha, hb]⟩
end Go.Proofs.Ytklmlimfhgonjaa
