/- Layer 13: acts that came in. -/
import Derived.Test.YtfmihbiongnpnaaAOk
namespace Go.Proofs.Ytfmihbiongnpnaa
open Go.ChangeShapes Go.WideShapes Go.ChangeAt Go.RowKit Go.Deep
set_option linter.unusedVariables false

structure AActV where
  k : Int
  id : Int
  a : Int
  b : Int
def aactCells (A : AActV) : List Value := [.int .i64 A.k, .int .i64 A.id, .int .i64 A.a, .int .i64 A.b]
theorem aact_len (A : AActV) : (aactCells A).length = 4 := rfl
structure AActV.Ok (A : AActV) : Prop where
  k : okI A.k
  id : okI A.id
  a : okI A.a
  b : okI A.b
structure AActsAre (w : World) (s : Option Addr) (l : Nat) (As : List AActV) : Prop where
  len : As.length = l
  cells : l = 0 ∨ ∃ g o, s = some ⟨g, o, none⟩ ∧ ∀ (i : Nat) A, As[i]? = some A → ∀ (j : Nat) u, (aactCells A)[j]? = some u → w.cell? ⟨g, o + i * 4 + j, none⟩ = some u
  ok : ∀ A, A ∈ As → A.Ok
theorem AActsAre.at {w wr : World} {s : Option Addr} {l : Nat} {As : List AActV} (h : AActsAre w s l As) (g : w.grownBy wr none) {j : Nat} {A : AActV} (hA : As[j]? = some A) :
    ∃ b o, s = some ⟨b, o, none⟩ ∧ wr.cell? ⟨b, o + j * 4, none⟩ = some (.int .i64 A.k) ∧ wr.cell? ⟨b, o + j * 4 + 1, none⟩ = some (.int .i64 A.id) ∧ wr.cell? ⟨b, o + j * 4 + 2, none⟩ = some (.int .i64 A.a) ∧ wr.cell? ⟨b, o + j * 4 + 3, none⟩ = some (.int .i64 A.b) := by
  have hj := (List.getElem?_eq_some_iff.1 hA).1
  rcases h.cells with h0 | ⟨b, o, hs, hc⟩
  · have := h.len; omega
  · have key : ∀ q u, (aactCells A)[q]? = some u → wr.cell? ⟨b, o + j * 4 + q, none⟩ = some u := fun q u hq => by
      have h1 := hc j A hA q u hq
      exact (World.cell?_of_block (a := ⟨b, o + j * 4 + q, none⟩) (g.block b (World.block_lt_of_cell? w _ h1) (by simp))).trans h1
    exact ⟨b, o, hs, key 0 _ rfl, key 1 _ rfl, key 2 _ rfl, key 3 _ rfl⟩

/-- A round's box. -/
def AActB (w : World) (y : Nat) (A : AActV) : Prop := w.heap[y]? = some (.cells #[.int .i64 A.k, .int .i64 A.id, .int .i64 A.a, .int .i64 A.b] 25 (0, 0))
section
variable {w w' : World} {y : Nat} {A : AActV}
theorem AActB.at (h : AActB w y A) : w.cell? ⟨y, 0, none⟩ = some (.int .i64 A.k) ∧ w.cell? ⟨y, 1, none⟩ = some (.int .i64 A.id) ∧ w.cell? ⟨y, 2, none⟩ = some (.int .i64 A.a) ∧ w.cell? ⟨y, 3, none⟩ = some (.int .i64 A.b) :=
  ⟨by rw [cell_of_row _ _ _ _ _ _ h]; rfl, by rw [cell_of_row _ _ _ _ _ _ h]; rfl, by rw [cell_of_row _ _ _ _ _ _ h]; rfl, by rw [cell_of_row _ _ _ _ _ _ h]; rfl⟩
theorem AActB.lt (h : AActB w y A) : y < w.heap.size := (Array.getElem?_eq_some_iff.1 h).1
theorem AActB.grow (h : AActB w y A) (g : w.grownBy w' none) : AActB w' y A := (g.block _ h.lt (by simp)).trans h
theorem AActB.turn {O : List Nat} (h : AActB w y A) (g : Turn O w w') (ho : y ∉ O) : AActB w' y A := (g.block _ h.lt ho).trans h
theorem AActB.new (w : World) (A : AActV) : AActB (w.alloc (.cells #[.int .i64 A.k, .int .i64 A.id, .int .i64 A.a, .int .i64 A.b] 25 (0, 0))) w.heap.size A := heap_alloc_new w _
end

set_option maxRecDepth 100000 in
theorem aacts_of_trod {H : Type} {enc : TypeId × Value → H} {w : World} {base : Nat} {spare : Nat → Bool} {held : Bool} {fuel : Nat} {s : Option Addr} {l c : Nat} {x : DataW H × List MemPlace}
    (h : DataW.trod enc Try.prog w base spare held fuel 22 [.slice s l c] = some x) : ∃ As, AActsAre w s l As := by
  obtain ⟨css, hr, hck⟩ := rows_of_trod (d := 5) (ks := [.int .i64, .int .i64, .int .i64, .int .i64]) Try.underlying22 (by kernel_rfl) (by kernel_rfl) (by simp) h
  have key : ∀ cs, cs ∈ css → ∃ A : AActV, aactCells A = cs ∧ A.Ok := by
    intro cs hcs
    have hl := hr.each cs hcs
    have hk := hck cs hcs
    match cs, hl with
    | [a, b, e, f], _ =>
      obtain ⟨lo, rfl, h0⟩ := hk 0 _ _ rfl rfl
      obtain ⟨hi, rfl, h1⟩ := hk 1 _ _ rfl rfl
      obtain ⟨by_, rfl, h2⟩ := hk 2 _ _ rfl rfl
      obtain ⟨gr, rfl, h3⟩ := hk 3 _ _ rfl rfl
      exact ⟨⟨lo, hi, by_, gr⟩, rfl, wf_ok64 h0, wf_ok64 h1, wf_ok64 h2, wf_ok64 h3⟩
  obtain ⟨As, hl, hAs⟩ := list_all l (fun i (A : AActV) => css[i]? = some (aactCells A) ∧ A.Ok) fun i hi => by
    have hg : css[i]? = some (css[i]'(by rw [hr.len]; exact hi)) := List.getElem?_eq_getElem (by rw [hr.len]; exact hi)
    obtain ⟨A, h1, h2⟩ := key _ (List.mem_of_getElem? hg)
    exact ⟨A, by rw [hg, h1], h2⟩
  refine ⟨As, hl, ?_, fun A hA => ?_⟩
  · rcases hr.cells with h1 | ⟨g, o, hs, hc⟩
    · exact .inl h1
    · exact .inr ⟨g, o, hs, fun i A hi j u hu => hc i _ (hAs i A hi).1 j u hu⟩
  · obtain ⟨i, hi⟩ := List.getElem?_of_mem hA
    exact (hAs i A hi).2
set_option maxRecDepth 100000 in
theorem aact_of {H : Type} {enc : TypeId × Value → H} {w w1 : World} {base b0 : Nat} {spare : Nat → Bool} {held : Bool} {r : Reach} {v : Value} {d : DataW H} {p : List MemPlace}
    (h : DataW.Trod enc Try.prog w base spare held 25 v d p) (hv : Value.okWide Try.prog w1 r b0 25 v) :
    ∃ A : AActV, v = .agg #[.int .i64 A.k, .int .i64 A.id, .int .i64 A.a, .int .i64 A.b] ∧ A.Ok := by
  obtain ⟨cs, rfl, _⟩ := okWide_struct Try.underlying25 hv
  obtain ⟨fuel, hf⟩ := h
  obtain ⟨hl, hck⟩ := ck_of_trod 4 25 [.int .i64, .int .i64, .int .i64, .int .i64] _ fuel _ (by kernel_rfl) hf
  obtain ⟨l⟩ := cs
  simp only [Value.cells] at hl hck
  match l, hl with
  | [a, b, e, f], _ =>
    obtain ⟨lo, rfl, h0⟩ := hck 0 _ _ rfl rfl
    obtain ⟨hi, rfl, h1⟩ := hck 1 _ _ rfl rfl
    obtain ⟨by_, rfl, h2⟩ := hck 2 _ _ rfl rfl
    obtain ⟨gr, rfl, h3⟩ := hck 3 _ _ rfl rfl
    exact ⟨⟨lo, hi, by_, gr⟩, rfl, wf_ok64 h0, wf_ok64 h1, wf_ok64 h2, wf_ok64 h3⟩
end Go.Proofs.Ytfmihbiongnpnaa
