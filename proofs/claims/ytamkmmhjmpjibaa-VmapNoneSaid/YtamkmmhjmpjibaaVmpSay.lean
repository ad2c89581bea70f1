/- Layer 16: what the arguments of the laws read as: acts, lists of them, numbers. -/
import Derived.Test.YtamkmmhjmpjibaaVmpLives
namespace Go.Proofs.Ytamkmmhjmpjibaa
open Go.ChangeShapes Go.WideShapes Go.ChangeAt Go.RowKit
set_option linter.unusedVariables false
set_option linter.unusedSimpArgs false

theorem okI_wf {x : Int} (h : (Lit.int .i64 x).wf = true) : okI x := wf_ok64 h
theorem okU_wf {x : Int} (h : (Lit.int .u64 x).wf = true) : okU x := by
  simp [Lit.wf, IntKind.min, IntKind.max, IntKind.signed, IntKind.bits] at h
  exact ⟨by omega, by omega⟩
theorem below_of {w w' : World} (g : w.grownBy w' none) : Below w.heap.size w w' := ⟨g.os, g.tape, g.output, g.size, fun k hk => g.block k hk (by simp)⟩
theorem said {f : FuncId} {args : Array Value} {w : World} (h : Calls Try.prog f args w fun e w' => e = .returned (.bool true) ∧ w.grownBy w' none) : Calls Try.prog f args w fun e w' => e = .returned (.bool true) ∧ Below w.heap.size w w' := h.mono fun _ _ k => ⟨k.1, below_of k.2⟩
theorem vact_len (A : VAct) : (vactCells A).length = 15 := rfl
structure VActsAre (w : World) (s : Option Addr) (l : Nat) (As : List VAct) : Prop where
  len : As.length = l
  cells : l = 0 ∨ ∃ g o, s = some ⟨g, o, none⟩ ∧ ∀ (i : Nat) A, As[i]? = some A → ∀ (j : Nat) u, (vactCells A)[j]? = some u → w.cell? ⟨g, o + i * 15 + j, none⟩ = some u
  ok : ∀ A, A ∈ As → A.Ok
/-- The cells of an act from a place on. -/
structure VAt (w : World) (b o : Nat) (A : VAct) : Prop where
  c0 : w.cell? ⟨b, o, none⟩ = some (.int .i64 A.k)
  c1 : w.cell? ⟨b, o + 1, none⟩ = some (.int .i64 A.lo)
  c2 : w.cell? ⟨b, o + 2, none⟩ = some (.int .i64 A.n)
  c3 : w.cell? ⟨b, o + 3, none⟩ = some (.int .i64 A.how)
  c4 : w.cell? ⟨b, o + 4, none⟩ = some (.int .i64 A.x.s)
  c5 : w.cell? ⟨b, o + 5, none⟩ = some (.int .i64 A.x.e)
  c6 : w.cell? ⟨b, o + 6, none⟩ = some (.int .i64 A.x.f)
  c7 : w.cell? ⟨b, o + 7, none⟩ = some (.int .i64 A.x.o)
  c8 : w.cell? ⟨b, o + 8, none⟩ = some (.bool A.x.sh)
  c9 : w.cell? ⟨b, o + 9, none⟩ = some (.int .i64 A.x.p)
  c10 : w.cell? ⟨b, o + 10, none⟩ = some (.int .i64 A.x.m)
  c11 : w.cell? ⟨b, o + 11, none⟩ = some (.int .i64 A.x.i)
  c12 : w.cell? ⟨b, o + 12, none⟩ = some (.int .i64 A.x.a)
  c13 : w.cell? ⟨b, o + 13, none⟩ = some (.bool A.x.wi)
  c14 : w.cell? ⟨b, o + 14, none⟩ = some (.bool A.on)
theorem VActsAre.at {w wr : World} {s : Option Addr} {l : Nat} {As : List VAct} (h : VActsAre w s l As) (g : w.grownBy wr none) {j : Nat} {A : VAct} (hA : As[j]? = some A) : ∃ b o, s = some ⟨b, o, none⟩ ∧ VAt wr b (o + j * 15) A := by
  have hj := (List.getElem?_eq_some_iff.1 hA).1
  rcases h.cells with h0 | ⟨b, o, hs, hc⟩
  · have := h.len; omega
  · have key : ∀ q u, (vactCells A)[q]? = some u → wr.cell? ⟨b, o + j * 15 + q, none⟩ = some u := fun q u hq => by
      have h1 := hc j A hA q u hq
      exact (World.cell?_of_block (a := ⟨b, o + j * 15 + q, none⟩) (g.block b (World.block_lt_of_cell? w _ h1) (by simp))).trans h1
    exact ⟨b, o, hs, key 0 _ rfl, key 1 _ rfl, key 2 _ rfl, key 3 _ rfl, key 4 _ rfl, key 5 _ rfl, key 6 _ rfl, key 7 _ rfl, key 8 _ rfl, key 9 _ rfl, key 10 _ rfl, key 11 _ rfl, key 12 _ rfl, key 13 _ rfl, key 14 _ rfl⟩
/-- A round's box. -/
def VBox (w : World) (y : Nat) (A : VAct) : Prop := w.heap[y]? = some (.cells #[.int .i64 A.k, .int .i64 A.lo, .int .i64 A.n, .int .i64 A.how, .int .i64 A.x.s, .int .i64 A.x.e, .int .i64 A.x.f, .int .i64 A.x.o, .bool A.x.sh, .int .i64 A.x.p, .int .i64 A.x.m, .int .i64 A.x.i, .int .i64 A.x.a, .bool A.x.wi, .bool A.on] 33 (0, 0))
theorem VBox.at {w : World} {y : Nat} {A : VAct} (h : VBox w y A) : VAt w y 0 A := by
  constructor <;> (rw [cell_of_row _ _ _ _ _ _ h]; rfl)
theorem VBox.lt {w : World} {y : Nat} {A : VAct} (h : VBox w y A) : y < w.heap.size := (Array.getElem?_eq_some_iff.1 h).1
theorem VBox.grow {w w' : World} {y : Nat} {A : VAct} (h : VBox w y A) (g : w.grownBy w' none) : VBox w' y A := (g.block _ h.lt (by simp)).trans h
theorem VBox.turn {w w' : World} {y : Nat} {A : VAct} {O : List Nat} (h : VBox w y A) (t : Turn O w w') (ho : y ∉ O) : VBox w' y A := (t.block _ h.lt ho).trans h
theorem VBox.new (w : World) (A : VAct) : VBox (w.alloc (.cells #[.int .i64 A.k, .int .i64 A.lo, .int .i64 A.n, .int .i64 A.how, .int .i64 A.x.s, .int .i64 A.x.e, .int .i64 A.x.f, .int .i64 A.x.o, .bool A.x.sh, .int .i64 A.x.p, .int .i64 A.x.m, .int .i64 A.x.i, .int .i64 A.x.a, .bool A.x.wi, .bool A.on] 33 (0, 0))) w.heap.size A := heap_alloc_new w _
set_option maxRecDepth 100000 in
theorem vacts_of_trod {H : Type} {enc : TypeId × Value → H} {w : World} {base : Nat} {spare : Nat → Bool} {held : Bool} {fuel : Nat} {s : Option Addr} {l c : Nat} {x : DataW H × List MemPlace}
    (h : DataW.trod enc Try.prog w base spare held fuel 22 [.slice s l c] = some x) : ∃ As, VActsAre w s l As := by
  obtain ⟨css, hr, hck⟩ := rows_of_trod (d := 6) (ks := [.int .i64, .int .i64, .int .i64, .int .i64, .int .i64, .int .i64, .int .i64, .int .i64, .bool, .int .i64, .int .i64, .int .i64, .int .i64, .bool, .bool]) Try.underlying22 (by kernel_rfl) (by kernel_rfl) (by simp) h
  have key : ∀ cs, cs ∈ css → ∃ A : VAct, vactCells A = cs ∧ A.Ok := by
    intro cs hcs
    have hl := hr.each cs hcs
    have hk := hck cs hcs
    match cs, hl with
    | [a0, a1, a2, a3, a4, a5, a6, a7, a8, a9, a10, a11, a12, a13, a14], _ =>
      obtain ⟨v0, rfl, h0⟩ := hk 0 _ _ rfl rfl
      obtain ⟨v1, rfl, h1⟩ := hk 1 _ _ rfl rfl
      obtain ⟨v2, rfl, h2⟩ := hk 2 _ _ rfl rfl
      obtain ⟨v3, rfl, h3⟩ := hk 3 _ _ rfl rfl
      obtain ⟨v4, rfl, h4⟩ := hk 4 _ _ rfl rfl
      obtain ⟨v5, rfl, h5⟩ := hk 5 _ _ rfl rfl
      obtain ⟨v6, rfl, h6⟩ := hk 6 _ _ rfl rfl
      obtain ⟨v7, rfl, h7⟩ := hk 7 _ _ rfl rfl
      obtain ⟨v8, rfl⟩ := hk 8 _ _ rfl rfl
      obtain ⟨v9, rfl, h9⟩ := hk 9 _ _ rfl rfl
      obtain ⟨v10, rfl, h10⟩ := hk 10 _ _ rfl rfl
      obtain ⟨v11, rfl, h11⟩ := hk 11 _ _ rfl rfl
      obtain ⟨v12, rfl, h12⟩ := hk 12 _ _ rfl rfl
      obtain ⟨v13, rfl⟩ := hk 13 _ _ rfl rfl
      obtain ⟨v14, rfl⟩ := hk 14 _ _ rfl rfl
      exact ⟨⟨v0, v1, v2, v3, ⟨v4, v5, v6, v7, v8, v9, v10, v11, v12, v13⟩, v14⟩, rfl, wf_ok64 h1, wf_ok64 h2, wf_ok64 h3, wf_ok64 h4, wf_ok64 h5, wf_ok64 h9, wf_ok64 h10⟩
  obtain ⟨As, hl, hAs⟩ := list_all l (fun i (A : VAct) => css[i]? = some (vactCells A) ∧ A.Ok) fun i hi => by
    have hg : css[i]? = some (css[i]'(by rw [hr.len]; exact hi)) := List.getElem?_eq_getElem (by rw [hr.len]; exact hi)
    obtain ⟨A, h1, h2⟩ := key _ (List.mem_of_getElem? hg)
    exact ⟨A, by rw [hg, h1], h2⟩
  refine ⟨As, hl, ?_, fun A hA => ?_⟩
  · rcases hr.cells with h1 | ⟨g, o, hs, hc⟩
    · exact .inl h1
    · exact .inr ⟨g, o, hs, fun i A hi j u hu => hc i _ (hAs i A hi).1 j u hu⟩
  · obtain ⟨i, hi⟩ := List.getElem?_of_mem hA
    exact (hAs i A hi).2
set_option maxRecDepth 100000 in
theorem vact_of {H : Type} {enc : TypeId × Value → H} {w w1 : World} {base b0 : Nat} {spare : Nat → Bool} {held : Bool} {r : Reach} {v : Value} {d : DataW H} {p : List MemPlace}
    (h : DataW.Trod enc Try.prog w base spare held 33 v d p) (hv : Value.okWide Try.prog w1 r b0 33 v) :
    ∃ A : VAct, v = .agg #[.int .i64 A.k, .int .i64 A.lo, .int .i64 A.n, .int .i64 A.how, .int .i64 A.x.s, .int .i64 A.x.e, .int .i64 A.x.f, .int .i64 A.x.o, .bool A.x.sh, .int .i64 A.x.p, .int .i64 A.x.m, .int .i64 A.x.i, .int .i64 A.x.a, .bool A.x.wi, .bool A.on] ∧ A.Ok := by
  obtain ⟨cs, rfl, _⟩ := okWide_struct Try.underlying33 hv
  obtain ⟨fuel, hf⟩ := h
  obtain ⟨hl, hck⟩ := ck_of_trod 6 33 [.int .i64, .int .i64, .int .i64, .int .i64, .int .i64, .int .i64, .int .i64, .int .i64, .bool, .int .i64, .int .i64, .int .i64, .int .i64, .bool, .bool] _ fuel _ (by kernel_rfl) hf
  obtain ⟨l⟩ := cs
  simp only [Value.cells] at hl hck
  match l, hl with
  | [a0, a1, a2, a3, a4, a5, a6, a7, a8, a9, a10, a11, a12, a13, a14], _ =>
    obtain ⟨v0, rfl, h0⟩ := hck 0 _ _ rfl rfl
    obtain ⟨v1, rfl, h1⟩ := hck 1 _ _ rfl rfl
    obtain ⟨v2, rfl, h2⟩ := hck 2 _ _ rfl rfl
    obtain ⟨v3, rfl, h3⟩ := hck 3 _ _ rfl rfl
    obtain ⟨v4, rfl, h4⟩ := hck 4 _ _ rfl rfl
    obtain ⟨v5, rfl, h5⟩ := hck 5 _ _ rfl rfl
    obtain ⟨v6, rfl, h6⟩ := hck 6 _ _ rfl rfl
    obtain ⟨v7, rfl, h7⟩ := hck 7 _ _ rfl rfl
    obtain ⟨v8, rfl⟩ := hck 8 _ _ rfl rfl
    obtain ⟨v9, rfl, h9⟩ := hck 9 _ _ rfl rfl
    obtain ⟨v10, rfl, h10⟩ := hck 10 _ _ rfl rfl
    obtain ⟨v11, rfl, h11⟩ := hck 11 _ _ rfl rfl
    obtain ⟨v12, rfl, h12⟩ := hck 12 _ _ rfl rfl
    obtain ⟨v13, rfl⟩ := hck 13 _ _ rfl rfl
    obtain ⟨v14, rfl⟩ := hck 14 _ _ rfl rfl
    exact ⟨⟨v0, v1, v2, v3, ⟨v4, v5, v6, v7, v8, v9, v10, v11, v12, v13⟩, v14⟩, rfl, wf_ok64 h1, wf_ok64 h2, wf_ok64 h3, wf_ok64 h4, wf_ok64 h5, wf_ok64 h9, wf_ok64 h10⟩
end Go.Proofs.Ytamkmmhjmpjibaa
