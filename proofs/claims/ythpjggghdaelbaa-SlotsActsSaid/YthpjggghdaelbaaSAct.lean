/- Layer 8: acts that came in, a round's box of one; what an act leaves; slices of uints. -/
import Derived.Test.YthpjggghdaelbaaSLives
import Derived.Test.YthpjggghdaelbaaTInts
namespace Go.Proofs.Ythpjggghdaelbaa
open Go.ChangeShapes Go.WideShapes Go.ChangeAt Go.RowKit Go.Deep
set_option linter.unusedVariables false

theorem neq_slots_nil (w : World) (a : Addr) : (binOp .neq 23 (.pointer (some a)) (.pointer none)).run Try.prog w = .ok (.bool true) w := by
  have h1 : ∀ d : Nat, (Op.equalIn (d + 1) 23 (.pointer (some a)) (.pointer none)).run Try.prog w = .ok false w := fun d => by
    simp [Op.equalIn, run_underlying Try.underlying23]
  simp only [binOp]
  simp [Op.equal, Op.maxDepth, h1 9999]

structure SActV where
  k : Int
  n : Int
structure SActV.Ok (A : SActV) : Prop where
  k : okI A.k
  n : okI A.n
def sactCells (A : SActV) : List Value := [.int .i64 A.k, .int .i64 A.n]
structure SActsAre (w : World) (s : Option Addr) (l : Nat) (As : List SActV) : Prop where
  len : As.length = l
  cells : l = 0 ∨ ∃ g o, s = some ⟨g, o, none⟩ ∧ ∀ (i : Nat) A, As[i]? = some A → ∀ (j : Nat) u, (sactCells A)[j]? = some u → w.cell? ⟨g, o + i * 2 + j, none⟩ = some u
  ok : ∀ A, A ∈ As → A.Ok
theorem SActsAre.at {w wr : World} {s : Option Addr} {l : Nat} {As : List SActV} (h : SActsAre w s l As) (g : w.grownBy wr none) {j : Nat} {A : SActV} (hA : As[j]? = some A) :
    ∃ b o, s = some ⟨b, o, none⟩ ∧ wr.cell? ⟨b, o + j * 2, none⟩ = some (.int .i64 A.k) ∧ wr.cell? ⟨b, o + j * 2 + 1, none⟩ = some (.int .i64 A.n) := by
  have hj := (List.getElem?_eq_some_iff.1 hA).1
  rcases h.cells with h0 | ⟨b, o, hs, hc⟩
  · have := h.len; omega
  · have key : ∀ q u, (sactCells A)[q]? = some u → wr.cell? ⟨b, o + j * 2 + q, none⟩ = some u := fun q u hq => by
      have h1 := hc j A hA q u hq
      exact (World.cell?_of_block (a := ⟨b, o + j * 2 + q, none⟩) (g.block b (World.block_lt_of_cell? w _ h1) (by simp))).trans h1
    exact ⟨b, o, hs, key 0 _ rfl, key 1 _ rfl⟩

/-- A round's box. -/
def SActB (w : World) (y : Nat) (A : SActV) : Prop := w.heap[y]? = some (.cells #[.int .i64 A.k, .int .i64 A.n] 29 (0, 0))
section
variable {w wx w2 w' : World} {y : Nat} {A : SActV} {r gu gs : Nat} {L L' : List Int}
theorem SActB.at (h : SActB w y A) : w.cell? ⟨y, 0, none⟩ = some (.int .i64 A.k) ∧ w.cell? ⟨y, 1, none⟩ = some (.int .i64 A.n) := ⟨by rw [cell_of_row _ _ _ _ _ _ h]; rfl, by rw [cell_of_row _ _ _ _ _ _ h]; rfl⟩
theorem SActB.lt (h : SActB w y A) : y < w.heap.size := (Array.getElem?_eq_some_iff.1 h).1
theorem SActB.grow (h : SActB w y A) (g : w.grownBy w' none) : SActB w' y A := (g.block _ h.lt (by simp)).trans h
theorem SActB.turn {O : List Nat} (h : SActB w y A) (g : Turn O w w') (ho : y ∉ O) : SActB w' y A := (g.block _ h.lt ho).trans h
theorem SActB.new (w : World) (A : SActV) : SActB (w.alloc (.cells #[.int .i64 A.k, .int .i64 A.n] 29 (0, 0))) w.heap.size A := heap_alloc_new w _

/-- Places of the law's own, and a round's box. -/
structure LR (w wx : World) (r : Nat) (L : List Int) (gu gs y : Nat) (A : SActV) : Prop where
  i : LS w wx r L gu gs
  b : SActB wx y A
  yn : y ∉ [r, gu, gs]
theorem LR.grow (h : LR w wx r L gu gs y A) (k : wx.grownBy w2 none) : LR w w2 r L gu gs y A := ⟨h.i.grow k, h.b.grow k, h.yn⟩
theorem LR.left (h : LR w wx r L gu gs y A) (k : SLeft wx w2 r L' gu gs) : LR w w2 r L' gu gs y A := ⟨h.i.left k, h.b.turn k.2 fun hm => h.yn (List.mem_cons_of_mem _ hm), h.yn⟩
theorem LR.new (h : LS w wx r L gu gs) (A : SActV) : LR w (wx.alloc (.cells #[.int .i64 A.k, .int .i64 A.n] 29 (0, 0))) r L gu gs wx.heap.size A :=
  ⟨h.grow (World.grownBy_alloc wx _ none), SActB.new wx A, fun hm => by have := h.sp.lt _ hm; omega⟩
end

/-- A slice that reads as uints. -/
structure UintsAre (w : World) (s : Option Addr) (l : Nat) (xs : List Int) : Prop where
  len : xs.length = l
  cells : l = 0 ∨ ∃ g o, s = some ⟨g, o, none⟩ ∧ ∀ i x, xs[i]? = some x → w.cell? ⟨g, o + i, none⟩ = some (.int .u64 x)
  ok : ∀ x, x ∈ xs → okU x
theorem UintsAre.at {w wr : World} {s : Option Addr} {l : Nat} {xs : List Int} (h : UintsAre w s l xs) (b : w.grownBy wr none) (q : Nat) (hq : q < l) : ∃ x g o, xs[q]? = some x ∧ s = some ⟨g, o, none⟩ ∧ wr.cell? ⟨g, o + q, none⟩ = some (.int .u64 x) ∧ okU x := by
  rcases h.cells with h0 | ⟨g, o, hs, hc⟩
  · omega
  · have hx : xs[q]? = some (xs[q]'(by rw [h.len]; exact hq)) := List.getElem?_eq_getElem (by rw [h.len]; exact hq)
    have h1 := hc q _ hx
    exact ⟨_, g, o, hx, hs, (World.cell?_of_block (a := ⟨g, o + q, none⟩) (b.block g (World.block_lt_of_cell? w _ h1) (by simp))).trans h1, h.ok _ (List.mem_of_getElem? hx)⟩
end Go.Proofs.Ythpjggghdaelbaa
