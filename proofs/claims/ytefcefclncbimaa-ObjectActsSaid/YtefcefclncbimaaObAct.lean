/- Layer 14: acts that came in; blocks that a law holds on to; marks of ranges over functions. -/
import Derived.Test.YtefcefclncbimaaObNo
namespace Go.Proofs.Ytefcefclncbimaa
open Go.ChangeShapes Go.WideShapes Go.ChangeAt Go.RowKit Go.Deep
set_option linter.unusedVariables false
attribute [local go_sem] Oper.semAt_some

/-- Blocks that stay as they are, laid since w. -/
structure FixB (w wx : World) (B : List (Nat × Obj)) : Prop where
  grown : w.grownBy wx none
  fix : ∀ b, b ∈ B → wx.heap[b.1]? = some b.2
  own : ∀ b, b ∈ B → w.heap.size ≤ b.1
def hasO (B : List (Nat × Obj)) (k : Nat) : Prop := ∃ o, (k, o) ∈ B
section
variable {w wx w2 : World} {B : List (Nat × Obj)} {k : Nat} {o : Obj}
theorem FixB.nil (w : World) : FixB w w [] := ⟨grown_refl _ _, (fun b hb => by cases hb), (fun b hb => by cases hb)⟩
theorem FixB.at (h : FixB w wx B) (hk : (k, o) ∈ B) : wx.heap[k]? = some o := h.fix _ hk
theorem FixB.lt (h : FixB w wx B) {b : Nat × Obj} (hb : b ∈ B) : b.1 < wx.heap.size := (Array.getElem?_eq_some_iff.1 (h.fix b hb)).1
theorem FixB.grow (h : FixB w wx B) (g : wx.grownBy w2 none) : FixB w w2 B := ⟨grown_trans h.grown g, fun b hb => (g.block _ (h.lt hb) (by simp)).trans (h.fix b hb), h.own⟩
theorem FixB.new (h : FixB w wx B) (g : wx.grownBy w2 none) (hk : w2.heap[k]? = some o) (hs : wx.heap.size ≤ k) : FixB w w2 ((k, o) :: B) :=
  ⟨grown_trans h.grown g, fun b hb => by
    rcases List.mem_cons.1 hb with rfl | hb
    · exact hk
    · exact (g.block _ (h.lt hb) (by simp)).trans (h.fix b hb), fun b hb => by
    rcases List.mem_cons.1 hb with rfl | hb
    · exact Nat.le_trans h.grown.size hs
    · exact h.own b hb⟩
theorem FixB.ofOwn {base : Nat} {row : Option Nat} (h : FixB w wx B) (hB : ∀ b, b ∈ B → b.1 < base) (h0 : w.heap.size ≤ base) (g : wx.grownBy w2 row) (hr : ∀ r, row = some r → base ≤ r) : FixB w w2 B :=
  ⟨grown_own h.grown g fun x e => Nat.le_trans h0 (hr x e), fun b hb => (g.block _ (h.lt hb) fun e => by have := hr _ e.symm; have := hB b hb; omega).trans (h.fix b hb), h.own⟩
theorem FixB.sub {B' : List (Nat × Obj)} (h : FixB w wx B) (hs : ∀ b, b ∈ B' → b ∈ B) : FixB w wx B' := ⟨h.grown, fun b hb => h.fix b (hs b hb), fun b hb => h.own b (hs b hb)⟩
end

/-! ### marks -/
def marks (Ds : List Nat) : List Deferred := Ds.map fun D => { target := .collected D, args := #[] }
def dfO (D : Nat) : Nat × Obj := (D, .deferred (some []))
theorem leaves_marks {F : Fence} {n : Nat} {P : Program} {fn : Func} {tmps : Array Value} {R : Ending → World → Prop} (Ds : List Nat) (w : World) (hd : Ds.Nodup) (hall : ∀ D, D ∈ Ds → w.heap[D]? = some (.deferred (some [])))
    (hend : ∀ w', Turn Ds w w' → LeavesIn F n P fn tmps R [] .returning w') : LeavesInM F n P fn tmps R (marks Ds) .returning w := by
  induction Ds generalizing w with
  | nil => exact hend w (Turn.refl _ _)
  | cons D Ds ih =>
    rw [List.nodup_cons] at hd
    refine ⟨by simp, .inl ⟨D, w.putObj D (.deferred none), rfl, run_takeDeferred (hall D (by simp)), ih _ hd.2 (fun E hE => ?_) fun w' t => hend w' ?_⟩⟩
    · exact (World.putObj_heap_other (fun e => hd.1 (by first | exact e ▸ hE | exact e.symm ▸ hE))).trans (hall E (by simp [hE]))
    · exact (Turn.one (grownBy_putObj' w D _) (by simp)).trans (t.mono fun b hb => List.mem_cons_of_mem _ hb) fun b hb => .inl hb
theorem results_cell_bool {fn : Func} {p : Tmp} (h : fn.results = #[.cell p 4]) (tmps : Array Value) (w : World) (g : Nat) (v : Value) (hp : tmps.getD p undef = .pointer (some ⟨g, 0, none⟩)) (hc : w.cell? ⟨g, 0, none⟩ = some v) :
    (results fn tmps).run Try.prog w = .ok v w := by
  have hp' : tmps[p]?.getD undef = .pointer (some ⟨g, 0, none⟩) := by simpa using hp
  have hagg : (isAgg 4).run Try.prog w = .ok false w := by
    unfold isAgg
    rw [Sem.run_bind, run_underlying Try.underlying4 w]
    rfl
  simp [results, h, hp', asAddr, loadVar, hagg, hc, go_sem]
theorem eql_seq14 (w : World) (fn : Fn) (a b : Array Value) : (binOp .eql 55 (.func fn a b) .nilFunc).run Try.prog w = .ok (.bool false) w := by
  have h1 : ∀ d : Nat, (Op.equalIn (d + 1) 55 (.func fn a b) .nilFunc).run Try.prog w = .ok false w := fun d => by
    simp [Op.equalIn, run_underlying Try.underlying55]
  simp only [binOp]
  simp [Op.equal, Op.maxDepth, h1 9999]

/-! ### acts -/
structure OActV where
  k : Int
  id : Int
  a : Int
  p : PgV
def oactCells (A : OActV) : List Value := [.int .i64 A.k, .int .i64 A.id, .int .i64 A.a, .int .i64 A.p.fr, .int .i64 A.p.sl, .bool A.p.d]
theorem oact_len (A : OActV) : (oactCells A).length = 6 := rfl
structure OActV.Ok (A : OActV) : Prop where
  k : okI A.k
  id : okI A.id
  a : okI A.a
structure OActsAre (w : World) (s : Option Addr) (l : Nat) (As : List OActV) : Prop where
  len : As.length = l
  cells : l = 0 ∨ ∃ g o, s = some ⟨g, o, none⟩ ∧ ∀ (i : Nat) A, As[i]? = some A → ∀ (j : Nat) u, (oactCells A)[j]? = some u → w.cell? ⟨g, o + i * 6 + j, none⟩ = some u
  ok : ∀ A, A ∈ As → A.Ok
theorem OActsAre.at {w wr : World} {s : Option Addr} {l : Nat} {As : List OActV} (h : OActsAre w s l As) (g : w.grownBy wr none) {j : Nat} {A : OActV} (hA : As[j]? = some A) :
    ∃ b o, s = some ⟨b, o, none⟩ ∧ wr.cell? ⟨b, o + j * 6, none⟩ = some (.int .i64 A.k) ∧ wr.cell? ⟨b, o + j * 6 + 1, none⟩ = some (.int .i64 A.id) ∧ wr.cell? ⟨b, o + j * 6 + 2, none⟩ = some (.int .i64 A.a) ∧ wr.cell? ⟨b, o + j * 6 + 3, none⟩ = some (.int .i64 A.p.fr) ∧ wr.cell? ⟨b, o + j * 6 + 4, none⟩ = some (.int .i64 A.p.sl) ∧ wr.cell? ⟨b, o + j * 6 + 5, none⟩ = some (.bool A.p.d) := by
  have hj := (List.getElem?_eq_some_iff.1 hA).1
  rcases h.cells with h0 | ⟨b, o, hs, hc⟩
  · have := h.len; omega
  · have key : ∀ q u, (oactCells A)[q]? = some u → wr.cell? ⟨b, o + j * 6 + q, none⟩ = some u := fun q u hq => by
      have h1 := hc j A hA q u hq
      exact (World.cell?_of_block (a := ⟨b, o + j * 6 + q, none⟩) (g.block b (World.block_lt_of_cell? w _ h1) (by simp))).trans h1
    exact ⟨b, o, hs, key 0 _ rfl, key 1 _ rfl, key 2 _ rfl, key 3 _ rfl, key 4 _ rfl, key 5 _ rfl⟩
/-- A round's box. -/
def oactObj (A : OActV) : Obj := .cells #[.int .i64 A.k, .int .i64 A.id, .int .i64 A.a, .int .i64 A.p.fr, .int .i64 A.p.sl, .bool A.p.d] 32 (0, 0)
theorem oact_at {w : World} {y : Nat} {A : OActV} (h : w.heap[y]? = some (oactObj A)) : w.cell? ⟨y, 0, none⟩ = some (.int .i64 A.k) ∧ w.cell? ⟨y, 1, none⟩ = some (.int .i64 A.id) ∧ w.cell? ⟨y, 2, none⟩ = some (.int .i64 A.a) ∧ w.cell? ⟨y, 3, none⟩ = some (.int .i64 A.p.fr) ∧ w.cell? ⟨y, 4, none⟩ = some (.int .i64 A.p.sl) ∧ w.cell? ⟨y, 5, none⟩ = some (.bool A.p.d) := by
  unfold oactObj at h
  exact ⟨by rw [cell_of_row _ _ _ _ _ _ h]; rfl, by rw [cell_of_row _ _ _ _ _ _ h]; rfl, by rw [cell_of_row _ _ _ _ _ _ h]; rfl, by rw [cell_of_row _ _ _ _ _ _ h]; rfl, by rw [cell_of_row _ _ _ _ _ _ h]; rfl, by rw [cell_of_row _ _ _ _ _ _ h]; rfl⟩

set_option maxRecDepth 100000 in
theorem oacts_of_trod {H : Type} {enc : TypeId × Value → H} {w : World} {base : Nat} {spare : Nat → Bool} {held : Bool} {fuel : Nat} {s : Option Addr} {l c : Nat} {x : DataW H × List MemPlace}
    (h : DataW.trod enc Try.prog w base spare held fuel 22 [.slice s l c] = some x) : ∃ As, OActsAre w s l As := by
  obtain ⟨css, hr, hck⟩ := rows_of_trod (d := 5) (ks := [.int .i64, .int .i64, .int .i64, .int .i64, .int .i64, .bool]) Try.underlying22 (by kernel_rfl) (by kernel_rfl) (by simp) h
  have key : ∀ cs, cs ∈ css → ∃ A : OActV, oactCells A = cs ∧ A.Ok := by
    intro cs hcs
    have hl := hr.each cs hcs
    have hk := hck cs hcs
    match cs, hl with
    | [a, b, e, f, g, i], _ =>
      obtain ⟨lo, rfl, h0⟩ := hk 0 _ _ rfl rfl
      obtain ⟨hi, rfl, h1⟩ := hk 1 _ _ rfl rfl
      obtain ⟨by_, rfl, h2⟩ := hk 2 _ _ rfl rfl
      obtain ⟨fr, rfl, h3⟩ := hk 3 _ _ rfl rfl
      obtain ⟨sl, rfl, h4⟩ := hk 4 _ _ rfl rfl
      obtain ⟨d, rfl⟩ := hk 5 _ _ rfl rfl
      exact ⟨⟨lo, hi, by_, ⟨fr, sl, d⟩⟩, rfl, wf_ok64 h0, wf_ok64 h1, wf_ok64 h2⟩
  obtain ⟨As, hl, hAs⟩ := list_all l (fun i (A : OActV) => css[i]? = some (oactCells A) ∧ A.Ok) fun i hi => by
    have hg : css[i]? = some (css[i]'(by rw [hr.len]; exact hi)) := List.getElem?_eq_getElem (by rw [hr.len]; exact hi)
    obtain ⟨A, h1, h2⟩ := key _ (List.mem_of_getElem? hg)
    exact ⟨A, by rw [hg, h1], h2⟩
  refine ⟨As, hl, ?_, fun A hA => ?_⟩
  · rcases hr.cells with h1 | ⟨g, o, hs, hc⟩
    · exact .inl h1
    · exact .inr ⟨g, o, hs, fun i A hi j u hu => hc i _ (hAs i A hi).1 j u hu⟩
  · obtain ⟨i, hi⟩ := List.getElem?_of_mem hA
    exact (hAs i A hi).2
set_option maxRecDepth 100000 in
theorem oact_of {H : Type} {enc : TypeId × Value → H} {w w1 : World} {base b0 : Nat} {spare : Nat → Bool} {held : Bool} {r : Reach} {v : Value} {d : DataW H} {p : List MemPlace}
    (h : DataW.Trod enc Try.prog w base spare held 32 v d p) (hv : Value.okWide Try.prog w1 r b0 32 v) :
    ∃ A : OActV, v = .agg #[.int .i64 A.k, .int .i64 A.id, .int .i64 A.a, .int .i64 A.p.fr, .int .i64 A.p.sl, .bool A.p.d] ∧ A.Ok := by
  obtain ⟨cs, rfl, _⟩ := okWide_struct Try.underlying32 hv
  obtain ⟨fuel, hf⟩ := h
  obtain ⟨hl, hck⟩ := ck_of_trod 6 32 [.int .i64, .int .i64, .int .i64, .int .i64, .int .i64, .bool] _ fuel _ (by kernel_rfl) hf
  obtain ⟨l⟩ := cs
  simp only [Value.cells] at hl hck
  match l, hl with
  | [a, b, e, f, g, i], _ =>
    obtain ⟨lo, rfl, h0⟩ := hck 0 _ _ rfl rfl
    obtain ⟨hi, rfl, h1⟩ := hck 1 _ _ rfl rfl
    obtain ⟨by_, rfl, h2⟩ := hck 2 _ _ rfl rfl
    obtain ⟨fr, rfl, h3⟩ := hck 3 _ _ rfl rfl
    obtain ⟨sl, rfl, h4⟩ := hck 4 _ _ rfl rfl
    obtain ⟨dd, rfl⟩ := hck 5 _ _ rfl rfl
    exact ⟨⟨lo, hi, by_, ⟨fr, sl, dd⟩⟩, rfl, wf_ok64 h0, wf_ok64 h1, wf_ok64 h2⟩
end Go.Proofs.Ytefcefclncbimaa
