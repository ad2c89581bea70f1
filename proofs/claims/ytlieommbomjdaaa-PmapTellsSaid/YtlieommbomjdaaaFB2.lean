/- Package frames: what a pool is; New, made, has, mayTake, keptFrom, Count, Free, Get. Package frames: the lowest free frame; Take. Package frames: a count that is added to; what is done to a frame that is not free; Give, Own, Wire, Loan. Package frames: what is done to a frame: Give, Own, Wire, Loan. -/
import Derived.Test.YtlieommbomjdaaaFB1
import Derived.Shelf.Abstract
namespace Go.Proofs.Ytlieommbomjdaaa
open Go.ChangeShapes Go.WideShapes Go.ChangeAt Go.RowKit Go.Deep
set_option linter.unusedVariables false

/-- A pool: block r, its row in block g. -/
structure FP (w : World) (r : Nat) (rs : Int) (xs : List FrV) (g c : Nat) : Prop where
  head : w.heap[r]? = some (.cells #[.slice (some ⟨g, 0, none⟩) xs.length c, .int .i64 rs] 74 (0, 0))
  row : w.ownsRow 0 99 5 (.slice (some ⟨g, 0, none⟩) xs.length c) xs.length (xs.flatMap frCells)
  len0 : 1 ≤ xs.length
  len1 : xs.length ≤ 256
  rs0 : 0 ≤ rs
  rs1 : rs ≤ xs.length
  good : Goods xs

section
variable {w w' : World} {r g c : Nat} {rs : Int} {xs : List FrV}
theorem FP.rlt (h : FP w r rs xs g c) : r < w.heap.size := (Array.getElem?_eq_some_iff.1 h.head).1
theorem FP.glt (h : FP w r rs xs g c) : g < w.heap.size := (h.row.lt g rfl).2
theorem FP.cur (h : FP w r rs xs g c) : ∃ cur, w.heap[g]? = some (.cells cur 99 (0, 0)) ∧ xs.length ≤ c ∧ cur.size = c * 5 ∧ cur.toList.take (xs.length * 5) = xs.flatMap frCells := by
  rcases h.row.2 with ⟨e, _⟩ | ⟨g', c', cur, e, _, h2, h3, _, h4, h5⟩
  · cases e
  · simp only [Value.slice.injEq, Option.some.injEq, Addr.mk.injEq] at e
    obtain ⟨⟨rfl, _⟩, _, rfl⟩ := e
    exact ⟨cur, h2, h3, h4, h5⟩
theorem FP.ne (h : FP w r rs xs g c) : g ≠ r := fun e => by
  obtain ⟨cur, h1, _⟩ := h.cur
  have := h.head.symm.trans (e ▸ h1)
  simp at this
theorem FP.kept (h : FP w r rs xs g c) (hb : ∀ b, b ∈ [r, g] → w'.heap[b]? = w.heap[b]?) : FP w' r rs xs g c := by
  refine ⟨(hb r (by simp)).trans h.head, ⟨h.row.1, ?_⟩, h.len0, h.len1, h.rs0, h.rs1, h.good⟩
  rcases h.row.2 with ⟨e, _⟩ | ⟨g', c', cur, e, h1, h2, h3⟩
  · cases e
  · refine .inr ⟨g', c', cur, e, h1, (hb g' ?_).trans h2, h3⟩
    simp only [Value.slice.injEq, Option.some.injEq, Addr.mk.injEq] at e
    simp [e.1.1]
theorem FP.lt (h : FP w r rs xs g c) : ∀ b, b ∈ [r, g] → b < w.heap.size := by
  intro b hb
  simp at hb
  rcases hb with rfl | rfl
  · exact h.rlt
  · exact h.glt
theorem FP.grow (h : FP w r rs xs g c) (k : w.grownBy w' none) : FP w' r rs xs g c := h.kept fun b hb => k.block b (h.lt b hb) (by simp)
theorem FP.turn {O : List Nat} (h : FP w r rs xs g c) (k : Turn O w w') (ho : ∀ b, b ∈ [r, g] → b ∉ O) : FP w' r rs xs g c := h.kept fun b hb => k.block b (h.lt b hb) (ho b hb)
theorem FP.at (h : FP w r rs xs g c) : w.cell? ⟨r, 0, none⟩ = some (.slice (some ⟨g, 0, none⟩) xs.length c) ∧ w.cell? ⟨r, 1, none⟩ = some (.int .i64 rs) := ⟨by rw [cell_of_row _ _ _ _ _ _ h.head]; rfl, by rw [cell_of_row _ _ _ _ _ _ h.head]; rfl⟩
/-- The cells of one frame. -/
theorem FP.fr (h : FP w r rs xs g c) {j : Nat} {x : FrV} (hx : xs[j]? = some x) : w.cell? ⟨g, j * 5, none⟩ = some (.int .i64 x.cl) ∧ w.cell? ⟨g, j * 5 + 1, none⟩ = some (.int .i64 x.ow) ∧ w.cell? ⟨g, j * 5 + 2, none⟩ = some (.int .i64 x.ix) ∧ w.cell? ⟨g, j * 5 + 3, none⟩ = some (.int .i64 x.wi) ∧ w.cell? ⟨g, j * 5 + 4, none⟩ = some (.int .i64 x.lo) := by
  have key : ∀ q u, (frCells x)[q]? = some u → w.cell? ⟨g, j * 5 + q, none⟩ = some u := fun q u hq => by
    have h1 := h.row.cells (g := g) rfl _ u (flat_at frCells 5 fr_len xs j x hx q u hq)
    rw [Addr.add_lit, Nat.zero_add] at h1
    exact h1
  exact ⟨key 0 _ rfl, key 1 _ rfl, key 2 _ rfl, key 3 _ rfl, key 4 _ rfl⟩
end

/-- One frame of the row is another one. -/
theorem FP.set {w : World} {r g c : Nat} {rs : Int} {xs : List FrV} (h : FP w r rs xs g c) (i : Nat) (y : FrV) (hi : i < xs.length) (hy : GoodF y) :
    FP (((((w.setCell ⟨g, i * 5, none⟩ (.int .i64 y.cl)).setCell ⟨g, i * 5 + 1, none⟩ (.int .i64 y.ow)).setCell ⟨g, i * 5 + 2, none⟩ (.int .i64 y.ix)).setCell ⟨g, i * 5 + 3, none⟩ (.int .i64 y.wi)).setCell ⟨g, i * 5 + 4, none⟩ (.int .i64 y.lo)) r rs (xs.set i y) g c := by
  have ho : ∀ (W : World) (o : Nat) (v : Value), (W.setCell ⟨g, o, none⟩ v).heap[r]? = W.heap[r]? := fun W o v => heap_setCell_other W _ r v (by first | exact h.ne | exact h.ne.symm)
  refine ⟨by rw [ho, ho, ho, ho, ho, List.length_set]; exact h.head, ?_, by rw [List.length_set]; exact h.len0, by rw [List.length_set]; exact h.len1, h.rs0, by rw [List.length_set]; exact h.rs1, h.good.set i hy⟩
  have hl := flat_len frCells 5 fr_len (xs.set i y)
  rw [List.length_set] at hl
  rcases h.row.2 with ⟨e, _⟩ | ⟨g', cap, cur, hsl, hb, hg, h1, h2, h3, ht⟩
  · cases e
  · simp only [Value.slice.injEq, Option.some.injEq, Addr.mk.injEq] at hsl
    obtain ⟨⟨rfl, _⟩, _, rfl⟩ := hsl
    have g0 := heap_setCell_same w g (i * 5) _ _ (.int .i64 y.cl) hg
    have g1 := heap_setCell_same _ g (i * 5 + 1) _ _ (.int .i64 y.ow) g0
    have g2 := heap_setCell_same _ g (i * 5 + 2) _ _ (.int .i64 y.ix) g1
    have g3 := heap_setCell_same _ g (i * 5 + 3) _ _ (.int .i64 y.wi) g2
    have g4 := heap_setCell_same _ g (i * 5 + 4) _ _ (.int .i64 y.lo) g3
    refine ⟨by rw [List.length_set]; exact hl, .inr ⟨g, c, _, by rw [List.length_set], hb, g4, by rw [List.length_set]; exact h1, h2, by simp [h3], ?_⟩⟩
    rw [flat_set5 xs i y hi, ← ht, List.length_set]
    simp only [Array.toList_setIfInBounds, List.take_set]

theorem info_ffr : (Try.prog.info? 99).map (fun i => (i.zero, i.size, i.bytes)) = some (some (.agg #[.int .i64 0, .int .i64 0, .int .i64 0, .int .i64 0, .int .i64 0]), 5, 40) := by kernel_rfl
theorem fr_new_ok (n : Nat) (rs : Int) (w : World) (h1 : 1 ≤ n) (h2 : n ≤ 256) (h3 : 0 ≤ rs) (h4 : rs ≤ n) :
    Calls Try.prog 11 #[.int .i64 n, .int .i64 rs] w fun e w' => ∃ r g c, e = .returned (.pointer (some ⟨r, 0, none⟩)) ∧ FP w' r rs (List.replicate n zeroF) g c ∧ w.grownBy w' none ∧ ∀ b, b ∈ [r, g] → w.heap.size ≤ b := by
  have hmk : (Instr.makeSlice 72 (.int .i64 (n : Int)) (.int .i64 (n : Int))).run Try.prog w = .ok (.slice (some ⟨w.heap.size, 0, none⟩) n n) (w.alloc (.cells (madeCells zeroCs (n * 5)) 99)) := by
    obtain ⟨i0, hi, hz0, hz1, hz2⟩ := info_parts info_ffr
    have hr := run_make (P := Try.prog) w 72 99 i0 _ Try.underlying72 hi hz0 .i64 .i64 (n : Int) (n : Int) (by omega) (by omega) (by rw [hz2]; omega) (by omega)
    rw [hr, Int.toNat_natCast, hz1]
    rfl
  obtain ⟨X, hX⟩ : ∃ X, X = madeCells zeroCs (n * 5) := ⟨_, rfl⟩
  have hXl : X.toList = (List.replicate n zeroF).flatMap frCells := by rw [hX]; exact made_zeroF n
  have hXs : X.size = n * 5 := by rw [hX]; unfold madeCells; simp
  rw [← hX] at hmk
  have ga := World.grownBy_alloc w (.cells X 99 (0, 0)) none
  have gb := grown_trans ga (World.grownBy_alloc (w.alloc (.cells X 99 (0, 0))) (.cells #[.slice (some ⟨w.heap.size, 0, none⟩) n n, .int .i64 rs] 74 (0, 0)) none)
  have hb := heap_alloc_new (w.alloc (.cells X 99 (0, 0))) (.cells #[.slice (some ⟨w.heap.size, 0, none⟩) n n, .int .i64 rs] 74 (0, 0))
  rw [World.size_alloc] at hb
  have hg := (World.grownBy_alloc (w.alloc (.cells X 99 (0, 0))) (.cells #[.slice (some ⟨w.heap.size, 0, none⟩) n n, .int .i64 rs] 74 (0, 0)) none).block w.heap.size (by simp) (by simp) |>.trans (heap_alloc_new w _)
  have HP := Lib.hid (show FP _ (w.heap.size + 1) rs (List.replicate n zeroF) w.heap.size n from
    ⟨by rw [List.length_replicate]; exact hb, ⟨by rw [flat_len frCells 5 fr_len], .inr ⟨w.heap.size, n, X, rfl, Nat.zero_le _, hg, by rw [List.length_replicate]; exact Nat.le_refl _, by unfold maxLen; omega, hXs, by rw [List.length_replicate, ← hXl, List.take_of_length_le (by simp [hXs])]⟩⟩, by rw [List.length_replicate]; exact h1, by rw [List.length_replicate]; exact h2, h3, by rw [List.length_replicate]; exact h4, goods_new n⟩)
  have HG := Lib.hid gb
  have d0 : decide ((n : Int) < 1) = false := by simp; omega
  have d1 : decide ((n : Int) > 256) = false := by simp; omega
  have d2 : decide (rs < 0) = false := by simp; omega
  have d3 : decide (rs > (n : Int)) = false := by simp; omega
  clear hX hXl hXs ga gb hb hg
  go_enter Try.func11, Try.ntmps11
  go_wp2_with fail
  go_ret
  exact ⟨w.heap.size + 1, w.heap.size, n, rfl, HP.out, HG.out, by intro b hb; simp at hb; omega⟩

theorem fr_new_no (n rs : Int) (w : World) (h : ¬ (1 ≤ n ∧ n ≤ 256 ∧ 0 ≤ rs ∧ rs ≤ n)) :
    Calls Try.prog 11 #[.int .i64 n, .int .i64 rs] w fun e w' => e = .returned (.pointer none) ∧ w' = w := by
  rcases (show n < 1 ∨ (¬ n < 1 ∧ 256 < n) ∨ (¬ n < 1 ∧ ¬ 256 < n ∧ rs < 0) ∨ (¬ n < 1 ∧ ¬ 256 < n ∧ ¬ rs < 0 ∧ n < rs) by omega) with h1 | ⟨h1, h2⟩ | ⟨h1, h2, h3⟩ | ⟨h1, h2, h3, h4⟩
  all_goals
    clear h
    go_enter Try.func11, Try.ntmps11
    go_wp2_with fail
    go_ret
    exact ⟨rfl, rfl⟩

theorem neq_pool_nil (w : World) (a : Addr) : (binOp .neq 26 (.pointer (some a)) (.pointer none)).run Try.prog w = .ok (.bool true) w := by
  have h1 : ∀ d : Nat, (Op.equalIn (d + 1) 26 (.pointer (some a)) (.pointer none)).run Try.prog w = .ok false w := fun d => by
    simp [Op.equalIn, run_underlying Try.underlying26]
  simp only [binOp]
  simp [Op.equal, Op.maxDepth, h1 9999]
theorem neq_nil_nil (w : World) : (binOp .neq 26 (.pointer none) (.pointer none)).run Try.prog w = .ok (.bool false) w := by kernel_rfl

section
variable {w : World} {r g c : Nat} {rs : Int} {xs : List FrV}
theorem fr_made (h : FP w r rs xs g c) : Calls Try.prog 57 #[.pointer (some ⟨r, 0, none⟩)] w fun e w' => e = .returned (.bool true) ∧ w' = w := by
  obtain ⟨c0, c1⟩ := h.at
  have hq := neq_pool_nil
  have h0 := h.len0
  have hb : decide (0 < xs.length) = true := by simp; omega
  clear h
  go_enter Try.func57, Try.ntmps57
  go_wp2_with fail
  go_ret
  exact ⟨rfl, rfl⟩
theorem nil_made (w : World) : Calls Try.prog 57 #[.pointer none] w fun e w' => e = .returned (.bool false) ∧ w' = w := by
  have hq := neq_nil_nil
  go_enter Try.func57, Try.ntmps57
  go_wp2_with fail
  go_ret
  exact ⟨rfl, rfl⟩
theorem zero_made (h : w.heap[r]? = some (.cells #[.slice none 0 0, .int .i64 0] 74 (0, 0))) : Calls Try.prog 57 #[.pointer (some ⟨r, 0, none⟩)] w fun e w' => e = .returned (.bool false) ∧ w' = w := by
  have hq := neq_pool_nil
  have c0 : w.cell? ⟨r, 0, none⟩ = some (.slice none 0 0) := by rw [cell_of_row _ _ _ _ _ _ h]; rfl
  clear h
  go_enter Try.func57, Try.ntmps57
  go_wp2_with fail
  go_ret
  exact ⟨rfl, rfl⟩
theorem fr_has (h : FP w r rs xs g c) (fr : Int) (b : Bool) (hb : b = decide (0 ≤ fr ∧ fr < xs.length)) : Calls Try.prog 91 #[.pointer (some ⟨r, 0, none⟩), .int .i64 fr] w fun e w' => e = .returned (.bool b) ∧ w' = w := by
  obtain ⟨c0, c1⟩ := h.at
  have HM := Lib.hid (fr_made h)
  clear h
  by_cases h0 : 0 ≤ fr
  · by_cases h1 : fr < xs.length
    · rw [decide_eq_true ⟨h0, h1⟩] at hb
      subst hb
      go_enter Try.func91, Try.ntmps91
      go_wp2_with fail
      refine HM.out.mono ?_
      rintro e w2 ⟨rfl, rfl⟩
      go_wp2_with fail
      go_ret
      exact ⟨rfl, rfl⟩
    · rw [decide_eq_false (fun k => h1 k.2)] at hb
      subst hb
      have hb2 : decide (fr < (xs.length : Int)) = false := decide_eq_false h1
      go_enter Try.func91, Try.ntmps91
      go_wp2_with fail
      refine HM.out.mono ?_
      rintro e w2 ⟨rfl, rfl⟩
      go_wp2_with fail
      go_ret
      exact ⟨rfl, rfl⟩
  · rw [decide_eq_false (fun k => h0 k.1)] at hb
    subst hb
    go_enter Try.func91, Try.ntmps91
    go_wp2_with fail
    refine HM.out.mono ?_
    rintro e w2 ⟨rfl, rfl⟩
    go_wp2_with fail
    go_ret
    exact ⟨rfl, rfl⟩
theorem fr_may (cl : Int) (d : Bool) (hd : d = decide (isCls cl)) (w : World) : Calls Try.prog 81 #[.int .i64 cl] w fun e w' => e = .returned (.bool d) ∧ w' = w := by
  by_cases h2 : 1 ≤ cl
  · by_cases h3 : cl ≤ 4
    · rw [decide_eq_true (show isCls cl from ⟨h2, h3⟩)] at hd
      subst hd
      go_enter Try.func81, Try.ntmps81
      go_wp2_with fail
      go_ret
      exact ⟨rfl, rfl⟩
    · rw [decide_eq_false (fun k : isCls cl => h3 k.2)] at hd
      subst hd
      go_enter Try.func81, Try.ntmps81
      go_wp2_with fail
      go_ret
      exact ⟨rfl, rfl⟩
  · rw [decide_eq_false (fun k : isCls cl => h2 k.1)] at hd
    subst hd
    go_enter Try.func81, Try.ntmps81
    go_wp2_with fail
    go_ret
    exact ⟨rfl, rfl⟩
theorem fr_kept (h : FP w r rs xs g c) (cl : Int) : Calls Try.prog 82 #[.pointer (some ⟨r, 0, none⟩), .int .i64 cl] w fun e w' => e = .returned (.int .i64 (if cl = 1 then 0 else rs)) ∧ w' = w := by
  obtain ⟨c0, c1⟩ := h.at
  clear h
  by_cases h1 : cl = 1
  · rw [if_pos h1]
    have b1 : (cl == 1) = true := by simpa using h1
    clear h1
    go_enter Try.func82, Try.ntmps82
    go_wp2_with fail
    go_ret
    exact ⟨rfl, rfl⟩
  · rw [if_neg h1]
    have b1 : (cl == 1) = false := by simpa using h1
    clear h1
    go_enter Try.func82, Try.ntmps82
    go_wp2_with fail
    go_ret
    exact ⟨rfl, rfl⟩

theorem fr_count (h : FP w r rs xs g c) (cl : Int) : Calls Try.prog 29 #[.pointer (some ⟨r, 0, none⟩), .int .i64 cl] w fun e w' => e = .returned (.int .i64 (countF xs cl)) ∧ w.grownBy w' none := by
  obtain ⟨c0, c1⟩ := h.at
  have hl := h.len1
  have HR := Lib.hid h
  have HM := Lib.hid (fr_made h)
  clear h
  go_enter Try.func29, Try.ntmps29
  go_wp2_with fail
  refine HM.out.mono ?_
  rintro e w2 ⟨rfl, e2⟩
  subst w2
  go_wp2_with fail
  go_loopw [5, 7, 16] (fun nv _ iv wr => ∃ (j : Nat) (k : Int), j ≤ xs.length ∧ iv = .int .i64 j ∧ nv = .int .i64 k ∧ 0 ≤ k ∧ k ≤ j ∧ Hid (k = countF (xs.take j) cl) ∧ Hid (w.grownBy wr none)) (fun _ _ iv _ => xs.length - (intOf iv).toNat)
  case atStart => exact ⟨0, 0, by omega, rfl, rfl, by omega, by omega, rfl, grown_refl _ _⟩
  case round =>
    obtain ⟨j, k, hj, rfl, rfl, hk0, hk1, HKj, HG⟩ := hrel
    by_cases hlt : j < xs.length
    · obtain ⟨x, hx⟩ : ∃ x, xs[j]? = some x := ⟨_, List.getElem?_eq_getElem hlt⟩
      obtain ⟨f0, f1, f2, f3, f4⟩ := (HR.out.grow HG.out).fr hx
      have hn := count_take hx cl
      have HG2 := Lib.hid (grown_trans HG.out (World.grownBy_alloc wr (.cells #[.int .i64 x.cl, .int .i64 x.ow, .int .i64 x.ix, .int .i64 x.wi, .int .i64 x.lo] 99 (0, 0)) none))
      obtain ⟨b0, _⟩ := (FrB.new wr 99 x).at
      obtain ⟨xc, xo, xi, xw, xl⟩ := x
      simp only at *
      by_cases hc : xc = cl
      · rw [if_pos hc] at hn
        have hb : (xc == cl) = true := by simpa using hc
        have HN := Lib.hid hn
        clear hn hc hx
        go_wp2_with fail
        go_roundw
        case rel => exact ⟨j + 1, k + 1, by omega, by go_num, rfl, by omega, by omega, by show k + 1 = _; rw [HN.out, ← HKj.out], HG2⟩
        case measure => simp [intOf]; omega
      · rw [if_neg hc, Int.add_zero] at hn
        have hb : (xc == cl) = false := by simpa using hc
        have HN := Lib.hid hn
        clear hn hc hx
        go_wp2_with fail
        go_roundw
        case rel => exact ⟨j + 1, k, by omega, by go_num, rfl, by omega, by omega, by show k = _; rw [HN.out, ← HKj.out], HG2⟩
        case measure => simp [intOf]; omega
    · obtain rfl : j = xs.length := by omega
      have hk := HKj.out
      rw [List.take_of_length_le (Nat.le_refl _)] at hk
      have HK2 := Lib.hid hk
      clear hk
      go_wp2_with fail
      go_ret
      exact ⟨by rw [← HK2.out]; rfl, HG.out⟩

theorem fr_free (h : FP w r rs xs g c) : Calls Try.prog 19 #[.pointer (some ⟨r, 0, none⟩)] w fun e w' => e = .returned (.int .i64 (countF xs 0)) ∧ w.grownBy w' none := by
  have HC := Lib.hid (fr_count h 0)
  clear h
  go_enter Try.func19, Try.ntmps19
  go_wp2_with fail
  refine HC.out.mono ?_
  rintro e w2 ⟨rfl, g2⟩
  have HG := Lib.hid g2
  clear g2
  go_wp2_with fail
  go_ret
  exact ⟨rfl, HG.out⟩

end
end Go.Proofs.Ytlieommbomjdaaa

namespace Go.Proofs.Ytlieommbomjdaaa
open Go.ChangeShapes Go.WideShapes Go.ChangeAt Go.RowKit Go.Deep
set_option linter.unusedVariables false

theorem grown_drawsF (w : World) (n : Nat) : w.grownBy (w.drewN n) none := ⟨rfl, rfl, rfl, Nat.le_refl _, fun _ _ _ => rfl⟩
theorem eql_zero_l (w : World) (a b c d e : Int) : (binOp .eql 99 (.agg #[.int .i64 0, .int .i64 0, .int .i64 0, .int .i64 0, .int .i64 0]) (.agg #[.int .i64 a, .int .i64 b, .int .i64 c, .int .i64 d, .int .i64 e])).run Try.prog w = .ok (.bool (decide (a = 0 ∧ b = 0 ∧ c = 0 ∧ d = 0 ∧ e = 0))) w := by
  go_simp
  have k : ∀ x : Int, (0 = x) = (x = 0) := fun x => propext ⟨fun h => h.symm, fun h => h.symm⟩
  by_cases h1 : a = 0 <;> by_cases h2 : b = 0 <;> by_cases h3 : c = 0 <;> by_cases h4 : d = 0 <;> by_cases h5 : e = 0 <;> simp [h1, h2, h3, h4, h5, k]
theorem eql_zero_r (w : World) (a b c d e : Int) : (binOp .eql 99 (.agg #[.int .i64 a, .int .i64 b, .int .i64 c, .int .i64 d, .int .i64 e]) (.agg #[.int .i64 0, .int .i64 0, .int .i64 0, .int .i64 0, .int .i64 0])).run Try.prog w = .ok (.bool (decide (a = 0 ∧ b = 0 ∧ c = 0 ∧ d = 0 ∧ e = 0))) w := by
  go_simp
  by_cases h1 : a = 0 <;> by_cases h2 : b = 0 <;> by_cases h3 : c = 0 <;> by_cases h4 : d = 0 <;> by_cases h5 : e = 0 <;> simp [h1, h2, h3, h4, h5]
theorem zero_iff {x : FrV} (h : GoodF x) : (x.cl = 0 ∧ x.ow = 0 ∧ x.ix = 0 ∧ x.wi = 0 ∧ x.lo = 0) ↔ x.cl = 0 := by
  refine ⟨fun k => k.1, fun k => ?_⟩
  rw [h.free k]
  exact ⟨rfl, rfl, rfl, rfl, rfl⟩

/-- The pool as the interface has it. -/
def PP (w : World) (p : Nat) (rs : Int) (xs : List FrV) (O : List Nat) : Prop := ∃ g c, O = [p, g] ∧ FP w p rs xs g c

section
variable {w : World} {r g c : Nat} {rs : Int} {xs : List FrV}
theorem FP.stay (h : FP w r rs xs g c) : FLeft PP w w r rs [r, g] xs := ⟨[r, g], ⟨g, c, rfl, h⟩, Turn.refl _ _, fun b hb => .inl hb⟩
theorem FP.stay' {w' : World} (h : FP w r rs xs g c) (k : w.grownBy w' none) : FLeft PP w w' r rs [r, g] xs := ⟨[r, g], ⟨g, c, rfl, h.grow k⟩, Turn.grown k, fun b hb => .inl hb⟩
/-- A frame stored as a whole. -/
theorem FP.left (h : FP w r rs xs g c) (i : Nat) (y : FrV) (hi : i < xs.length) (hy : GoodF y) :
    FLeft PP w (((((w.setCell ⟨g, i * 5, none⟩ (.int .i64 y.cl)).setCell ⟨g, i * 5 + 1, none⟩ (.int .i64 y.ow)).setCell ⟨g, i * 5 + 2, none⟩ (.int .i64 y.ix)).setCell ⟨g, i * 5 + 3, none⟩ (.int .i64 y.wi)).setCell ⟨g, i * 5 + 4, none⟩ (.int .i64 y.lo)) r rs [r, g] (xs.set i y) :=
  ⟨[r, g], ⟨g, c, rfl, h.set i y hi hy⟩, ((((Turn.setCell [r, g] _ g _ _ (by simp)).trans' (Turn.setCell [r, g] _ g _ _ (by simp))).trans' (Turn.setCell [r, g] _ g _ _ (by simp))).trans' (Turn.setCell [r, g] _ g _ _ (by simp))).trans' (Turn.setCell [r, g] _ g _ _ (by simp)), fun b hb => .inl hb⟩

set_option maxHeartbeats 1000000 in
theorem idx_ok (h : FP w r rs xs g c) {k : Nat} (hk : freeAt xs = some k) :
    Calls Try.prog 83 #[.slice (some ⟨g, 0, none⟩) xs.length c, .agg #[.int .i64 0, .int .i64 0, .int .i64 0, .int .i64 0, .int .i64 0]] w fun e w' => e = .returned (.int .i64 k) ∧ w.grownBy w' none := by
  have HK := Lib.hid hk
  have ga := World.grownBy_alloc w (.cells #[.int .i64 0, .int .i64 0, .int .i64 0, .int .i64 0, .int .i64 0] 99 (0, 0)) none
  have HB := Lib.hid (FrB.new w 99 zeroF)
  have HA := Lib.hid (h.grow ga)
  have HG := Lib.hid ga
  have hl := h.len1
  have hq := eql_zero_l
  unfold zeroF at HB
  clear h ga hk
  go_enter Try.func83, Try.ntmps83
  go_wp2_with fail
  generalize hwA : w.alloc (.cells #[.int .i64 0, .int .i64 0, .int .i64 0, .int .i64 0, .int .i64 0] 99 (0, 0)) = wA at *
  go_loopw [5, 8] (fun _ iv wr => ∃ j : Nat, j ≤ xs.length ∧ iv = .int .i64 j ∧ Hid (wA.grownBy wr none) ∧ Hid (∀ (i : Nat) (z : FrV), i < j → xs[i]? = some z → z.cl ≠ 0)) (fun _ iv _ => xs.length - (intOf iv).toNat)
  case atStart => exact ⟨0, by omega, rfl, grown_refl _ _, fun i z hi => by omega⟩
  case round =>
    obtain ⟨j, hj, rfl, HGr, HN⟩ := hrel
    by_cases hlt : j < xs.length
    · obtain ⟨x, hx⟩ : ∃ x, xs[j]? = some x := ⟨_, List.getElem?_eq_getElem hlt⟩
      obtain ⟨f0, f1, f2, f3, f4⟩ := (HA.out.grow HGr.out).fr hx
      obtain ⟨b0, b1, b2, b3, b4⟩ := (show FrB wr w.heap.size 99 ⟨0, 0, 0, 0, 0⟩ from HB.out.grow HGr.out).at
      have HX := Lib.hid hx
      have hg := zero_iff (HA.out.good x (List.mem_of_getElem? hx))
      clear hx
      by_cases h0 : x.cl = 0
      · have hd : decide (x.cl = 0 ∧ x.ow = 0 ∧ x.ix = 0 ∧ x.wi = 0 ∧ x.lo = 0) = true := decide_eq_true (hg.2 h0)
        have HFA := Lib.hid (free_at HX.out h0 HN.out)
        obtain ⟨xc, xo, xi, xw, xl⟩ := x
        simp only at *
        have hr : (binOp .eql 99 (.agg #[.int .i64 0, .int .i64 0, .int .i64 0, .int .i64 0, .int .i64 0]) (.agg #[.int .i64 xc, .int .i64 xo, .int .i64 xi, .int .i64 xw, .int .i64 xl])).run Try.prog = fun wx => .ok (.bool true) wx := funext fun wx => by rw [hq, hd]
        have hr2 := fun wx => congrFun hr wx
        clear hq hd hg h0 hr
        go_wp2_with fail
        go_quiet (fail)
        go_wp2_with fail
        go_ret
        have e1 : j = k := Option.some.inj (HFA.out.symm.trans HK.out)
        subst e1
        exact ⟨rfl, grown_trans HG.out (grown_trans HGr.out (grown_drawsF _ _))⟩
      · have hd : decide (x.cl = 0 ∧ x.ow = 0 ∧ x.ix = 0 ∧ x.wi = 0 ∧ x.lo = 0) = false := decide_eq_false (fun q => h0 q.1)
        have H0 := Lib.hid h0
        obtain ⟨xc, xo, xi, xw, xl⟩ := x
        simp only at *
        have hr : (binOp .eql 99 (.agg #[.int .i64 0, .int .i64 0, .int .i64 0, .int .i64 0, .int .i64 0]) (.agg #[.int .i64 xc, .int .i64 xo, .int .i64 xi, .int .i64 xw, .int .i64 xl])).run Try.prog = fun wx => .ok (.bool false) wx := funext fun wx => by rw [hq, hd]
        have hr2 := fun wx => congrFun hr wx
        clear hq hd hg h0 hr
        go_wp2_with fail
        go_quiet (fail)
        go_wp2_with fail
        go_roundw
        case rel =>
          refine ⟨j + 1, by omega, by go_num, grown_trans HGr.out (grown_drawsF _ _), ?_⟩
          show ∀ (i : Nat) (z : FrV), i < j + 1 → xs[i]? = some z → z.cl ≠ 0
          intro i z hi hz
          by_cases e : i = j
          · subst e
            rw [HX.out] at hz
            cases hz
            exact H0.out
          · exact HN.out i z (by omega) hz
        case measure => simp [intOf]; omega
    · exfalso
      obtain rfl : j = xs.length := by omega
      have hne : freeAt xs = none := by
        unfold freeAt
        rw [List.findIdx?_eq_none_iff]
        intro z hz
        obtain ⟨i, hi⟩ := List.getElem?_of_mem hz
        have := HN.out i z (List.getElem?_eq_some_iff.1 hi).1 hi
        simpa using this
      rw [HK.out] at hne
      cases hne

theorem good_new {cl ow ix : Int} (hc : isCls cl) (ho : okI ow) (hi : okI ix) : GoodF ⟨cl, ow, ix, 0, 0⟩ :=
  ⟨by have := hc.1; show (0 : Int) ≤ cl; omega, hc.2, fun e => by have := hc.1; have : cl = 0 := e; omega, by show (0 : Int) ≤ 0; omega, by show (0 : Int) ≤ 1000000; omega, by show (0 : Int) ≤ 0; omega, by show (0 : Int) ≤ 1000000; omega, ho, hi⟩

set_option maxHeartbeats 1000000 in
theorem fr_take (h : FP w r rs xs g c) (cl ow ix : Int) (ho : okI ow) (hi : okI ix) :
    Calls Try.prog 58 #[.pointer (some ⟨r, 0, none⟩), .int .i64 cl, .int .i64 ow, .int .i64 ix] w fun e w' => e = .returned (.tuple #[.int .i64 (takeF rs xs cl ow ix).n, .int .i64 (takeF rs xs cl ow ix).e]) ∧ FLeft PP w w' r rs [r, g] (takeF rs xs cl ow ix).xs := by
  have HR := Lib.hid h
  have HM := Lib.hid (fr_made h)
  by_cases hm : isCls cl
  · have HY := Lib.hid (fr_may cl true (by rw [decide_eq_true hm]) w)
    have HC := Lib.hid (fr_free h)
    have HKp := Lib.hid (fun w' (k : w.grownBy w' none) => fr_kept (h.grow k) cl)
    obtain ⟨n, hn⟩ : ∃ n, countF xs 0 = n := ⟨_, rfl⟩
    obtain ⟨m, hm2⟩ : ∃ m, (if cl = 1 then 0 else rs) = m := ⟨_, rfl⟩
    have hn0 := (countF_le (xs := xs) 0).1
    have hr0 := h.rs0
    rw [hn] at HC hn0
    rw [hm2] at HKp
    by_cases hz : n ≤ m
    · have ha : takeF rs xs cl ow ix = ⟨0, 5, xs⟩ := by
        unfold takeF
        rw [if_neg (not_not_intro hm), if_pos]
        rw [hn]
        by_cases e : cl = 1
        · rw [if_pos e] at hm2; left; omega
        · rw [if_neg e] at hm2; right; exact ⟨e, by omega⟩
      rw [ha]
      have bz : decide (n ≤ m) = true := decide_eq_true hz
      clear h hm ha hn hm2 hn0 hr0 hz
      go_enter Try.func58, Try.ntmps58
      go_wp2_with fail
      refine HM.out.mono ?_
      rintro e w2 ⟨rfl, e2⟩
      subst w2
      go_wp2_with fail
      refine HY.out.mono ?_
      rintro e w2 ⟨rfl, e2⟩
      subst w2
      go_wp2_with fail
      refine HC.out.mono ?_
      rintro e w2 ⟨rfl, g2⟩
      have H2 := Lib.hid (HR.out.stay' g2)
      have HK2 := Lib.hid (HKp.out w2 g2)
      clear g2
      go_wp2_with fail
      refine HK2.out.mono ?_
      rintro e w3 ⟨rfl, e2⟩
      subst w3
      go_wp2_with fail
      go_ret2
      exact ⟨rfl, H2.out⟩
    · have hnz : n ≠ 0 := fun e => by
        apply hz
        by_cases e1 : cl = 1
        · rw [if_pos e1] at hm2; omega
        · rw [if_neg e1] at hm2; omega
      have hq : ¬ (n = 0 ∨ cl ≠ 1 ∧ n ≤ rs) := by
        rintro (q | ⟨q1, q2⟩)
        · exact hnz q
        · rw [if_neg q1] at hm2; omega
      have ht : takeF rs xs cl ow ix = takeAt xs cl ow ix (freeAt xs) := by
        unfold takeF
        rw [if_neg (not_not_intro hm), if_neg (by rw [hn]; exact hq)]
      obtain ⟨k, hk⟩ : ∃ k, freeAt xs = some k := by
        cases hf : freeAt xs with
        | some k => exact ⟨k, rfl⟩
        | none => exact absurd (hn.symm.trans (count_free.2 hf)) hnz
      have hklt : k < xs.length := by
        unfold freeAt at hk
        rw [List.findIdx?_eq_some_iff_getElem] at hk
        exact hk.1
      rw [hk] at ht
      have ha : takeF rs xs cl ow ix = ⟨k, 0, xs.set k ⟨cl, ow, ix, 0, 0⟩⟩ := ht
      rw [ha]
      have bz : decide (n ≤ m) = false := decide_eq_false hz
      have HI := Lib.hid (fun w' (q : w.grownBy w' none) => idx_ok (h.grow q) hk)
      have HS := Lib.hid (fun w' (q : w.grownBy w' none) => (HR.out.grow q).left k ⟨cl, ow, ix, 0, 0⟩ hklt (good_new hm ho hi))
      have hl1 := h.len1
      obtain ⟨x, hx⟩ : ∃ x, xs[k]? = some x := ⟨_, List.getElem?_eq_getElem hklt⟩
      have HX := Lib.hid hx
      clear h hm ha hn hm2 hn0 hr0 hz hk ht hq hnz ho hi hx
      go_enter Try.func58, Try.ntmps58
      go_wp2_with fail
      refine HM.out.mono ?_
      rintro e w2 ⟨rfl, e2⟩
      subst w2
      go_wp2_with fail
      refine HY.out.mono ?_
      rintro e w2 ⟨rfl, e2⟩
      subst w2
      go_wp2_with fail
      refine HC.out.mono ?_
      rintro e w2 ⟨rfl, g2⟩
      have HG2 := Lib.hid g2
      have HK2 := Lib.hid (HKp.out w2 g2)
      obtain ⟨c0, c1⟩ := (HR.out.grow g2).at
      clear g2
      go_wp2_with fail
      refine HK2.out.mono ?_
      rintro e w3 ⟨rfl, e2⟩
      subst w3
      go_wp2_with fail
      refine (HI.out _ HG2.out).mono ?_
      rintro e w4 ⟨rfl, g4⟩
      have HG4 := Lib.hid (grown_trans HG2.out g4)
      obtain ⟨d0, d1⟩ := (HR.out.grow HG4.out).at
      obtain ⟨f0, f1, f2, f3, f4⟩ := (HR.out.grow HG4.out).fr HX.out
      obtain ⟨cur, hcur, _⟩ := (HR.out.grow HG4.out).cur
      have z0 := frozen_of_row w4 g (k * 5) _ _ hcur
      have z1 := frozen_of_row w4 g (k * 5 + 1) _ _ hcur
      have z2 := frozen_of_row w4 g (k * 5 + 2) _ _ hcur
      have z3 := frozen_of_row w4 g (k * 5 + 3) _ _ hcur
      have z4 := frozen_of_row w4 g (k * 5 + 4) _ _ hcur
      clear g4 hcur
      go_wp2_with fail
      go_ret2
      obtain ⟨O', p1, p2, p3⟩ := HS.out w4 HG4.out
      exact ⟨rfl, O', p1, (Turn.grown HG4.out).trans' p2, fun b hb => (p3 b hb).imp id fun q => Nat.le_trans HG4.out.size q⟩
  · have HY := Lib.hid (fr_may cl false (by rw [decide_eq_false hm]) w)
    have ha : takeF rs xs cl ow ix = ⟨0, 2, xs⟩ := by
      unfold takeF
      rw [if_pos hm]
    rw [ha]
    clear h hm ha
    go_enter Try.func58, Try.ntmps58
    go_wp2_with fail
    refine HM.out.mono ?_
    rintro e w2 ⟨rfl, e2⟩
    subst w2
    go_wp2_with fail
    refine HY.out.mono ?_
    rintro e w2 ⟨rfl, e2⟩
    subst w2
    go_wp2_with fail
    go_ret2
    exact ⟨rfl, HR.out.stay⟩
end
end Go.Proofs.Ytlieommbomjdaaa

namespace Go.Proofs.Ytlieommbomjdaaa
open Go.ChangeShapes Go.WideShapes Go.ChangeAt Go.RowKit Go.Deep
set_option linter.unusedVariables false

section
variable {w : World} {r g c : Nat} {rs : Int} {xs : List FrV}

set_option maxHeartbeats 1000000 in
theorem change_walk (gf : Nat) (cap : Array Value) (eg : ∀ args w, (callFunc gf args).run Try.prog w = .ok (.enter gf args) w) (h : FP w r rs xs g c) (fr : Int) (f : FrV → Int × FrV)
    (HC : ∀ (k : Nat) x, fr = k → xs[k]? = some x → x.cl ≠ 0 → Calls Try.prog gf (#[.pointer (some ⟨g, k * 5, none⟩)] ++ cap) w fun e w' => e = .returned (.int .i64 (f x).1) ∧ FLeft PP w w' r rs [r, g] (xs.set k (f x).2)) :
    Calls Try.prog 74 #[.pointer (some ⟨r, 0, none⟩), .int .i64 fr, .func (.func gf) #[] cap] w fun e w' => e = .returned (.int .i64 (atF xs fr f).e) ∧ FLeft PP w w' r rs [r, g] (atF xs fr f).xs := by
  have HR := Lib.hid h
  have HM := Lib.hid (fr_made h)
  obtain ⟨c0, c1⟩ := h.at
  by_cases hc : 0 ≤ fr ∧ fr < xs.length
  · obtain ⟨k, rfl⟩ := Int.eq_ofNat_of_zero_le hc.1
    have hk : k < xs.length := by omega
    obtain ⟨x, hx⟩ : ∃ x, xs[k]? = some x := ⟨_, List.getElem?_eq_getElem hk⟩
    have HH := Lib.hid (fr_has h k true (by rw [decide_eq_true hc]))
    obtain ⟨f0, f1, f2, f3, f4⟩ := h.fr hx
    have hg := zero_iff (h.good x (List.mem_of_getElem? hx))
    have hl1 := h.len1
    by_cases h0 : x.cl = 0
    · rw [show atF xs k f = ⟨0, 2, xs⟩ from atF_free hx h0]
      have hd : decide (x.cl = 0 ∧ x.ow = 0 ∧ x.ix = 0 ∧ x.wi = 0 ∧ x.lo = 0) = true := decide_eq_true (hg.2 h0)
      have hq : ∀ wx : World, (binOp .eql 99 (.agg #[.int .i64 x.cl, .int .i64 x.ow, .int .i64 x.ix, .int .i64 x.wi, .int .i64 x.lo]) (.agg #[.int .i64 0, .int .i64 0, .int .i64 0, .int .i64 0, .int .i64 0])).run Try.prog wx = .ok (.bool true) wx := fun wx => by rw [eql_zero_r, hd]
      clear h HC hc hx hg h0 hd
      go_enter Try.func74, Try.ntmps74
      go_wp2_with fail
      refine HM.out.mono ?_
      rintro e w2 ⟨rfl, e2⟩
      subst w2
      go_wp2_with fail
      refine HH.out.mono ?_
      rintro e w2 ⟨rfl, e2⟩
      subst w2
      go_wp2_with fail
      go_ret
      exact ⟨rfl, HR.out.stay⟩
    · rw [show atF xs k f = ⟨0, (f x).1, xs.set k (f x).2⟩ from atF_at hx h0]
      have hd : decide (x.cl = 0 ∧ x.ow = 0 ∧ x.ix = 0 ∧ x.wi = 0 ∧ x.lo = 0) = false := decide_eq_false (fun q => h0 q.1)
      have hq : ∀ wx : World, (binOp .eql 99 (.agg #[.int .i64 x.cl, .int .i64 x.ow, .int .i64 x.ix, .int .i64 x.wi, .int .i64 x.lo]) (.agg #[.int .i64 0, .int .i64 0, .int .i64 0, .int .i64 0, .int .i64 0])).run Try.prog wx = .ok (.bool false) wx := fun wx => by rw [eql_zero_r, hd]
      have HC2 := Lib.hid (HC k x rfl hx h0)
      clear h HC hc hx hg h0 hd
      go_enter Try.func74, Try.ntmps74
      go_wp2_with fail
      refine HM.out.mono ?_
      rintro e w2 ⟨rfl, e2⟩
      subst w2
      go_wp2_with fail
      refine HH.out.mono ?_
      rintro e w2 ⟨rfl, e2⟩
      subst w2
      go_wp2_with (go_at_fn gf; refine HC2.out.mono ?_; rintro e w3 ⟨rfl, h3⟩; have H3 := Lib.hid h3; clear h3)
      go_ret
      exact ⟨rfl, H3.out⟩
  · have HH := Lib.hid (fr_has h fr false (by rw [decide_eq_false hc]))
    rw [show atF xs fr f = ⟨0, 7, xs⟩ from atF_out hc]
    clear h HC hc
    go_enter Try.func74, Try.ntmps74
    go_wp2_with fail
    refine HM.out.mono ?_
    rintro e w2 ⟨rfl, e2⟩
    subst w2
    go_wp2_with fail
    refine HH.out.mono ?_
    rintro e w2 ⟨rfl, e2⟩
    subst w2
    go_wp2_with fail
    go_ret
    exact ⟨rfl, HR.out.stay⟩

/-- A change that leaves the frame as it is. -/
theorem FP.same (h : FP w r rs xs g c) {w' : World} (q : w.grownBy w' none) {k : Nat} {x : FrV} (hx : xs[k]? = some x) : FLeft PP w w' r rs [r, g] (xs.set k x) := by
  rw [set_self hx]
  exact h.stay' q

end
end Go.Proofs.Ytlieommbomjdaaa

namespace Go.Proofs.Ytlieommbomjdaaa
open Go.ChangeShapes Go.WideShapes Go.ChangeAt Go.RowKit Go.Deep
set_option linter.unusedVariables false

section
variable {w : World} {r g c : Nat} {rs : Int} {xs : List FrV}
/-! ### Give -/
def giveX (x : FrV) : Int × FrV := if x.wi ≠ 0 ∨ x.lo ≠ 0 then (8, x) else (0, zeroF)
set_option maxHeartbeats 1000000 in
theorem give_fn (h : FP w r rs xs g c) {k : Nat} {x : FrV} (hx : xs[k]? = some x) :
    Calls Try.prog 75 (#[.pointer (some ⟨g, k * 5, none⟩)] ++ #[]) w fun e w' => e = .returned (.int .i64 (giveX x).1) ∧ FLeft PP w w' r rs [r, g] (xs.set k (giveX x).2) := by
  show Calls Try.prog 75 #[.pointer (some ⟨g, k * 5, none⟩)] w _
  obtain ⟨f0, f1, f2, f3, f4⟩ := h.fr hx
  by_cases hw : x.wi = 0
  · have b1 : (x.wi != 0) = false := by simpa using hw
    by_cases hl : x.lo = 0
    · have b2 : (x.lo != 0) = false := by simpa using hl
      have ha : giveX x = (0, zeroF) := if_neg (by rintro (q | q) <;> contradiction)
      rw [ha]
      obtain ⟨cur, hcur, _⟩ := h.cur
      have z0 := frozen_of_row w g (k * 5) _ _ hcur
      have z1 := frozen_of_row w g (k * 5 + 1) _ _ hcur
      have z2 := frozen_of_row w g (k * 5 + 2) _ _ hcur
      have z3 := frozen_of_row w g (k * 5 + 3) _ _ hcur
      have z4 := frozen_of_row w g (k * 5 + 4) _ _ hcur
      have hS := h.left k zeroF (List.getElem?_eq_some_iff.1 hx).1 good_zero
      unfold zeroF at hS ⊢
      simp only at hS ⊢
      have HS := Lib.hid hS
      clear hS
      clear h hx hw hl ha hcur
      go_enter Try.func75, Try.ntmps75
      go_wp2_with fail
      go_ret
      exact ⟨rfl, HS.out⟩
    · have b2 : (x.lo != 0) = true := by simpa using hl
      have ha : giveX x = (8, x) := if_pos (.inr hl)
      rw [ha]
      have HS := Lib.hid (h.same (grown_refl _ _) hx)
      clear h hx hw hl ha
      go_enter Try.func75, Try.ntmps75
      go_wp2_with fail
      go_ret
      exact ⟨rfl, HS.out⟩
  · have b1 : (x.wi != 0) = true := by simpa using hw
    have ha : giveX x = (8, x) := if_pos (.inl hw)
    rw [ha]
    have HS := Lib.hid (h.same (grown_refl _ _) hx)
    clear h hx hw ha
    go_enter Try.func75, Try.ntmps75
    go_wp2_with fail
    go_ret
    exact ⟨rfl, HS.out⟩
theorem fr_give (h : FP w r rs xs g c) (fr : Int) :
    Calls Try.prog 44 #[.pointer (some ⟨r, 0, none⟩), .int .i64 fr] w fun e w' => e = .returned (.int .i64 (giveF xs fr).e) ∧ FLeft PP w w' r rs [r, g] (giveF xs fr).xs := by
  have HC := Lib.hid (change_walk 75 #[] (enters_of Try.func75 (by kernel_rfl) rfl) h fr giveX fun k x _ hx _ => give_fn h hx)
  clear h
  go_enter Try.func44, Try.ntmps44
  go_wp2_with fail
  refine HC.out.mono ?_
  rintro e w2 ⟨rfl, h2⟩
  have H2 := Lib.hid h2
  clear h2
  go_wp2_with fail
  go_ret
  exact ⟨rfl, H2.out⟩
end
end Go.Proofs.Ytlieommbomjdaaa
