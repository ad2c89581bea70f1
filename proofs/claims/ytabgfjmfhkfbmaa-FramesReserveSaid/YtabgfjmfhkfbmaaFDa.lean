/- Package frames: what a pool is; New, made, has, mayTake, keptFrom, Count, Free, Get. -/
import Derived.Test.YtabgfjmfhkfbmaaFOk
namespace Go.Proofs.Ytabgfjmfhkfbmaa
open Go.ChangeShapes Go.WideShapes Go.ChangeAt Go.RowKit Go.Deep
set_option linter.unusedVariables false

/-- A pool: block r, its row in block g. -/
structure FP (w : World) (r : Nat) (rs : Int) (xs : List FrV) (g c : Nat) : Prop where
  head : w.heap[r]? = some (.cells #[.slice (some ⟨g, 0, none⟩) xs.length c, .int .i64 rs] 52 (0, 0))
  row : w.ownsRow 0 36 5 (.slice (some ⟨g, 0, none⟩) xs.length c) xs.length (xs.flatMap frCells)
  len0 : 1 ≤ xs.length
  len1 : xs.length ≤ 256
  rs0 : 0 ≤ rs
  rs1 : rs ≤ xs.length
  good : Goods xs

section
variable {w w' : World} {r g c : Nat} {rs : Int} {xs : List FrV}
theorem FP.rlt (h : FP w r rs xs g c) : r < w.heap.size := (Array.getElem?_eq_some_iff.1 h.head).1
theorem FP.glt (h : FP w r rs xs g c) : g < w.heap.size := (h.row.lt g rfl).2
theorem FP.cur (h : FP w r rs xs g c) : ∃ cur, w.heap[g]? = some (.cells cur 36 (0, 0)) ∧ xs.length ≤ c ∧ cur.size = c * 5 ∧ cur.toList.take (xs.length * 5) = xs.flatMap frCells := by
  rcases h.row.2 with ⟨e, _⟩ | ⟨g', c', cur, e, _, h2, h3, _, h4, h5⟩
  · cases e
  · simp only [Value.slice.injEq, Option.some.injEq, Addr.mk.injEq] at e
    obtain ⟨⟨rfl, _⟩, _, rfl⟩ := e
    exact ⟨cur, h2, h3, h4, h5⟩
theorem FP.ne (h : FP w r rs xs g c) : g ≠ r := fun e => by
  obtain ⟨cur, h1, _⟩ := h.cur
  have := h.head.symm.trans (e ▸ h1)
  simp at this
theorem FP.kept (h : FP w r rs xs g c) (hb : ∀ b, b ∈ [r, g] → w'.heap[b]? = w.heap[b]?) : FP w' r rs xs g c := by
  refine ⟨(hb r (by simp)).trans h.head, ⟨h.row.1, ?_⟩, h.len0, h.len1, h.rs0, h.rs1, h.good⟩
  rcases h.row.2 with ⟨e, _⟩ | ⟨g', c', cur, e, h1, h2, h3⟩
  · cases e
  · refine .inr ⟨g', c', cur, e, h1, (hb g' ?_).trans h2, h3⟩
    simp only [Value.slice.injEq, Option.some.injEq, Addr.mk.injEq] at e
    simp [e.1.1]
theorem FP.lt (h : FP w r rs xs g c) : ∀ b, b ∈ [r, g] → b < w.heap.size := by
  intro b hb
  simp at hb
  rcases hb with rfl | rfl
  · exact h.rlt
  · exact h.glt
theorem FP.grow (h : FP w r rs xs g c) (k : w.grownBy w' none) : FP w' r rs xs g c := h.kept fun b hb => k.block b (h.lt b hb) (by simp)
theorem FP.turn {O : List Nat} (h : FP w r rs xs g c) (k : Turn O w w') (ho : ∀ b, b ∈ [r, g] → b ∉ O) : FP w' r rs xs g c := h.kept fun b hb => k.block b (h.lt b hb) (ho b hb)
theorem FP.at (h : FP w r rs xs g c) : w.cell? ⟨r, 0, none⟩ = some (.slice (some ⟨g, 0, none⟩) xs.length c) ∧ w.cell? ⟨r, 1, none⟩ = some (.int .i64 rs) := ⟨by rw [cell_of_row _ _ _ _ _ _ h.head]; rfl, by rw [cell_of_row _ _ _ _ _ _ h.head]; rfl⟩
/-- The cells of one frame. -/
theorem FP.fr (h : FP w r rs xs g c) {j : Nat} {x : FrV} (hx : xs[j]? = some x) : w.cell? ⟨g, j * 5, none⟩ = some (.int .i64 x.cl) ∧ w.cell? ⟨g, j * 5 + 1, none⟩ = some (.int .i64 x.ow) ∧ w.cell? ⟨g, j * 5 + 2, none⟩ = some (.int .i64 x.ix) ∧ w.cell? ⟨g, j * 5 + 3, none⟩ = some (.int .i64 x.wi) ∧ w.cell? ⟨g, j * 5 + 4, none⟩ = some (.int .i64 x.lo) := by
  have key : ∀ q u, (frCells x)[q]? = some u → w.cell? ⟨g, j * 5 + q, none⟩ = some u := fun q u hq => by
    have h1 := h.row.cells (g := g) rfl _ u (flat_at frCells 5 fr_len xs j x hx q u hq)
    rw [Addr.add_lit, Nat.zero_add] at h1
    exact h1
  exact ⟨key 0 _ rfl, key 1 _ rfl, key 2 _ rfl, key 3 _ rfl, key 4 _ rfl⟩
end

/-- One frame of the row is another one. -/
theorem FP.set {w : World} {r g c : Nat} {rs : Int} {xs : List FrV} (h : FP w r rs xs g c) (i : Nat) (y : FrV) (hi : i < xs.length) (hy : GoodF y) :
    FP (((((w.setCell ⟨g, i * 5, none⟩ (.int .i64 y.cl)).setCell ⟨g, i * 5 + 1, none⟩ (.int .i64 y.ow)).setCell ⟨g, i * 5 + 2, none⟩ (.int .i64 y.ix)).setCell ⟨g, i * 5 + 3, none⟩ (.int .i64 y.wi)).setCell ⟨g, i * 5 + 4, none⟩ (.int .i64 y.lo)) r rs (xs.set i y) g c := by
  have ho : ∀ (W : World) (o : Nat) (v : Value), (W.setCell ⟨g, o, none⟩ v).heap[r]? = W.heap[r]? := fun W o v => heap_setCell_other W _ r v (by first | exact h.ne | exact h.ne.symm)
  refine ⟨by rw [ho, ho, ho, ho, ho, List.length_set]; exact h.head, ?_, by rw [List.length_set]; exact h.len0, by rw [List.length_set]; exact h.len1, h.rs0, by rw [List.length_set]; exact h.rs1, h.good.set i hy⟩
  have hl := flat_len frCells 5 fr_len (xs.set i y)
  rw [List.length_set] at hl
  rcases h.row.2 with ⟨e, _⟩ | ⟨g', cap, cur, hsl, hb, hg, h1, h2, h3, ht⟩
  · cases e
  · simp only [Value.slice.injEq, Option.some.injEq, Addr.mk.injEq] at hsl
    obtain ⟨⟨rfl, _⟩, _, rfl⟩ := hsl
    have g0 := heap_setCell_same w g (i * 5) _ _ (.int .i64 y.cl) hg
    have g1 := heap_setCell_same _ g (i * 5 + 1) _ _ (.int .i64 y.ow) g0
    have g2 := heap_setCell_same _ g (i * 5 + 2) _ _ (.int .i64 y.ix) g1
    have g3 := heap_setCell_same _ g (i * 5 + 3) _ _ (.int .i64 y.wi) g2
    have g4 := heap_setCell_same _ g (i * 5 + 4) _ _ (.int .i64 y.lo) g3
    refine ⟨by rw [List.length_set]; exact hl, .inr ⟨g, c, _, by rw [List.length_set], hb, g4, by rw [List.length_set]; exact h1, h2, by simp [h3], ?_⟩⟩
    rw [flat_set5 xs i y hi, ← ht, List.length_set]
    simp only [Array.toList_setIfInBounds, List.take_set]

theorem info_ffr : (Try.prog.info? 36).map (fun i => (i.zero, i.size, i.bytes)) = some (some (.agg #[.int .i64 0, .int .i64 0, .int .i64 0, .int .i64 0, .int .i64 0]), 5, 40) := by kernel_rfl
theorem fr_new_ok (n : Nat) (rs : Int) (w : World) (h1 : 1 ≤ n) (h2 : n ≤ 256) (h3 : 0 ≤ rs) (h4 : rs ≤ n) :
    Calls Try.prog 8 #[.int .i64 n, .int .i64 rs] w fun e w' => ∃ r g c, e = .returned (.pointer (some ⟨r, 0, none⟩)) ∧ FP w' r rs (List.replicate n zeroF) g c ∧ w.grownBy w' none ∧ ∀ b, b ∈ [r, g] → w.heap.size ≤ b := by
  have hmk : (Instr.makeSlice 50 (.int .i64 (n : Int)) (.int .i64 (n : Int))).run Try.prog w = .ok (.slice (some ⟨w.heap.size, 0, none⟩) n n) (w.alloc (.cells (madeCells zeroCs (n * 5)) 36)) := by
    obtain ⟨i0, hi, hz0, hz1, hz2⟩ := info_parts info_ffr
    have hr := run_make (P := Try.prog) w 50 36 i0 _ Try.underlying50 hi hz0 .i64 .i64 (n : Int) (n : Int) (by omega) (by omega) (by rw [hz2]; omega) (by omega)
    rw [hr, Int.toNat_natCast, hz1]
    rfl
  obtain ⟨X, hX⟩ : ∃ X, X = madeCells zeroCs (n * 5) := ⟨_, rfl⟩
  have hXl : X.toList = (List.replicate n zeroF).flatMap frCells := by rw [hX]; exact made_zeroF n
  have hXs : X.size = n * 5 := by rw [hX]; unfold madeCells; simp
  rw [← hX] at hmk
  have ga := World.grownBy_alloc w (.cells X 36 (0, 0)) none
  have gb := grown_trans ga (World.grownBy_alloc (w.alloc (.cells X 36 (0, 0))) (.cells #[.slice (some ⟨w.heap.size, 0, none⟩) n n, .int .i64 rs] 52 (0, 0)) none)
  have hb := heap_alloc_new (w.alloc (.cells X 36 (0, 0))) (.cells #[.slice (some ⟨w.heap.size, 0, none⟩) n n, .int .i64 rs] 52 (0, 0))
  rw [World.size_alloc] at hb
  have hg := (World.grownBy_alloc (w.alloc (.cells X 36 (0, 0))) (.cells #[.slice (some ⟨w.heap.size, 0, none⟩) n n, .int .i64 rs] 52 (0, 0)) none).block w.heap.size (by simp) (by simp) |>.trans (heap_alloc_new w _)
  have HP := Lib.hid (show FP _ (w.heap.size + 1) rs (List.replicate n zeroF) w.heap.size n from
    ⟨by rw [List.length_replicate]; exact hb, ⟨by rw [flat_len frCells 5 fr_len], .inr ⟨w.heap.size, n, X, rfl, Nat.zero_le _, hg, by rw [List.length_replicate]; exact Nat.le_refl _, by unfold maxLen; omega, hXs, by rw [List.length_replicate, ← hXl, List.take_of_length_le (by simp [hXs])]⟩⟩, by rw [List.length_replicate]; exact h1, by rw [List.length_replicate]; exact h2, h3, by rw [List.length_replicate]; exact h4, goods_new n⟩)
  have HG := Lib.hid gb
  have d0 : decide ((n : Int) < 1) = false := by simp; omega
  have d1 : decide ((n : Int) > 256) = false := by simp; omega
  have d2 : decide (rs < 0) = false := by simp; omega
  have d3 : decide (rs > (n : Int)) = false := by simp; omega
  clear hX hXl hXs ga gb hb hg
  go_enter Try.func8, Try.ntmps8
  go_wp2_with fail
  go_ret
  exact ⟨w.heap.size + 1, w.heap.size, n, rfl, HP.out, HG.out, by intro b hb; simp at hb; omega⟩

theorem fr_new_no (n rs : Int) (w : World) (h : ¬ (1 ≤ n ∧ n ≤ 256 ∧ 0 ≤ rs ∧ rs ≤ n)) :
    Calls Try.prog 8 #[.int .i64 n, .int .i64 rs] w fun e w' => e = .returned (.pointer none) ∧ w' = w := by
  rcases (show n < 1 ∨ (¬ n < 1 ∧ 256 < n) ∨ (¬ n < 1 ∧ ¬ 256 < n ∧ rs < 0) ∨ (¬ n < 1 ∧ ¬ 256 < n ∧ ¬ rs < 0 ∧ n < rs) by omega) with h1 | ⟨h1, h2⟩ | ⟨h1, h2, h3⟩ | ⟨h1, h2, h3, h4⟩
  all_goals
    clear h
    go_enter Try.func8, Try.ntmps8
    go_wp2_with fail
    go_ret
    exact ⟨rfl, rfl⟩

theorem neq_pool_nil (w : World) (a : Addr) : (binOp .neq 23 (.pointer (some a)) (.pointer none)).run Try.prog w = .ok (.bool true) w := by
  have h1 : ∀ d : Nat, (Op.equalIn (d + 1) 23 (.pointer (some a)) (.pointer none)).run Try.prog w = .ok false w := fun d => by
    simp [Op.equalIn, run_underlying Try.underlying23]
  simp only [binOp]
  simp [Op.equal, Op.maxDepth, h1 9999]
theorem neq_nil_nil (w : World) : (binOp .neq 23 (.pointer none) (.pointer none)).run Try.prog w = .ok (.bool false) w := by kernel_rfl

section
variable {w : World} {r g c : Nat} {rs : Int} {xs : List FrV}
theorem fr_made (h : FP w r rs xs g c) : Calls Try.prog 28 #[.pointer (some ⟨r, 0, none⟩)] w fun e w' => e = .returned (.bool true) ∧ w' = w := by
  obtain ⟨c0, c1⟩ := h.at
  have hq := neq_pool_nil
  have h0 := h.len0
  have hb : decide (0 < xs.length) = true := by simp; omega
  clear h
  go_enter Try.func28, Try.ntmps28
  go_wp2_with fail
  go_ret
  exact ⟨rfl, rfl⟩
theorem nil_made (w : World) : Calls Try.prog 28 #[.pointer none] w fun e w' => e = .returned (.bool false) ∧ w' = w := by
  have hq := neq_nil_nil
  go_enter Try.func28, Try.ntmps28
  go_wp2_with fail
  go_ret
  exact ⟨rfl, rfl⟩
theorem zero_made (h : w.heap[r]? = some (.cells #[.slice none 0 0, .int .i64 0] 52 (0, 0))) : Calls Try.prog 28 #[.pointer (some ⟨r, 0, none⟩)] w fun e w' => e = .returned (.bool false) ∧ w' = w := by
  have hq := neq_pool_nil
  have c0 : w.cell? ⟨r, 0, none⟩ = some (.slice none 0 0) := by rw [cell_of_row _ _ _ _ _ _ h]; rfl
  clear h
  go_enter Try.func28, Try.ntmps28
  go_wp2_with fail
  go_ret
  exact ⟨rfl, rfl⟩
theorem fr_has (h : FP w r rs xs g c) (fr : Int) (b : Bool) (hb : b = decide (0 ≤ fr ∧ fr < xs.length)) : Calls Try.prog 29 #[.pointer (some ⟨r, 0, none⟩), .int .i64 fr] w fun e w' => e = .returned (.bool b) ∧ w' = w := by
  obtain ⟨c0, c1⟩ := h.at
  have HM := Lib.hid (fr_made h)
  clear h
  by_cases h0 : 0 ≤ fr
  · by_cases h1 : fr < xs.length
    · rw [decide_eq_true ⟨h0, h1⟩] at hb
      subst hb
      go_enter Try.func29, Try.ntmps29
      go_wp2_with fail
      refine HM.out.mono ?_
      rintro e w2 ⟨rfl, rfl⟩
      go_wp2_with fail
      go_ret
      exact ⟨rfl, rfl⟩
    · rw [decide_eq_false (fun k => h1 k.2)] at hb
      subst hb
      have hb2 : decide (fr < (xs.length : Int)) = false := decide_eq_false h1
      go_enter Try.func29, Try.ntmps29
      go_wp2_with fail
      refine HM.out.mono ?_
      rintro e w2 ⟨rfl, rfl⟩
      go_wp2_with fail
      go_ret
      exact ⟨rfl, rfl⟩
  · rw [decide_eq_false (fun k => h0 k.1)] at hb
    subst hb
    go_enter Try.func29, Try.ntmps29
    go_wp2_with fail
    refine HM.out.mono ?_
    rintro e w2 ⟨rfl, rfl⟩
    go_wp2_with fail
    go_ret
    exact ⟨rfl, rfl⟩
theorem fr_may (cl : Int) (d : Bool) (hd : d = decide (isCls cl)) (w : World) : Calls Try.prog 31 #[.int .i64 cl] w fun e w' => e = .returned (.bool d) ∧ w' = w := by
  by_cases h2 : 1 ≤ cl
  · by_cases h3 : cl ≤ 4
    · rw [decide_eq_true (show isCls cl from ⟨h2, h3⟩)] at hd
      subst hd
      go_enter Try.func31, Try.ntmps31
      go_wp2_with fail
      go_ret
      exact ⟨rfl, rfl⟩
    · rw [decide_eq_false (fun k : isCls cl => h3 k.2)] at hd
      subst hd
      go_enter Try.func31, Try.ntmps31
      go_wp2_with fail
      go_ret
      exact ⟨rfl, rfl⟩
  · rw [decide_eq_false (fun k : isCls cl => h2 k.1)] at hd
    subst hd
    go_enter Try.func31, Try.ntmps31
    go_wp2_with fail
    go_ret
    exact ⟨rfl, rfl⟩
theorem fr_kept (h : FP w r rs xs g c) (cl : Int) : Calls Try.prog 32 #[.pointer (some ⟨r, 0, none⟩), .int .i64 cl] w fun e w' => e = .returned (.int .i64 (if cl = 1 then 0 else rs)) ∧ w' = w := by
  obtain ⟨c0, c1⟩ := h.at
  clear h
  by_cases h1 : cl = 1
  · rw [if_pos h1]
    have b1 : (cl == 1) = true := by simpa using h1
    clear h1
    go_enter Try.func32, Try.ntmps32
    go_wp2_with fail
    go_ret
    exact ⟨rfl, rfl⟩
  · rw [if_neg h1]
    have b1 : (cl == 1) = false := by simpa using h1
    clear h1
    go_enter Try.func32, Try.ntmps32
    go_wp2_with fail
    go_ret
    exact ⟨rfl, rfl⟩

theorem fr_count (h : FP w r rs xs g c) (cl : Int) : Calls Try.prog 15 #[.pointer (some ⟨r, 0, none⟩), .int .i64 cl] w fun e w' => e = .returned (.int .i64 (countF xs cl)) ∧ w.grownBy w' none := by
  obtain ⟨c0, c1⟩ := h.at
  have hl := h.len1
  have HR := Lib.hid h
  have HM := Lib.hid (fr_made h)
  clear h
  go_enter Try.func15, Try.ntmps15
  go_wp2_with fail
  refine HM.out.mono ?_
  rintro e w2 ⟨rfl, e2⟩
  subst w2
  go_wp2_with fail
  go_loopw [5, 7, 16] (fun nv _ iv wr => ∃ (j : Nat) (k : Int), j ≤ xs.length ∧ iv = .int .i64 j ∧ nv = .int .i64 k ∧ 0 ≤ k ∧ k ≤ j ∧ Hid (k = countF (xs.take j) cl) ∧ Hid (w.grownBy wr none)) (fun _ _ iv _ => xs.length - (intOf iv).toNat)
  case atStart => exact ⟨0, 0, by omega, rfl, rfl, by omega, by omega, rfl, grown_refl _ _⟩
  case round =>
    obtain ⟨j, k, hj, rfl, rfl, hk0, hk1, HKj, HG⟩ := hrel
    by_cases hlt : j < xs.length
    · obtain ⟨x, hx⟩ : ∃ x, xs[j]? = some x := ⟨_, List.getElem?_eq_getElem hlt⟩
      obtain ⟨f0, f1, f2, f3, f4⟩ := (HR.out.grow HG.out).fr hx
      have hn := count_take hx cl
      have HG2 := Lib.hid (grown_trans HG.out (World.grownBy_alloc wr (.cells #[.int .i64 x.cl, .int .i64 x.ow, .int .i64 x.ix, .int .i64 x.wi, .int .i64 x.lo] 36 (0, 0)) none))
      obtain ⟨b0, _⟩ := (FrB.new wr 36 x).at
      obtain ⟨xc, xo, xi, xw, xl⟩ := x
      simp only at *
      by_cases hc : xc = cl
      · rw [if_pos hc] at hn
        have hb : (xc == cl) = true := by simpa using hc
        have HN := Lib.hid hn
        clear hn hc hx
        go_wp2_with fail
        go_roundw
        case rel => exact ⟨j + 1, k + 1, by omega, by go_num, rfl, by omega, by omega, by show k + 1 = _; rw [HN.out, ← HKj.out], HG2⟩
        case measure => simp [intOf]; omega
      · rw [if_neg hc, Int.add_zero] at hn
        have hb : (xc == cl) = false := by simpa using hc
        have HN := Lib.hid hn
        clear hn hc hx
        go_wp2_with fail
        go_roundw
        case rel => exact ⟨j + 1, k, by omega, by go_num, rfl, by omega, by omega, by show k = _; rw [HN.out, ← HKj.out], HG2⟩
        case measure => simp [intOf]; omega
    · obtain rfl : j = xs.length := by omega
      have hk := HKj.out
      rw [List.take_of_length_le (Nat.le_refl _)] at hk
      have HK2 := Lib.hid hk
      clear hk
      go_wp2_with fail
      go_ret
      exact ⟨by rw [← HK2.out]; rfl, HG.out⟩

theorem fr_free (h : FP w r rs xs g c) : Calls Try.prog 13 #[.pointer (some ⟨r, 0, none⟩)] w fun e w' => e = .returned (.int .i64 (countF xs 0)) ∧ w.grownBy w' none := by
  have HC := Lib.hid (fr_count h 0)
  clear h
  go_enter Try.func13, Try.ntmps13
  go_wp2_with fail
  refine HC.out.mono ?_
  rintro e w2 ⟨rfl, g2⟩
  have HG := Lib.hid g2
  clear g2
  go_wp2_with fail
  go_ret
  exact ⟨rfl, HG.out⟩

theorem fr_get (h : FP w r rs xs g c) (fr : Int) : Calls Try.prog 16 #[.pointer (some ⟨r, 0, none⟩), .int .i64 fr] w fun e w' => e = .returned (getV (getF xs fr)) ∧ w.grownBy w' none := by
  have ga := World.grownBy_alloc w (.cells #[.int .i64 0, .int .i64 0, .int .i64 0, .int .i64 0, .int .i64 0] 36 (0, 0)) none
  have hA := h.grow ga
  have hB := FrB.new w 36 zeroF
  unfold zeroF at hB
  simp only at hB
  generalize hwA : w.alloc (.cells #[.int .i64 0, .int .i64 0, .int .i64 0, .int .i64 0, .int .i64 0] 36 (0, 0)) = wA at *
  obtain ⟨c0, c1⟩ := hA.at
  obtain ⟨b0, b1, b2, b3, b4⟩ := hB.at
  obtain ⟨z0, z1, z2, z3, z4⟩ := hB.frozen
  have HB := Lib.hid hB
  have HG := Lib.hid ga
  by_cases hc : 0 ≤ fr ∧ fr < xs.length
  · obtain ⟨k, rfl⟩ := Int.eq_ofNat_of_zero_le hc.1
    have hk : k < xs.length := by omega
    obtain ⟨x, hx⟩ : ∃ x, xs[k]? = some x := ⟨_, List.getElem?_eq_getElem hk⟩
    have HI := Lib.hid (fr_has hA k true (by rw [decide_eq_true hc]))
    have hget : getF xs k = some x := by unfold getF; rw [if_pos hc, Int.toNat_natCast]; exact hx
    rw [hget]
    obtain ⟨f0, f1, f2, f3, f4⟩ := hA.fr hx
    clear ga hA hB h hc hget hx
    obtain ⟨xc, xo, xi, xw, xl⟩ := x
    simp only at *
    unfold getV frAgg
    simp only
    go_enter Try.func16, Try.ntmps16
    go_wp2_with fail
    refine HI.out.mono ?_
    rintro e w2 ⟨rfl, rfl⟩
    go_wp2_with fail
    refine bodyPost_ret (results_pair_tmp rfl _ _ w.heap.size _ #[.int .i64 xc, .int .i64 xo, .int .i64 xi, .int .i64 xw, .int .i64 xl] (0, 0) _ rfl (heap_five _ _ _ _ _ _ _ _ HB.out) Try.underlying36 (by kernel_rfl) (by kernel_rfl)) rfl ?_
    exact ⟨rfl, grown_at HG.out (grown_five _ _ _ _ _ _ _) (Nat.le_refl _)⟩
  · have HI := Lib.hid (fr_has hA fr false (by rw [decide_eq_false hc]))
    have hget : getF xs fr = none := by unfold getF; rw [if_neg hc]
    rw [hget]
    clear ga hA hB h hc hget
    unfold getV frAgg zeroF
    simp only
    go_enter Try.func16, Try.ntmps16
    go_wp2_with fail
    refine HI.out.mono ?_
    rintro e w2 ⟨rfl, rfl⟩
    go_wp2_with fail
    refine bodyPost_ret (results_pair_tmp rfl _ _ w.heap.size _ #[.int .i64 0, .int .i64 0, .int .i64 0, .int .i64 0, .int .i64 0] (0, 0) _ rfl (heap_five _ _ _ _ _ _ _ _ HB.out) Try.underlying36 (by kernel_rfl) (by kernel_rfl)) rfl ?_
    exact ⟨rfl, grown_at HG.out (grown_five _ _ _ _ _ _ _) (Nat.le_refl _)⟩
end
end Go.Proofs.Ytabgfjmfhkfbmaa
