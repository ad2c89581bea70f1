/- The document's layer 8: New, State, set, Give, Spoil, Count. -/
import Derived.Test.YthpjggghdaelbaaSDc
namespace Go.Proofs.Ythpjggghdaelbaa
open Go.ChangeShapes Go.WideShapes Go.ChangeAt Go.RowKit Go.Deep
set_option linter.unusedVariables false

def iv (x : Int) : Value := .int .i64 x
/-- Block g is a row of ints, and perhaps of spare places. -/
structure IRow (w : World) (g c : Nat) (L : List Int) : Prop where
  row : w.ownsRow 0 3 1 (.slice (some ⟨g, 0, none⟩) L.length c) L.length (L.map iv)
section
variable {w w' : World} {g c : Nat} {L : List Int}
theorem IRow.lt (h : IRow w g c L) : g < w.heap.size := (h.row.lt g rfl).2
theorem IRow.cur (h : IRow w g c L) : ∃ cur, w.heap[g]? = some (.cells cur 3 (0, 0)) ∧ L.length ≤ c ∧ cur.size = c ∧ cur.toList.take L.length = L.map iv ∧ c ≤ maxLen := by
  rcases h.row.2 with ⟨e, _⟩ | ⟨g', c', cur, e, _, h2, h3, h6, h4, h5⟩
  · cases e
  · simp only [Value.slice.injEq, Option.some.injEq, Addr.mk.injEq] at e
    obtain ⟨⟨rfl, _⟩, _, rfl⟩ := e
    exact ⟨cur, h2, h3, by rw [h4]; omega, by rw [← h5]; simp, h6⟩
theorem IRow.of (cur : Array Value) (hg : w.heap[g]? = some (.cells cur 3 (0, 0))) (h1 : L.length ≤ c) (h2 : cur.size = c) (h3 : cur.toList.take L.length = L.map iv) (h4 : c ≤ maxLen) : IRow w g c L :=
  ⟨by simp, .inr ⟨g, c, cur, rfl, Nat.zero_le _, hg, h1, h4, by rw [h2]; omega, by rw [← h3]; simp⟩⟩
theorem IRow.kept (h : IRow w g c L) (hb : w'.heap[g]? = w.heap[g]?) : IRow w' g c L := by
  obtain ⟨cur, h1, h2, h3, h4, h5⟩ := h.cur
  exact IRow.of cur (hb.trans h1) h2 h3 h4 h5
theorem IRow.at (h : IRow w g c L) {q : Nat} {x : Int} (hq : L[q]? = some x) : w.cell? ⟨g, q, none⟩ = some (.int .i64 x) ∧ w.frozen? ⟨g, q, none⟩ = false := by
  obtain ⟨cur, h1, h2, h3, h4, h5⟩ := h.cur
  refine ⟨?_, frozen_of_row _ _ _ _ _ h1⟩
  rw [cell_of_row _ _ _ _ _ _ h1, ← Array.getElem?_toList]
  have hlt := (List.getElem?_eq_some_iff.1 hq).1
  have h6 := congrArg (fun z => z[q]?) h4
  rw [List.getElem?_take, if_pos hlt, List.getElem?_map, hq] at h6
  exact h6
theorem IRow.set (h : IRow w g c L) (q : Nat) (x : Int) : IRow (w.setCell ⟨g, q, none⟩ (.int .i64 x)) g c (L.set q x) := by
  obtain ⟨cur, h1, h2, h3, h4, h5⟩ := h.cur
  refine IRow.of _ (heap_setCell_same w g q _ _ _ h1) (by rw [List.length_set]; exact h2) (by simpa using h3) ?_ h5
  rw [List.length_set, Array.toList_setIfInBounds, List.take_set, h4, List.map_set]
  rfl

theorem made_ints (n : Nat) : madeCells #[Value.int .i64 0] n = ((List.replicate n 0).map iv).toArray := by
  apply Array.ext
  · simp [madeCells]
  · intro i h1 h2
    simp [madeCells, iv, Nat.mod_one]
theorem run_make_ints (n : Nat) (hn : n ≤ 1000) (w : World) :
    (Instr.makeSlice 40 (.int .i64 (n : Int)) (.int .i64 (n : Int))).run Try.prog w = .ok (.slice (some ⟨w.heap.size, 0, none⟩) n n) (w.alloc (.cells ((List.replicate n 0).map iv).toArray 3)) := by
  have h := run_make_row' (P := Try.prog) 40 3 (.int .i64 0) 8 Try.underlying40 (by kernel_rfl) rfl .i64 .i64 n (by omega) (by omega) w
  rw [made_ints] at h
  exact h
theorem IRow.made (w : World) (n : Nat) (hn : n ≤ 1000) : IRow (w.alloc (.cells ((List.replicate n 0).map iv).toArray 3)) w.heap.size n (List.replicate n 0) :=
  IRow.of _ (heap_alloc_new w _) (by simp) (by simp) (by simp) (by unfold maxLen; omega)

/-- append([]int{}, l...). -/
theorem wpList_ints {ops : Array Oper} {rest : List Oper} {o : Oper} {a : Act} {Q : Exit → Act → World → Prop} {w : World} (hgd : o.guard = none) (x y : Operand)
    (hop : o.op = Op.call { callee := Callee.builtin Builtin.append, args := #[x, y], argTypes := #[40, 40] })
    {g b c : Nat} {xs : List Int} (hg : w.heap[g]? = some (.cells #[] 3 (0, 0))) (hx : a.eval x = .slice (some ⟨g, 0, none⟩) 0 0) (hy : a.eval y = .slice (some ⟨b, 0, none⟩) xs.length c)
    (hr : IRow w b c xs) (h0 : 1 ≤ xs.length) (hl : xs.length ≤ 256)
    (hK : ∀ g' c' w', g ≤ g' → IRow w' g' c' xs → w.grownBy w' (some g) → wpList Try.prog ops Q rest (a.put o.dst (.slice (some ⟨g', 0, none⟩) xs.length c')) w') :
    wpList Try.prog ops Q (o :: rest) a w := by
  have hglt := (Array.getElem?_eq_some_iff.1 hg).1
  obtain ⟨i0, hi, hz0, hz1, hz2⟩ := info_parts (show (Try.prog.info? 3).map (fun i => (i.zero, i.size, i.bytes)) = some (some (.int .i64 0), 1, 8) by kernel_rfl)
  have hown : w.ownsRow g 3 1 (.slice (some ⟨g, 0, none⟩) 0 0) 0 [] := ⟨rfl, .inr ⟨g, 0, #[], rfl, Nat.le_refl _, hg, Nat.le_refl _, by simp [maxLen], rfl, rfl⟩⟩
  refine wpList_plain hgd fun K hK' => ?_
  obtain ⟨g', cap, w', hrun, h2, h3, h4, h5⟩ := run_append_lies (P := Try.prog) w 40 o.type g 3 i0 (.int .i64 0) 1 8 Try.underlying40 hi hz0 hz1 hz2 rfl (by decide) _ 0 [] hown ⟨b, 0, none⟩ xs.length c (xs.map iv) (by simp)
    (hr.row.cells (g := b) rfl) (by intro u hu; obtain ⟨x, -, rfl⟩ := List.mem_map.1 hu; rfl) h0 (by unfold maxLen; omega) (by omega) (Nat.le_of_lt hglt) w.heap.size rfl
  rw [Nat.zero_add] at hrun h2
  rw [List.nil_append] at h2
  have hle := (World.ownsRow.lt h2 g' rfl).1
  have hrow : w'.ownsRow 0 3 1 (.slice (some ⟨g', 0, none⟩) xs.length cap) xs.length (xs.map iv) := by
    refine ⟨h2.1, ?_⟩
    rcases h2.2 with ⟨e, _⟩ | ⟨q, cp, cur, e, _, h6⟩
    · cases e
    · exact .inr ⟨q, cp, cur, e, Nat.zero_le _, h6⟩
  have hfin := hK g' cap w' hle ⟨hrow⟩ (by simpa [Value.ownBlock] using h3)
  unfold Oper.wp
  simp [execOp, hop, resolve, invoke, builtin, hx, hy, hrun, Result.andThen]
  exact hK' _ _ hfin
end

/-- The document's places: block q, its row in block g. -/
structure RS (w : World) (q : Nat) (L : List Int) (g c : Nat) : Prop where
  head : w.heap[q]? = some (.cells #[.slice (some ⟨g, 0, none⟩) L.length c] 49 (0, 0))
  row : IRow w g c L
  good : GoodL L
section
variable {w w' : World} {q g c : Nat} {L : List Int}
theorem RS.qlt (h : RS w q L g c) : q < w.heap.size := (Array.getElem?_eq_some_iff.1 h.head).1
theorem RS.ne (h : RS w q L g c) : g ≠ q := fun e => by
  obtain ⟨cur, h1, _⟩ := h.row.cur
  have := h.head.symm.trans (e ▸ h1)
  simp at this
theorem RS.kept (h : RS w q L g c) (hb : ∀ b, b ∈ [q, g] → w'.heap[b]? = w.heap[b]?) : RS w' q L g c := ⟨(hb q (by simp)).trans h.head, h.row.kept (hb g (by simp)), h.good⟩
theorem RS.lt (h : RS w q L g c) : ∀ b, b ∈ [q, g] → b < w.heap.size := by
  intro b hb
  simp at hb
  rcases hb with rfl | rfl
  · exact h.qlt
  · exact h.row.lt
theorem RS.grow (h : RS w q L g c) (k : w.grownBy w' none) : RS w' q L g c := h.kept fun b hb => k.block b (h.lt b hb) (by simp)
theorem RS.turn {O : List Nat} (h : RS w q L g c) (k : Turn O w w') (ho : ∀ b, b ∈ [q, g] → b ∉ O) : RS w' q L g c := h.kept fun b hb => k.block b (h.lt b hb) (ho b hb)
theorem RS.at (h : RS w q L g c) : w.cell? ⟨q, 0, none⟩ = some (.slice (some ⟨g, 0, none⟩) L.length c) ∧ w.frozen? ⟨q, 0, none⟩ = false := ⟨by rw [cell_of_row _ _ _ _ _ _ h.head]; rfl, frozen_of_row _ _ _ _ _ h.head⟩
/-- Behind a call. -/
def RLeft (w w' : World) (q : Nat) (L' : List Int) (g : Nat) : Prop := ∃ g' c', RS w' q L' g' c' ∧ Turn [q] w w' ∧ (g' = g ∨ w.heap.size ≤ g')
theorem RS.stay (h : RS w q L g c) : RLeft w w q L g := ⟨g, c, h, Turn.refl _ _, .inl rfl⟩

theorem rf_new_no (n : Int) (w : World) (h : ¬ (0 ≤ n ∧ n ≤ 256)) : Calls Try.prog 9 #[.int .i64 n] w fun e w' => e = .returned (.pointer none) ∧ w' = w := by
  rcases (show n < 0 ∨ (¬ n < 0 ∧ 256 < n) by omega) with h1 | ⟨h1, h2⟩
  all_goals
    clear h
    go_enter Try.func9, Try.ntmps9
    go_wp2_with fail
    go_ret
    exact ⟨rfl, rfl⟩
theorem rf_new_ok (n : Nat) (w : World) (hn : n ≤ 256) :
    Calls Try.prog 9 #[.int .i64 (n : Int)] w fun e w' => ∃ q g c, e = .returned (.pointer (some ⟨q, 0, none⟩)) ∧ RS w' q (List.replicate n 0) g c ∧ w.grownBy w' none ∧ ∀ b, b ∈ [q, g] → w.heap.size ≤ b := by
  have hmk := run_make_ints n (by omega) w
  have hm := IRow.made w n (by omega)
  have ga := World.grownBy_alloc w (.cells ((List.replicate n 0).map iv).toArray 3) none
  have hsz : (w.alloc (.cells ((List.replicate n 0).map iv).toArray 3)).heap.size = w.heap.size + 1 := World.size_alloc _ _
  generalize hwA : w.alloc (.cells ((List.replicate n 0).map iv).toArray 3) = wA at *
  have gb := World.grownBy_alloc wA (.cells #[.slice (some ⟨w.heap.size, 0, none⟩) n n] 49) none
  have hb := heap_alloc_new wA (.cells #[.slice (some ⟨w.heap.size, 0, none⟩) n n] 49)
  rw [hsz] at hb
  have HR := Lib.hid (show RS _ (w.heap.size + 1) (List.replicate n 0) w.heap.size n from ⟨by rw [List.length_replicate]; exact hb, hm.kept (gb.block _ hm.lt (by simp)), GoodL.new n hn⟩)
  have HG := Lib.hid (grown_trans ga gb)
  clear hm ga gb hb
  have d0 : decide ((n : Int) < 0) = false := decide_eq_false (by omega)
  have d1 : decide ((n : Int) > 256) = false := decide_eq_false (by omega)
  go_enter Try.func9, Try.ntmps9
  go_wp2_with fail
  go_ret
  exact ⟨w.heap.size + 1, w.heap.size, n, by rw [← hsz]; rfl, HR.out, HG.out, by intro b hb; simp at hb; omega⟩

theorem rf_state (h : RS w q L g c) (i : Int) : Calls Try.prog 20 #[.pointer (some ⟨q, 0, none⟩), .int .i64 i] w fun e w' => e = .returned (.int .i64 (stL L i)) ∧ w' = w := by
  obtain ⟨c0, f0⟩ := h.at
  by_cases h0 : i < 0
  · rw [stL_out (by omega)]
    have d0 : decide (i < 0) = true := decide_eq_true h0
    clear h h0
    go_enter Try.func20, Try.ntmps20
    go_wp2_with fail
    go_ret
    exact ⟨rfl, rfl⟩
  · have d0 : decide (i < 0) = false := decide_eq_false h0
    by_cases h1 : i ≥ (L.length : Int)
    · rw [stL_out (by omega)]
      have d1 : decide (i ≥ (L.length : Int)) = true := decide_eq_true h1
      clear h h0 h1
      go_enter Try.func20, Try.ntmps20
      go_wp2_with fail
      go_ret
      exact ⟨rfl, rfl⟩
    · obtain ⟨k, rfl⟩ := Int.eq_ofNat_of_zero_le (show 0 ≤ i by omega)
      have hk : k < L.length := by omega
      have d1 : decide ((k : Int) ≥ (L.length : Int)) = false := decide_eq_false h1
      have d2 : decide (L.length ≤ k) = false := decide_eq_false (by omega)
      have hl := h.good.len
      obtain ⟨c2, -⟩ := h.row.at (get_getD hk)
      rw [stL_in hk]
      clear h h0 h1
      generalize L.getD k 0 = x at *
      go_enter Try.func20, Try.ntmps20
      go_wp2_with fail
      go_ret
      exact ⟨rfl, rfl⟩

theorem rf_count (h : RS w q L g c) (s : Int) : Calls Try.prog 22 #[.pointer (some ⟨q, 0, none⟩), .int .i64 s] w fun e w' => e = .returned (.int .i64 (countL L s)) ∧ w' = w := by
  obtain ⟨c0, f0⟩ := h.at
  have H := Lib.hid h
  have hl := h.good.len
  clear h
  go_enter Try.func22, Try.ntmps22
  go_wp2_with fail
  go_loopw [5, 7, 13] (fun nv _ iv wr => ∃ (j : Nat) (k : Int), j ≤ L.length ∧ iv = .int .i64 j ∧ nv = .int .i64 k ∧ 0 ≤ k ∧ k ≤ j ∧ Hid (k = countL (L.take j) s) ∧ Hid (wr = w)) (fun _ _ iv _ => L.length - (intOf iv).toNat)
  case atStart => exact ⟨0, 0, by omega, rfl, rfl, by omega, by omega, rfl, rfl⟩
  case round =>
    obtain ⟨j, k, hj, rfl, rfl, hk0, hk1, HKj, hwr⟩ := hrel
    have hwr2 := hwr.out.symm
    subst hwr2
    by_cases hlt : j < L.length
    · obtain ⟨x, hx⟩ : ∃ x, L[j]? = some x := ⟨_, List.getElem?_eq_getElem hlt⟩
      obtain ⟨cx, -⟩ := H.out.row.at hx
      have hn := count_take hx s
      clear hx
      by_cases hc : x = s
      · rw [if_pos hc] at hn
        have hb : (x == s) = true := by simpa using hc
        have HN := Lib.hid hn
        clear hn hc
        go_wp2_with fail
        go_roundw
        case rel => exact ⟨j + 1, k + 1, by omega, by go_num, rfl, by omega, by omega, by show k + 1 = _; rw [HN.out, ← HKj.out], by first | exact rfl | exact trivial⟩
        case measure => simp [intOf]; omega
      · rw [if_neg hc, Int.add_zero] at hn
        have hb : (x == s) = false := by simpa using hc
        have HN := Lib.hid hn
        clear hn hc
        go_wp2_with fail
        go_roundw
        case rel => exact ⟨j + 1, k, by omega, by go_num, rfl, by omega, by omega, by show k = _; rw [HN.out, ← HKj.out], by first | exact rfl | exact trivial⟩
        case measure => simp [intOf]; omega
    · obtain rfl : j = L.length := by omega
      have hk := HKj.out
      rw [List.take_of_length_le (Nat.le_refl _)] at hk
      have HK2 := Lib.hid hk
      clear hk
      go_wp2_with fail
      go_ret
      exact ⟨by rw [← HK2.out]; rfl, rfl⟩
end
end Go.Proofs.Ythpjggghdaelbaa
