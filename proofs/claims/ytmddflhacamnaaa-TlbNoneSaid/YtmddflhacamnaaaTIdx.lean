/- Package tlb's row of keys while some are let go; slices.IndexFunc over it, with a closure that strikes. -/
import Derived.Test.YtmddflhacamnaaaTDel
import Derived.Laws.IdiomCopy
namespace Go.Proofs.Ytmddflhacamnaaa
open Go.ChangeShapes Go.WideShapes Go.ChangeAt Go.RowKit Go.Deep
set_option linter.unusedVariables false

/-- Block G has the keys of A ahead, and from place j on still those of xs. -/
def KRow (W : World) (G cap : Nat) (A xs : List KeptV) (j : Nat) : Prop :=
  ∃ cur, W.heap[G]? = some (.cells cur 29 (0, 0)) ∧ cur.size = cap * 2 ∧ xs.length ≤ cap ∧ cap ≤ maxLen ∧
    (∀ (t : Nat) y, A[t]? = some y → cur[t * 2]? = some (.int .i64 y.a) ∧ cur[t * 2 + 1]? = some (.int .i64 y.v)) ∧
    (∀ (t : Nat) y, j ≤ t → xs[t]? = some y → cur[t * 2]? = some (.int .i64 y.a) ∧ cur[t * 2 + 1]? = some (.int .i64 y.v))

section
variable {W W' : World} {G cap j : Nat} {A xs : List KeptV}
theorem KRow.of_own (h : W.ownsRow 0 29 2 (.slice (some ⟨G, 0, none⟩) xs.length cap) xs.length (xs.flatMap keyCells)) : KRow W G cap [] xs 0 := by
  rcases h.2 with ⟨e, _⟩ | ⟨g, c, cur, e, _, hb, hn, hm, hs, ht⟩
  · cases e
  · simp only [Value.slice.injEq, Option.some.injEq, Addr.mk.injEq] at e
    obtain ⟨⟨rfl, _⟩, _, rfl⟩ := e
    refine ⟨cur, hb, hs, hn, hm, by simp, fun t y _ hy => ?_⟩
    have ht2 : t < xs.length := (List.getElem?_eq_some_iff.1 hy).1
    have key : ∀ q u, q < 2 → (keyCells y)[q]? = some u → cur[t * 2 + q]? = some u := fun q u hq hu => by
      have h1 := flat_at keyCells 2 key_len xs t y hy q u hu
      rw [← ht, List.getElem?_take_of_lt (by omega), Array.getElem?_toList] at h1
      exact h1
    exact ⟨key 0 _ (by omega) rfl, key 1 _ (by omega) rfl⟩
theorem KRow.kept (h : KRow W G cap A xs j) (hb : W'.heap[G]? = W.heap[G]?) : KRow W' G cap A xs j := by
  obtain ⟨cur, h1, h2⟩ := h
  exact ⟨cur, hb.trans h1, h2⟩
theorem KRow.lt (h : KRow W G cap A xs j) : G < W.heap.size := by
  obtain ⟨cur, h1, _⟩ := h
  exact (Array.getElem?_eq_some_iff.1 h1).1
theorem KRow.block (h : KRow W G cap A xs j) : ∃ cur, W.heap[G]? = some (.cells cur 29 (0, 0)) := by
  obtain ⟨cur, h1, _⟩ := h
  exact ⟨cur, h1⟩
theorem KRow.at (h : KRow W G cap A xs j) {t : Nat} {y : KeptV} (ht : j ≤ t) (hy : xs[t]? = some y) : W.cell? ⟨G, t * 2, none⟩ = some (.int .i64 y.a) ∧ W.cell? ⟨G, t * 2 + 1, none⟩ = some (.int .i64 y.v) := by
  obtain ⟨cur, h1, _, _, _, _, h2⟩ := h
  rw [cell_of_row _ _ _ _ _ _ h1, cell_of_row _ _ _ _ _ _ h1]
  exact h2 t y ht hy
theorem KRow.frozen (h : KRow W G cap A xs j) (o : Nat) : W.frozen? ⟨G, o, none⟩ = false := by
  obtain ⟨cur, h1, _⟩ := h
  exact frozen_of_row W G o _ _ h1
/-- That a place of the row is there. -/
theorem KRow.there (h : KRow W G cap A xs j) {o : Nat} (ho : o < cap * 2) : ∃ u, W.cell? ⟨G, o, none⟩ = some u := by
  obtain ⟨cur, h1, h2, _⟩ := h
  rw [cell_of_row _ _ _ _ _ _ h1]
  exact ⟨_, Array.getElem?_eq_getElem (by omega)⟩
theorem KRow.skip (h : KRow W G cap A xs j) : KRow W G cap A xs (j + 1) := by
  obtain ⟨cur, h1, h2, h3, h4, h5, h6⟩ := h
  exact ⟨cur, h1, h2, h3, h4, h5, fun t y ht => h6 t y (by omega)⟩
theorem KRow.own (h : KRow W G cap A xs j) (hA : A.length ≤ cap) : W.ownsRow 0 29 2 (.slice (some ⟨G, 0, none⟩) A.length cap) A.length (A.flatMap keyCells) := by
  obtain ⟨cur, h1, h2, h3, h4, h5, h6⟩ := h
  refine ⟨flat_len keyCells 2 key_len A, .inr ⟨G, cap, cur, rfl, Nat.zero_le _, h1, hA, h4, h2, ?_⟩⟩
  apply List.ext_getElem?
  intro o
  rw [List.getElem?_take]
  by_cases ho : o < A.length * 2
  · rw [if_pos ho]
    obtain ⟨y, hy⟩ : ∃ y, A[o / 2]? = some y := ⟨_, List.getElem?_eq_getElem (by omega)⟩
    have h7 := h5 _ y hy
    rcases (show o = o / 2 * 2 ∨ o = o / 2 * 2 + 1 by omega) with e | e
    · have := flat_at keyCells 2 key_len A _ y hy 0 _ rfl
      rw [Nat.add_zero] at this
      rw [e, this, Array.getElem?_toList]
      exact h7.1
    · rw [e, flat_at keyCells 2 key_len A _ y hy 1 _ rfl, Array.getElem?_toList]
      exact h7.2
  · rw [if_neg ho, List.getElem?_eq_none (by rw [flat_len keyCells 2 key_len]; omega)]
/-- 's[i] = v', v from place j. -/
theorem KRow.store (h : KRow W G cap A xs j) {x : KeptV} (hx : xs[j]? = some x) (hi : A.length < j) :
    KRow ((W.setCell ⟨G, A.length * 2, none⟩ (.int .i64 x.a)).setCell ⟨G, A.length * 2 + 1, none⟩ (.int .i64 x.v)) G cap (A ++ [x]) xs (j + 1) := by
  obtain ⟨cur, h1, h2, h3, h4, h5, h6⟩ := h
  have hj := (List.getElem?_eq_some_iff.1 hx).1
  refine ⟨_, heap_setCell_same _ _ _ _ _ _ (heap_setCell_same _ _ _ _ _ _ h1), by simpa using h2, h3, h4, fun t y ht => ?_, fun t y ht hy => ?_⟩
  · rcases Nat.lt_or_ge t A.length with hl | hl
    · rw [List.getElem?_append_left hl] at ht
      have := h5 t y ht
      rw [Array.getElem?_setIfInBounds_ne (by omega), Array.getElem?_setIfInBounds_ne (by omega), Array.getElem?_setIfInBounds_ne (by omega), Array.getElem?_setIfInBounds_ne (by omega)]
      exact this
    · rw [List.getElem?_append_right hl] at ht
      obtain rfl : t = A.length := by
        have := (List.getElem?_eq_some_iff.1 ht).1
        simp at this
        omega
      simp at ht
      subst ht
      refine ⟨?_, ?_⟩
      · rw [Array.getElem?_setIfInBounds_ne (by omega), Array.getElem?_setIfInBounds_self_of_lt (by omega)]
      · rw [Array.getElem?_setIfInBounds_self_of_lt (by simp; omega)]
  · have := h6 t y (by omega) hy
    rw [Array.getElem?_setIfInBounds_ne (by omega), Array.getElem?_setIfInBounds_ne (by omega), Array.getElem?_setIfInBounds_ne (by omega), Array.getElem?_setIfInBounds_ne (by omega)]
    exact this
end

/-- Cells set from a place on: what stands ahead of it stays. -/
theorem setCells_block (b : Nat) : ∀ (vs : List Value) (o : Nat) (w : World) (cur : Array Value) (t : TypeId), w.heap[b]? = some (.cells cur t (0, 0)) →
    ∃ cur', (w.setCells b o vs).heap[b]? = some (.cells cur' t (0, 0)) ∧ cur'.size = cur.size ∧ (∀ i, i < o → cur'[i]? = cur[i]?) ∧ (∀ i, i < vs.length → o + vs.length ≤ cur.size → cur'[o + i]? = vs[i]?)
  | [], o, w, cur, t, h => ⟨cur, h, rfl, fun _ _ => rfl, fun i hi => by simp at hi⟩
  | v :: vs, o, w, cur, t, h => by
    obtain ⟨cur', h1, h2, h3, h4⟩ := setCells_block b vs (o + 1) (w.setCell ⟨b, o, none⟩ v) _ t (heap_setCell_same w b o cur _ _ h)
    refine ⟨cur', h1, by rw [h2]; simp, fun i hi => by rw [h3 i (by omega), Array.getElem?_setIfInBounds_ne (by omega)], fun i hi hs => ?_⟩
    cases i with
    | zero =>
      rw [Nat.add_zero, h3 o (by omega), Array.getElem?_setIfInBounds_self_of_lt (by simp at hs; omega)]
      rfl
    | succ i =>
      have := h4 i (by simpa using hi) (by simp at hs ⊢; omega)
      rw [show o + (i + 1) = o + 1 + i by omega, this]
      rfl
theorem setCells_grown (b : Nat) : ∀ (vs : List Value) (o : Nat) (w : World), w.grownBy (w.setCells b o vs) (some b)
  | [], o, w => ⟨rfl, rfl, rfl, Nat.le_refl _, fun _ _ _ => rfl⟩
  | v :: vs, o, w => by
    have h1 := grown_set w b o v
    have h2 := setCells_grown b vs (o + 1) (w.setCell ⟨b, o, none⟩ v)
    exact ⟨h2.os.trans h1.os, h2.tape.trans h1.tape, h2.output.trans h1.output, Nat.le_trans h1.size h2.size, fun k hk hne => (h2.block k (Nat.lt_of_lt_of_le hk h1.size) hne).trans (h1.block k hk hne)⟩
theorem KRow.cleared {W : World} {G cap j : Nat} {A xs : List KeptV} (h : KRow W G cap A xs j) (vs : List Value) : KRow (W.setCells G (A.length * 2) vs) G cap A xs xs.length := by
  obtain ⟨cur, h1, h2, h3, h4, h5, h6⟩ := h
  obtain ⟨cur', g1, g2, g3, _⟩ := setCells_block G vs (A.length * 2) W cur _ h1
  refine ⟨cur', g1, by rw [g2, h2], h3, h4, fun t y ht => ?_, fun t y ht hy => ?_⟩
  · have := (List.getElem?_eq_some_iff.1 ht).1
    rw [g3 _ (by omega), g3 _ (by omega)]
    exact h5 t y ht
  · have := (List.getElem?_eq_some_iff.1 hy).1
    omega

/-- What the closure does that is handed to the library. -/
def StepOk (p M : Nat) (sz : Int) (v : Value) (b2 b3 : Nat) (fv : Value) (xb : Option (Nat × Obj)) (q : KeptV → Bool) : Prop :=
  ∀ W ys (x : KeptV), DS p M sz v b2 b3 fv xb W ys → okKey x →
    Calls Try.prog 32 #[.agg #[.int .i64 x.a, .int .i64 x.v], .pointer (some ⟨b3, 0, none⟩), .pointer (some ⟨b2, 0, none⟩)] W fun e W' =>
      e = .returned (.bool (q x)) ∧ DS p M sz v b2 b3 fv xb W' (if q x then dropK (sameK x.a x.v) ys else ys) ∧ Turn [M] W W'

section
variable {p M : Nat} {sz : Int} {v : Value} {b2 b3 : Nat} {fv : Value} {xb : Option (Nat × Obj)} {q : KeptV → Bool} {W : World} {xs : List KeptV} {G cap : Nat}

theorem idx_nil (s : Option Addr) (c : Nat) (fv : Value) (W : World) : Calls Try.prog 33 #[.slice s 0 c, fv] W fun e W' => e = .returned (.int .i64 (-1)) ∧ W' = W := by
  go_enter Try.func33, Try.ntmps33
  go_wp2_with fail
  refine wp_loop_rounds 1 ?_
  rw [rounds_succ]
  go_wp2_with fail
  go_ret
  exact ⟨rfl, rfl⟩

set_option maxHeartbeats 1000000 in
theorem idx_walk (HS : StepOk p M sz v b2 b3 fv xb q) (hk : Keys xs) (hr : KRow W G cap [] xs 0) (h : DS p M sz v b2 b3 fv xb W xs) :
    Calls Try.prog 33 #[.slice (some ⟨G, 0, none⟩) xs.length cap, .func (.func 32) #[] #[.pointer (some ⟨b3, 0, none⟩), .pointer (some ⟨b2, 0, none⟩)]] W fun e W' =>
      Turn [M] W W' ∧ ((e = .returned (.int .i64 (-1)) ∧ DS p M sz v b2 b3 fv xb W' xs ∧ ∀ x, x ∈ xs → q x = false) ∨
        ∃ (k : Nat) (x : KeptV), xs[k]? = some x ∧ q x = true ∧ (∀ y, y ∈ xs.take k → q y = false) ∧ e = .returned (.int .i64 k) ∧ DS p M sz v b2 b3 fv xb W' (cont q xs (k + 1))) := by
  have HS2 := Lib.hid HS
  have HK := Lib.hid hk
  have HR := Lib.hid (show ∀ W', Turn [M] W W' → KRow W' G cap [] xs 0 from fun W' g => hr.kept (g.block G hr.lt (by obtain ⟨cur, hb⟩ := hr.block; simp; exact fun e => h.map.ne_cells hb e.symm)))
  have HD := Lib.hid (show DS p M sz v b2 b3 fv xb W (cont q xs 0) by rw [cont_zero]; exact h)
  have hlen : xs.length < 9223372036854775808 := by obtain ⟨cur, _, _, h3, h4, _⟩ := hr; unfold maxLen at h4; omega
  clear HS hk hr h
  go_enter Try.func33, Try.ntmps33
  go_wp2_with fail
  go_loopw [8] (fun i wr => ∃ j : Nat, j ≤ xs.length ∧ i = .int .i64 j ∧ Hid (DS p M sz v b2 b3 fv xb wr (cont q xs j)) ∧ Hid (Turn [M] W wr) ∧ Hid (∀ y, y ∈ xs.take j → q y = false)) (fun i _ => xs.length - (intOf i).toNat)
  case atStart => exact ⟨0, by omega, rfl, HD, Turn.refl _ _, fun y hy => by simp at hy⟩
  case round =>
    obtain ⟨j, hj, rfl, HDj, HT, HN⟩ := hrel
    by_cases hlt : j < xs.length
    · obtain ⟨x, hx⟩ : ∃ x, xs[j]? = some x := ⟨_, List.getElem?_eq_getElem hlt⟩
      obtain ⟨k0, k1⟩ := (HR.out wr HT.out).at (Nat.zero_le _) hx
      have hcall := HS2.out wr _ x HDj.out (HK.out.ok x (List.mem_of_getElem? hx))
      rw [cont_step HK.out hx] at hcall
      have HC := Lib.hid hcall
      have HX := Lib.hid hx
      clear hcall hx
      obtain ⟨xa, xv, xf, xp⟩ := x
      simp only at *
      obtain ⟨b, hb⟩ : ∃ b, q ⟨xa, xv, xf, xp⟩ = b := ⟨_, rfl⟩
      rw [hb] at HC
      have HB := Lib.hid hb
      clear hb
      cases b with
      | false =>
        go_wp2_with (go_at_call 32; refine HC.out.mono ?_; rintro e W2 ⟨rfl, h2, t2⟩)
        go_roundw
        case rel =>
          refine ⟨j + 1, by omega, by go_num, h2, HT.out.trans' t2, ?_⟩
          show ∀ y, y ∈ xs.take (j + 1) → q y = false
          intro y hy
          rw [take_at HX.out] at hy
          rcases List.mem_append.1 hy with hy | hy
          · exact HN.out y hy
          · obtain rfl : y = _ := by simpa using hy
            exact HB.out
        case measure => simp [intOf]; omega
      | true =>
        go_wp2_with (go_at_call 32; refine HC.out.mono ?_; rintro e W2 ⟨rfl, h2, t2⟩)
        go_ret
        exact ⟨HT.out.trans' t2, .inr ⟨j, _, HX.out, HB.out, HN.out, rfl, h2⟩⟩
    · obtain rfl : j = xs.length := by omega
      go_wp2_with fail
      go_ret
      have hall := HN.out
      have hd := HDj.out
      rw [List.take_of_length_le (Nat.le_refl _)] at hall
      rw [cont_all q xs rfl, dropK_none hall] at hd
      exact ⟨HT.out, .inl ⟨rfl, hd, hall⟩⟩
end
end Go.Proofs.Ytmddflhacamnaaa
