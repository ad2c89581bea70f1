/- Slices of numbers that a law reads or fills, beside rows that it has made for itself. -/
import Derived.Test.YtnjpdcoahojgbaaRFronts
import Derived.Test.YtnjpdcoahojgbaaOpen
import Derived.Deep.AppendLies
import Derived.DataReads
namespace Go.Proofs.Ytnjpdcoahojgbaa.RInt
open Go.ChangeShapes Go.WideShapes Go.ChangeAt Go.RowKit
set_option linter.unusedVariables false

/-- A slice reads as numbers. -/
structure Ints (w : World) (s : Option Addr) (l : Nat) (xs : List Int) : Prop where
  len : xs.length = l
  cells : l = 0 ∨ ∃ g o, s = some ⟨g, o, none⟩ ∧ ∀ i x, xs[i]? = some x → w.cell? ⟨g, o + i, none⟩ = some (.int .i64 x)

theorem Ints.below {w w' : World} {s : Option Addr} {l : Nat} {xs : List Int} (h : Ints w s l xs) (b : Below w.heap.size w w') : Ints w' s l xs := by
  refine ⟨h.len, ?_⟩
  rcases h.cells with h0 | ⟨g, o, hs, hc⟩
  · exact .inl h0
  · refine .inr ⟨g, o, hs, fun i x hi => ?_⟩
    have := hc i x hi
    exact (b.cell (p := ⟨g, o + i, none⟩) (World.block_lt_of_cell? w _ this)).trans this

/-- A slice that came in. -/
def IntsAre (w : World) (s : Option Addr) (l : Nat) (xs : List Int) : Prop := Ints w s l xs ∧ ∀ x, x ∈ xs → okK x

/-- A slice that the law fills: its numbers, in a block from base on. -/
def Nums (w : World) (base : Nat) (v : Value) (xs : List Int) : Prop := w.ownsRow base 3 1 v xs.length (xs.map (Value.int .i64))

section
variable {w : World} {base : Nat} {v : Value} {xs : List Int}

theorem Nums.nil (w : World) (base : Nat) : Nums w base (.slice none 0 0) [] := World.ownsRow_nil _ _ _ _

theorem Nums.form (h : Nums w base v xs) : ∃ a c, v = .slice a xs.length c := by
  rcases h.2 with ⟨rfl, h0⟩ | ⟨g, cap, cur, rfl, _⟩
  · exact ⟨none, 0, by rw [h0]⟩
  · exact ⟨_, _, rfl⟩

theorem Nums.ints {a : Option Addr} {c : Nat} (h : Nums w base (.slice a xs.length c) xs) : Ints w a xs.length xs := by
  refine ⟨rfl, ?_⟩
  by_cases h0 : xs.length = 0
  · exact .inl h0
  · right
    rcases h.2 with ⟨e, h1⟩ | ⟨g, cap, cur, e, _⟩
    · exact absurd h1 h0
    · cases e
      refine ⟨g, 0, rfl, fun i x hi => ?_⟩
      have := h.cells (g := g) rfl i (.int .i64 x) (by simp [hi])
      rwa [Addr.add_mid] at this

theorem Nums.kept {w' : World} (h : Nums w base v xs) (hb : ∀ g, v.ownBlock = some g → w'.heap[g]? = w.heap[g]?) : Nums w' base v xs := by
  refine ⟨h.1, ?_⟩
  rcases h.2 with hn | ⟨g, cap, cur, rfl, hb2, hgg, rest⟩
  · exact .inl hn
  · exact .inr ⟨g, cap, cur, rfl, hb2, (hb g rfl).trans hgg, rest⟩

theorem Nums.lt (h : Nums w base v xs) {g : Nat} (hg : v.ownBlock = some g) : base ≤ g ∧ g < w.heap.size := World.ownsRow.lt h g hg

theorem Nums.lower {base' : Nat} (h : Nums w base v xs) (hb : base' ≤ base) : Nums w base' v xs := by
  refine ⟨h.1, ?_⟩
  rcases h.2 with hn | ⟨g, cap, cur, rfl, hb2, rest⟩
  · exact .inl hn
  · exact .inr ⟨g, cap, cur, rfl, Nat.le_trans hb hb2, rest⟩
end

theorem info_int : (Try.prog.info? 3).map (fun i => (i.zero, i.size, i.bytes)) = some (some (.int .i64 0), 1, 8) := by kernel_rfl

/-- 'append(s, y)', behind the block in which y is laid. -/
theorem wpList_num {ops : Array Oper} {rest : List Oper} {o : Oper} {a : Act} {Q : Exit → Act → World → Prop} (w : World) (hgd : o.guard = none) (s x : Operand)
    (ho : o.op = .call { callee := .builtin .append, args := #[s, x], argTypes := #[34, 34] }) (base : Nat) (v : Value) (xs : List Int) (y : Int) (hs : a.eval s = v) (h : Nums w base v xs) (H c : Nat)
    (hx : a.eval x = .slice (some ⟨H, 0, none⟩) 1 c) (hH : w.heap.size = H) (hl : xs.length ≤ 1000000) (hbase : base ≤ H)
    (hK : ∀ g cap w', Nums w' base (.slice (some ⟨g, 0, none⟩) (xs.length + 1) cap) (xs ++ [y]) → Kept v.ownBlock.toList w w' → (v.ownBlock = some g ∨ H ≤ g) → g < w'.heap.size → wpList Try.prog ops Q rest (a.put o.dst (.slice (some ⟨g, 0, none⟩) (xs.length + 1) cap)) w') :
    wpList Try.prog ops Q (o :: rest) a (w.alloc (.cells #[.int .i64 y] 3)) := by
  obtain ⟨i0, hi, hz0, hz1, hz2⟩ := info_parts info_int
  subst hH
  refine wpList_append_lies _ hgd s x 34 ho base 3 i0 (.int .i64 0) 1 8 Try.underlying34 hi hz0 hz1 hz2 rfl (by decide) v xs.length (xs.map (Value.int .i64)) hs (World.ownsRow.alloc h _) ⟨w.heap.size, 0, none⟩ 1 c [.int .i64 y] hx rfl ?_ ?_ (by omega) (by unfold maxLen; omega) (by omega) (by simp; omega) (w.heap.size + 1) (by simp) ?_
  · exact World.news_of_block (heap_alloc_new w _)
  · intro u hu; simp at hu; subst hu; rfl
  · intro g cap w' hown hgrow hat hlt
    refine hK g cap w' ?_ ?_ ?_ hlt
    · unfold Nums
      simp only [List.length_append, List.length_cons, List.length_nil, List.map_append, List.map_cons, List.map_nil]
      exact hown
    · have k1 : Kept v.ownBlock.toList w (w.alloc (.cells #[.int .i64 y] 3)) := (Kept.refl _ _).alloc _
      refine k1.trans ⟨hgrow.os, hgrow.tape, hgrow.output, hgrow.size, fun k hk hn => hgrow.block k hk ?_⟩
      intro e
      rw [← e] at hn
      simp at hn
    · rcases hat with q | q
      · exact .inl q
      · exact .inr (by omega)

/-- Rows that were made since w0; R: other blocks that were made since then, none of theirs. -/
def LiveR (w0 w : World) (b : Nat) (S : List (List Int)) (R : List Nat) : Prop :=
  ∃ O, Is w b S O ∧ (∀ g, g ∈ O → w0.heap.size ≤ g) ∧ Below w0.heap.size w0 w ∧ ∀ g, g ∈ R → w0.heap.size ≤ g ∧ g < w.heap.size ∧ g ∉ O

/-- What is not theirs has stayed. -/
def Stay (R : List Nat) (w w' : World) : Prop := ∀ g, g ∈ R → w'.heap[g]? = w.heap[g]?

section
variable {w0 w : World} {b : Nat} {S : List (List Int)} {R : List Nat}

theorem LiveR.now {O : List Nat} {S' : List (List Int)} {v : Value} {e : Ending} {w' : World} (hO : ∀ g, g ∈ O → w0.heap.size ≤ g) (hb : Below w0.heap.size w0 w) (hR : ∀ g, g ∈ R → w0.heap.size ≤ g ∧ g < w.heap.size ∧ g ∉ O) (h : Now w b O S' v e w') :
    e = .returned v ∧ LiveR w0 w' b S' R ∧ Stay R w w' := by
  obtain ⟨he, O', hI, hK, hO', _⟩ := h
  refine ⟨he, ⟨O', hI, fun g hg => ?_, hb.trans (hK.below _ hb.size hO), fun g hg => ⟨(hR g hg).1, Nat.lt_of_lt_of_le (hR g hg).2.1 hK.size, fun hg2 => ?_⟩⟩, fun g hg => hK.block g (hR g hg).2.1 (hR g hg).2.2⟩
  · rcases hO' g hg with q | q
    · exact hO g q
    · exact Nat.le_trans hb.size q
  · rcases hO' g hg2 with q | q
    · exact (hR g hg).2.2 q
    · have := (hR g hg).2.1; omega

theorem LiveR.push (h : LiveR w0 w b S R) (r : Int) {x : Int} (hx : okK x) :
    Calls Try.prog 13 #[.pointer (some ⟨b, 0, none⟩), .int .i64 r, .int .i64 x] w fun e w' => e = .returned (.bool (decide (fits r x S))) ∧ LiveR w0 w' b (pushS r x S) R ∧ Stay R w w' := by
  obtain ⟨O, hI, hO, hB, hR⟩ := h
  exact (push_any hI r hx).mono fun e w' hn => LiveR.now hO hB hR hn
theorem LiveR.front (h : LiveR w0 w b S R) (r : Int) {x : Int} (hx : okK x) :
    Calls Try.prog 15 #[.pointer (some ⟨b, 0, none⟩), .int .i64 r, .int .i64 x] w fun e w' => e = .returned (.bool (decide (fits r x S))) ∧ LiveR w0 w' b (frontS r x S) R ∧ Stay R w w' := by
  obtain ⟨O, hI, hO, hB, hR⟩ := h
  exact (front_any hI r hx).mono fun e w' hn => LiveR.now hO hB hR hn
theorem LiveR.shift (h : LiveR w0 w b S R) (r : Int) :
    Calls Try.prog 17 #[.pointer (some ⟨b, 0, none⟩), .int .i64 r] w fun e w' => e = .returned (firstV (rowS r S)) ∧ LiveR w0 w' b (shiftS r S) R ∧ Stay R w w' := by
  obtain ⟨O, hI, hO, hB, hR⟩ := h
  exact (shift_any hI r).mono fun e w' hn => LiveR.now hO hB hR hn
theorem LiveR.turn (h : LiveR w0 w b S R) (r : Int) :
    Calls Try.prog 21 #[.pointer (some ⟨b, 0, none⟩), .int .i64 r] w fun e w' => e = .returned (.bool (!(rowS r S).isEmpty)) ∧ LiveR w0 w' b (turnS r S) R ∧ Stay R w w' := by
  obtain ⟨O, hI, hO, hB, hR⟩ := h
  exact (turn_any hI r).mono fun e w' hn => LiveR.now hO hB hR hn
theorem LiveR.remove (h : LiveR w0 w b S R) {x : Int} (hx : okK x) :
    Calls Try.prog 19 #[.pointer (some ⟨b, 0, none⟩), .int .i64 x] w fun e w' => e = .returned (.bool (decide (x ∈ S.flatten))) ∧ LiveR w0 w' b (rmv x S) R ∧ Stay R w w' := by
  obtain ⟨O, hI, hO, hB, hR⟩ := h
  exact (remove_any hI hx).mono fun e w' hn => LiveR.now hO hB hR hn
theorem LiveR.len (h : LiveR w0 w b S R) (r : Int) : Calls Try.prog 28 #[.pointer (some ⟨b, 0, none⟩), .int .i64 r] w fun e w' => e = .returned (.int .i64 (rowS r S).length) ∧ w = w' := by
  obtain ⟨O, hI, hO, hB⟩ := h
  exact len_any hI r
theorem LiveR.rows (h : LiveR w0 w b S R) : Calls Try.prog 31 #[.pointer (some ⟨b, 0, none⟩)] w fun e w' => e = .returned (.int .i64 S.length) ∧ w = w' := by
  obtain ⟨O, hI, hO, hB⟩ := h
  exact rows_any hI
theorem LiveR.first (h : LiveR w0 w b S R) (r : Int) : Calls Try.prog 25 #[.pointer (some ⟨b, 0, none⟩), .int .i64 r] w fun e w' => e = .returned (firstV (rowS r S)) ∧ w = w' := by
  obtain ⟨O, hI, hO, hB⟩ := h
  exact first_any hI r
theorem LiveR.where (h : LiveR w0 w b S R) {x : Int} (hx : okK x) : Calls Try.prog 23 #[.pointer (some ⟨b, 0, none⟩), .int .i64 x] w (Refused w (whereV x S)) := by
  obtain ⟨O, hI, hO, hB⟩ := h
  exact where_any hI hx

theorem LiveR.below (h : LiveR w0 w b S R) : Below w0.heap.size w0 w := by
  obtain ⟨O, hI, hO, hB, hR⟩ := h
  exact hB
theorem LiveR.nodup (h : LiveR w0 w b S R) : S.flatten.Nodup := by
  obtain ⟨O, hI, hO, hB, hR⟩ := h
  exact hI.nodup
theorem LiveR.ok (h : LiveR w0 w b S R) {x : Int} (hx : x ∈ S.flatten) : okK x := by
  obtain ⟨O, hI, hO, hB, hR⟩ := h
  exact hI.ok hx

/-- What the law does in its own blocks, and in new ones. -/
theorem LiveR.own {w' : World} {R' : List Nat} (h : LiveR w0 w b S R) (hk : Kept R w w') (hR' : ∀ g, g ∈ R' → g ∈ R ∨ (w.heap.size ≤ g ∧ g < w'.heap.size)) : LiveR w0 w' b S R' := by
  obtain ⟨O, hI, hO, hB, hR⟩ := h
  refine ⟨O, hI.past hk fun g hg hg2 => (hR g hg2).2.2 hg, hO, hB.trans (hk.below _ hB.size fun g hg => (hR g hg).1), fun g hg => ?_⟩
  rcases hR' g hg with q | q
  · exact ⟨(hR g q).1, Nat.lt_of_lt_of_le (hR g q).2.1 hk.size, (hR g q).2.2⟩
  · refine ⟨Nat.le_trans hB.size q.1, q.2, fun hg2 => ?_⟩
    have := hI.lt hg2
    omega

theorem LiveR.past {w' : World} (h : LiveR w0 w b S R) (hb : Below w.heap.size w w') : LiveR w0 w' b S R :=
  h.own (Kept.of_below hb) fun g hg => .inl hg

theorem LiveR.lt (h : LiveR w0 w b S R) {g : Nat} (hg : g ∈ R) : g < w.heap.size := by
  obtain ⟨O, hI, hO, hB, hR⟩ := h
  exact (hR g hg).2.1

theorem LiveR.less {R' : List Nat} (h : LiveR w0 w b S R) (hs : ∀ g, g ∈ R' → g ∈ R) : LiveR w0 w b S R' :=
  h.own (Kept.refl _ _) fun g hg => .inl (hs g hg)

theorem LiveR.start (m : Nat) (h1 : 1 ≤ m) (h2 : m ≤ 64) : Calls Try.prog 10 #[.int .i64 m] w0 fun e w' => ∃ b, e = .returned (.pointer (some ⟨b, 0, none⟩)) ∧ LiveR w0 w' b (List.replicate m []) [] := by
  refine (new_ok m w0 h1 h2).mono ?_
  rintro e w' ⟨b, O, he, hI, hB, hO⟩
  exact ⟨b, he, O, hI, hO, hB, fun g hg => by simp at hg⟩
end

theorem ints_of_trod {H : Type} {enc : TypeId × Value → H} {w : World} {base : Nat} {spare : Nat → Bool} {held : Bool} {fuel : Nat} {s : Option Addr} {l c : Nat} {x : DataW H × List MemPlace}
    (h : DataW.trod enc Try.prog w base spare held fuel 34 [.slice s l c] = some x) : ∃ xs, IntsAre w s l xs := by
  rcases open_ints Try.underlying34 Try.underlying3 (by kernel_rfl) h with ⟨hcs, _⟩ | ⟨a, l', c', zs, hcs, _, hl, _, hz, _, hcell, hwf⟩
  · simp at hcs
    obtain ⟨rfl, rfl, rfl⟩ := hcs
    exact ⟨[], ⟨rfl, .inl rfl⟩, by simp⟩
  · simp at hcs
    obtain ⟨rfl, rfl, rfl⟩ := hcs
    have hlz : l ≤ zs.length := by rw [hz]; split <;> omega
    refine ⟨zs.take l, ⟨by simp; omega, ?_⟩, fun x hx => hwf x (List.mem_of_mem_take hx)⟩
    by_cases h0 : l = 0
    · exact .inl h0
    · obtain ⟨b, o, spot⟩ := a
      have hspot : spot = none := by
        have := hcell 0 (by omega)
        simpa [Addr.add] using World.cell?_spot this
      subst hspot
      refine .inr ⟨b, o, rfl, fun j v hv => ?_⟩
      rw [List.getElem?_take] at hv
      split at hv
      · rename_i hj
        have hjz : j < zs.length := by omega
        have hcj := hcell j hjz
        rw [Addr.add_mid] at hcj
        rw [hcj]
        rw [List.getElem?_eq_getElem hjz] at hv
        cases hv
        simp [List.getD, List.getElem?_eq_getElem hjz]
      · simp at hv
end Go.Proofs.Ytnjpdcoahojgbaa.RInt
