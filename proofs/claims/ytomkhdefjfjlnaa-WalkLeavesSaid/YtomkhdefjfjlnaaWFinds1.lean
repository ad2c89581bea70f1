/- WalkFinds: pages of one table, each at its frame; rows of words and of numbers that the law makes. -/
import Derived.Test.YtomkhdefjfjlnaaWWrFacts
import Derived.Deep.AppendLies
import Derived.Laws.OwnMore
import Derived.Laws.AppendOwnNone
namespace Go.Proofs.Ytomkhdefjfjlnaa
open Go.ChangeShapes Go.WideShapes Go.ChangeAt Go.RowKit Go.Deep
set_option linter.unusedVariables false

theorem bit_mark (f a k : Int) (hk : IsBit k) : bit (markF f a) k = bit f k := by
  unfold bit markF
  apply decide_eq_decide.2
  rcases hk with rfl | rfl | rfl | rfl | rfl
  all_goals
    repeat' split
    all_goals omega
theorem kind_mark (f a : Int) : kindOf (markF f a) = kindOf f := by
  rw [kindOf_eq, kindOf_eq, bit_mark _ _ _ isBit_1, bit_mark _ _ _ isBit_2, bit_mark _ _ _ isBit_4, bit_mark _ _ _ isBit_8]
theorem may_mark (f a b : Int) (u : Bool) : mayOf (markF f a) b u = mayOf f b u := by
  unfold mayOf
  rw [kind_mark, bit_mark _ _ _ isBit_16, bit_mark _ _ _ isBit_2, bit_mark _ _ _ isBit_4, bit_mark _ _ _ isBit_8]
theorem page_mark (X a b : Int) (u : Bool) (hX : okU X) : pageWay (markOf X a) b u = pageWay X b u := by
  unfold pageWay
  rw [mark_flag _ _ hX, mark_ppn _ _ hX, kind_mark, may_mark]

/-- The pages of the table in frame 2: where each leads to, 0 if nowhere. -/
structure Spread (L : List UInt8) (ats : List Int) : Prop where
  len : L.length = 8 * 4096
  tabs : Tabs L
  clean : Clean 8 L
  al : ats.length = 512
  rng : ∀ k : Nat, 0 ≤ ats.getD k 0 ∧ ats.getD k 0 ≤ 5
  no : ∀ k : Nat, k < 512 → ats.getD k 0 = 0 → wordI 8 L 2 k = 0
  yes : ∀ k : Nat, k < 512 → ats.getD k 0 ≠ 0 → pageWay (wordI 8 L 2 k) 1 true = 0 ∧ pageWay (wordI 8 L 2 k) 2 true = 0 ∧ ppnOf (wordI 8 L 2 k) = 2 + ats.getD k 0

def baseW : List WordV := [⟨0, 0, 1, 1⟩, ⟨1, 0, 1, 2⟩]
def zerosI : List Int := List.replicate 512 0

theorem getD_zeros (n k : Nat) : (List.replicate n (0 : Int)).getD k 0 = 0 := by
  simp only [List.getD, List.getElem?_replicate]
  split <;> rfl

theorem Spread.base : Spread (madeL noL baseW) zerosI := by
  have l0 := noL_length
  have l1 := setL_length 8 noL 0 0 (encOf 1 1) l0
  have w1 : ∀ g j, wordI 8 (setL 8 noL 0 0 (encOf 1 1)) g j = if g = 0 ∧ j = 0 then encOf 1 1 else 0 := fun g j => by rw [wordI_set l0 (by decide) (by decide) (okU_encOf _ _), wordI_noL]
  have w2 : ∀ g j, wordI 8 (madeL noL baseW) g j = if g = 1 ∧ j = 0 then encOf 1 2 else if g = 0 ∧ j = 0 then encOf 1 1 else 0 := fun g j => by
    show wordI 8 (setL 8 (setL 8 noL 0 0 (encOf 1 1)) 1 0 (encOf 1 2)) g j = _
    rw [wordI_set l1 (by decide) (by decide) (okU_encOf _ _), w1]
  have hz : ∀ k : Nat, zerosI.getD k 0 = 0 := fun k => getD_zeros 512 k
  refine ⟨made_len _ l0 _, ⟨by rw [w2]; simp, by rw [w2]; simp⟩, clean_made _ _ clean_noL, List.length_replicate, fun k => by rw [hz]; decide, fun k hk _ => by rw [w2]; simp, fun k hk h => absurd (hz k) h⟩

theorem page_made (v : Int) (hv : 1 ≤ v ∧ v ≤ 5) : pageWay (encOf 23 (2 + v)) 1 true = 0 ∧ pageWay (encOf 23 (2 + v)) 2 true = 0 ∧ ppnOf (encOf 23 (2 + v)) = 2 + v := by
  have h : v = 1 ∨ v = 2 ∨ v = 3 ∨ v = 4 ∨ v = 5 := by omega
  rcases h with rfl | rfl | rfl | rfl | rfl <;> decide

theorem getD_set (l : List Int) (j : Nat) (x : Int) (k : Nat) (hj : j < l.length) : (l.set j x).getD k 0 = if k = j then x else l.getD k 0 := by
  simp only [List.getD, List.getElem?_set]
  by_cases h : j = k
  · subst h; simp [hj]
  · simp [h, Ne.symm h]

theorem Spread.put {L : List UInt8} {ats : List Int} (h : Spread L ats) (j : Nat) (hj : j < 512) (v : Int) (hv : 1 ≤ v ∧ v ≤ 5) : Spread (setL 8 L 2 j (encOf 23 (2 + v))) (ats.set j v) := by
  have hjI : 0 ≤ (j : Int) ∧ (j : Int) < 512 := by omega
  have hg : ∀ k : Nat, (ats.set j v).getD k 0 = if k = j then v else ats.getD k 0 := fun k => getD_set _ _ _ _ (by rw [h.al]; exact hj)
  have hw : ∀ k : Nat, wordI 8 (setL 8 L 2 j (encOf 23 (2 + v))) 2 k = if k = j then encOf 23 (2 + v) else wordI 8 L 2 k := fun k => by
    rw [wordI_set h.len (by decide) hjI (okU_encOf _ _)]
    by_cases e : k = j
    · rw [if_pos e, if_pos ⟨rfl, by omega⟩]
    · rw [if_neg e, if_neg (by omega)]
  refine ⟨setL_length _ _ _ _ _ h.len, h.tabs.set h.len hjI (okU_encOf _ _), h.clean.set (okU_encOf _ _) (clean_enc _ _), by rw [List.length_set]; exact h.al, fun k => ?_, fun k hk h0 => ?_, fun k hk h0 => ?_⟩
  · rw [hg]; split
    · omega
    · exact h.rng k
  · rw [hg] at h0
    rw [hw]
    split
    · rename_i e; rw [if_pos e] at h0; omega
    · rename_i e; rw [if_neg e] at h0; exact h.no k hk h0
  · rw [hg] at h0 ⊢
    rw [hw]
    split
    · exact page_made v hv
    · rename_i e; rw [if_neg e] at h0; exact h.yes k hk h0

theorem page_zero (a : Int) (u : Bool) : pageWay 0 a u = 1 := by unfold pageWay; rw [if_pos (by decide)]

theorem Spread.walk {L : List UInt8} {ats : List Int} (h : Spread L ats) (j : Nat) (hj : j < 512) (t a : Int) (ht : 0 ≤ t ∧ t < 4096) : Spread (walkL 8 L 0 ((j : Int) * 4096 + t) a true) ats := by
  have hjI : 0 ≤ (j : Int) ∧ (j : Int) < 512 := by omega
  have hT := h.tabs.walk (a := a) (u := true) h.len hjI ht
  have hC := h.clean.walk 0 ((j : Int) * 4096 + t) a true
  have hL := h.tabs.walkL (a := a) (u := true) hjI ht
  by_cases hp : pageWay (wordI 8 L 2 j) a true = 0
  · rw [if_pos hp] at hL
    have hX := wordI_ok 8 L 2 j
    have hw : ∀ k : Nat, wordI 8 (walkL 8 L 0 ((j : Int) * 4096 + t) a true) 2 k = if k = j then markOf (wordI 8 L 2 j) a else wordI 8 L 2 k := fun k => by
      rw [hL, wordI_set h.len (by decide) hjI (okU_mark _ _ hX)]
      by_cases e : k = j
      · rw [if_pos e, if_pos ⟨rfl, by omega⟩]
      · rw [if_neg e, if_neg (by omega)]
    refine ⟨by rw [hL]; exact setL_length _ _ _ _ _ h.len, hT, hC, h.al, h.rng, fun k hk h0 => ?_, fun k hk h0 => ?_⟩
    · rw [hw]
      split
      · rename_i e
        subst e
        rw [h.no k hk h0, page_zero] at hp
        cases hp
      · exact h.no k hk h0
    · rw [hw]
      split
      · rename_i e
        subst e
        rw [page_mark _ _ _ _ hX, page_mark _ _ _ _ hX, mark_ppn _ _ hX]
        exact h.yes k hk h0
      · exact h.yes k hk h0
  · rw [if_neg hp] at hL
    rw [hL]
    exact h
theorem Spread.tells {L : List UInt8} {ats : List Int} (h : Spread L ats) (j : Nat) (hj : j < 512) (a : Int) (ha : a = 1 ∨ a = 2) :
    (ats.getD j 0 = 0 → walkV 8 L 0 ((j : Int) * 4096 + 9) a true = .tuple #[.int .i64 1, .int .i64 0, .int .i64 0]) ∧ (ats.getD j 0 ≠ 0 → walkV 8 L 0 ((j : Int) * 4096 + 9) a true = .tuple #[.int .i64 0, .int .i64 (2 + ats.getD j 0), .int .i64 9]) := by
  have hjI : 0 ≤ (j : Int) ∧ (j : Int) < 512 := by omega
  have hV := h.tabs.walkV (a := a) (u := true) hjI (show (0 : Int) ≤ 9 ∧ (9 : Int) < 4096 by decide)
  refine ⟨fun h0 => ?_, fun h0 => ?_⟩
  · rw [hV, h.no j hj h0, page_zero, if_neg (by decide)]
  · obtain ⟨y1, y2, y3⟩ := h.yes j hj h0
    have hp : pageWay (wordI 8 L 2 j) a true = 0 := by rcases ha with rfl | rfl <;> assumption
    rw [hV, if_pos hp, y3]

theorem way_out (L : List UInt8) (a : Int) : walkV 8 L 8 0 a true = .tuple #[.int .i64 2, .int .i64 0, .int .i64 0] ∧ walkV 8 L 0 274877906944 a true = .tuple #[.int .i64 2, .int .i64 0, .int .i64 0] := by
  have h1 : wayOf 8 L 8 0 a true = 2 := by unfold wayOf; rw [if_pos (by decide)]
  have h2 : wayOf 8 L 0 274877906944 a true = 2 := by unfold wayOf; rw [if_pos (by decide)]
  exact ⟨walkV_no h1 (by decide), walkV_no h2 (by decide)⟩

/-! Rows. -/
def wordCells (A : WordV) : List Value := [.int .i64 A.fr, .int .i64 A.ix, .int .i64 A.fl, .int .i64 A.pp]
def WordsOwn (w : World) (base : Nat) (v : Value) (Ws : List WordV) : Prop := w.ownsRow base 66 4 v Ws.length (Ws.flatMap wordCells)

section
variable {w : World} {base : Nat} {v : Value} {Ws : List WordV}
theorem WordsOwn.form (h : WordsOwn w base v Ws) : ∃ a c, v = .slice a Ws.length c := by
  rcases h.2 with ⟨rfl, h0⟩ | ⟨g, cap, cur, rfl, _⟩
  · exact ⟨none, 0, by rw [h0]⟩
  · exact ⟨_, _, rfl⟩
theorem WordsOwn.lt (h : WordsOwn w base v Ws) {g : Nat} (hg : v.ownBlock = some g) : base ≤ g ∧ g < w.heap.size := World.ownsRow.lt h g hg
theorem WordsOwn.kept {w' : World} (h : WordsOwn w base v Ws) (hb : ∀ g, v.ownBlock = some g → w'.heap[g]? = w.heap[g]?) : WordsOwn w' base v Ws := by
  refine ⟨h.1, ?_⟩
  rcases h.2 with hn | ⟨g, cap, cur, rfl, hb2, hgg, rest⟩
  · exact .inl hn
  · exact .inr ⟨g, cap, cur, rfl, hb2, (hb g rfl).trans hgg, rest⟩
theorem WordsOwn.tag (h : WordsOwn w base v Ws) {b : Nat} {cs : Array Value} {t : TypeId} (hb : w.heap[b]? = some (.cells cs t (0, 0))) (ht : t ≠ 66) : v.ownBlock ≠ some b := by
  rcases h.2 with ⟨rfl, _⟩ | ⟨g, cap, cur, rfl, _, hg, _⟩
  · simp [Value.ownBlock]
  · intro e
    simp only [Value.ownBlock, Option.some.injEq] at e
    subst e
    rw [hb] at hg
    simp only [Option.some.injEq, Obj.cells.injEq] at hg
    exact ht hg.2.1
theorem WordsOwn.are {a : Option Addr} {c : Nat} (h : WordsOwn w base (.slice a Ws.length c) Ws) : WordsAre w a Ws.length Ws := by
  refine ⟨rfl, ?_⟩
  by_cases h0 : Ws.length = 0
  · exact .inl h0
  · right
    rcases h.2 with ⟨e, h1⟩ | ⟨g, cap, cur, e, _, hg, _, _, hsz, htk⟩
    · exact absurd h1 h0
    · cases e
      refine ⟨g, 0, rfl, fun i A hi => ?_⟩
      have key : ∀ (Ws : List WordV) (i j : Nat) (A : WordV), Ws[i]? = some A → j < 4 → (Ws.flatMap wordCells)[i * 4 + j]? = (wordCells A)[j]? := by
        intro Ws
        induction Ws with
        | nil => intro i j A h; simp at h
        | cons B Ws ih =>
          intro i j A h hj
          rw [List.flatMap_cons]
          cases i with
          | zero =>
            simp at h
            subst h
            rw [List.getElem?_append_left (by simp [wordCells]; omega)]
            simp
          | succ i =>
            rw [List.getElem?_append_right (by simp [wordCells]; omega)]
            have e : (i + 1) * 4 + j - (wordCells B).length = i * 4 + j := by simp [wordCells]; omega
            rw [e]
            exact ih i j A (by simpa using h) hj
      have hil := (List.getElem?_eq_some_iff.1 hi).1
      have at' : ∀ j, j < 4 → w.cell? ⟨g, 0 + i * 4 + j, none⟩ = (wordCells A)[j]? := fun j hj => by
        rw [cell_of_row _ g (0 + i * 4 + j) _ _ (0, 0) hg, ← key Ws i j A hi hj, ← htk]
        rw [List.getElem?_take, if_pos (by omega), Array.getElem?_toList]
        congr 1
        omega
      exact ⟨at' 0 (by omega), at' 1 (by omega), at' 2 (by omega), at' 3 (by omega)⟩
theorem WordsOwn.base2 (w : World) : WordsOwn (w.alloc (.cells #[.int .i64 0, .int .i64 0, .int .i64 1, .int .i64 1, .int .i64 1, .int .i64 0, .int .i64 1, .int .i64 2] 66)) w.heap.size (.slice (some ⟨w.heap.size, 0, none⟩) 2 2) baseW :=
  ⟨rfl, .inr ⟨w.heap.size, 2, _, rfl, Nat.le_refl _, heap_alloc_new w _, Nat.le_refl _, by unfold maxLen; omega, rfl, rfl⟩⟩
end

theorem info_word : (Try.prog.info? 66).map (fun i => (i.zero, i.size, i.bytes)) = some (some (.agg #[.int .i64 0, .int .i64 0, .int .i64 0, .int .i64 0]), 4, 32) := by kernel_rfl

/-- 'append(l, x)', behind the block in which x is laid. -/
theorem wpList_word {ops : Array Oper} {rest : List Oper} {o : Oper} {a : Act} {Q : Exit → Act → World → Prop} (w : World) (hgd : o.guard = none) (s x : Operand)
    (ho : o.op = .call { callee := .builtin .append, args := #[s, x], argTypes := #[22, 22] }) (base : Nat) (v : Value) (xs : List WordV) (y : WordV) (hs : a.eval s = v) (h : WordsOwn w base v xs) (H c : Nat)
    (hx : a.eval x = .slice (some ⟨H, 0, none⟩) 1 c) (hH : w.heap.size = H) (hl : xs.length ≤ 1000000) (hbase : base ≤ H)
    (hK : ∀ g cap w', WordsOwn w' base (.slice (some ⟨g, 0, none⟩) (xs.length + 1) cap) (xs ++ [y]) → (w.alloc (.cells #[.int .i64 y.fr, .int .i64 y.ix, .int .i64 y.fl, .int .i64 y.pp] 66)).grownBy w' v.ownBlock → wpList Try.prog ops Q rest (a.put o.dst (.slice (some ⟨g, 0, none⟩) (xs.length + 1) cap)) w') :
    wpList Try.prog ops Q (o :: rest) a (w.alloc (.cells #[.int .i64 y.fr, .int .i64 y.ix, .int .i64 y.fl, .int .i64 y.pp] 66)) := by
  obtain ⟨i0, hi, hz0, hz1, hz2⟩ := info_parts info_word
  subst hH
  refine wpList_append_lies _ hgd s x 22 ho base 66 i0 (.agg #[.int .i64 0, .int .i64 0, .int .i64 0, .int .i64 0]) 4 32 Try.underlying22 hi hz0 hz1 hz2 rfl (by decide) v xs.length (xs.flatMap wordCells) hs (World.ownsRow.alloc h _) ⟨w.heap.size, 0, none⟩ 1 c (wordCells y) hx rfl ?_ ?_ (by omega) (by unfold maxLen; omega) (by omega) (by simp; omega) (w.heap.size + 1) (by simp) ?_
  · exact World.news_of_block (heap_alloc_new w _)
  · intro u hu; simp [wordCells] at hu; rcases hu with rfl | rfl | rfl | rfl <;> rfl
  · intro g cap w' hown hgrow hat hlt
    refine hK g cap w' ?_ hgrow
    unfold WordsOwn
    simp only [List.length_append, List.length_cons, List.length_nil, List.flatMap_append, List.flatMap_cons, List.flatMap_nil, List.append_nil]
    exact hown

/-- A slice that reads as uints. -/
structure UintsAre (w : World) (s : Option Addr) (l : Nat) (xs : List Int) : Prop where
  len : xs.length = l
  cells : l = 0 ∨ ∃ g o, s = some ⟨g, o, none⟩ ∧ ∀ i x, xs[i]? = some x → w.cell? ⟨g, o + i, none⟩ = some (.int .u64 x)
  ok : ∀ x, x ∈ xs → okU x
theorem UintsAre.get {w : World} {s : Option Addr} {l : Nat} {xs : List Int} (h : UintsAre w s l xs) (q : Nat) (hq : q < l) : ∃ x g o, xs[q]? = some x ∧ s = some ⟨g, o, none⟩ ∧ w.cell? ⟨g, o + q, none⟩ = some (.int .u64 x) ∧ okU x := by
  rcases h.cells with h0 | ⟨g, o, hs, hc⟩
  · omega
  · have hx : xs[q]? = some (xs[q]'(by rw [h.len]; exact hq)) := List.getElem?_eq_getElem (by rw [h.len]; exact hq)
    exact ⟨_, g, o, hx, hs, hc q _ hx, h.ok _ (List.mem_of_getElem? hx)⟩
theorem UintsAre.below {w w' : World} {s : Option Addr} {l : Nat} {xs : List Int} (h : UintsAre w s l xs) (b : Below w.heap.size w w') : UintsAre w' s l xs := by
  refine ⟨h.len, ?_, h.ok⟩
  rcases h.cells with h0 | ⟨g, o, hs, hc⟩
  · exact .inl h0
  · exact .inr ⟨g, o, hs, fun i x hi => (b.cell (p := ⟨g, o + i, none⟩) (World.block_lt_of_cell? w _ (hc i x hi))).trans (hc i x hi)⟩

/-- A row of uints that the law makes. -/
def UintsOwn (w : World) (base : Nat) (v : Value) (xs : List Int) : Prop := w.ownsRow base 53 1 v xs.length (xs.map (Value.int .u64))

/-- append([]uint{}, b...): a row of the law's own with b's numbers. -/
theorem wpList_cloneU {ops : Array Oper} {rest : List Oper} {o : Oper} {a : Act} {Q : Exit → Act → World → Prop} {w : World} (hg : o.guard = none) (x y : Operand)
    (hop : o.op = Op.call { callee := Callee.builtin Builtin.append, args := #[x, y], argTypes := #[64, 64] })
    (g : Nat) (hb : w.heap[g]? = some (.cells #[] 53 (0, 0))) (hx : a.eval x = .slice (some ⟨g, 0, none⟩) 0 0)
    (s : Option Addr) (l c : Nat) (bs : List Int) (hy : a.eval y = .slice s l c) (hs : UintsAre w s l bs) (hl : l ≤ 1000000)
    (hK : ∀ g' cap w', UintsOwn w' g (.slice (some ⟨g', 0, none⟩) l cap) bs → w.grownBy w' (some g) → wpList Try.prog ops Q rest (a.put o.dst (.slice (some ⟨g', 0, none⟩) l cap)) w') :
    wpList Try.prog ops Q (o :: rest) a w := by
  have hglt := (Array.getElem?_eq_some_iff.1 hb).1
  obtain ⟨i0, hi, hz0, hz1, hz2⟩ := info_parts (show (Try.prog.info? 53).map (fun i => (i.zero, i.size, i.bytes)) = some (some (.int .u64 0), 1, 8) by kernel_rfl)
  have hown : w.ownsRow g 53 1 (.slice (some ⟨g, 0, none⟩) 0 0) 0 [] := ⟨rfl, .inr ⟨g, 0, #[], rfl, Nat.le_refl _, hb, Nat.le_refl _, by simp [maxLen], rfl, rfl⟩⟩
  have key : ∃ v' w', (Builtin.append_ #[64, 64] o.type #[.slice (some ⟨g, 0, none⟩) 0 0, .slice s l c]).run Try.prog w = .ok v' w' ∧ w'.ownsRow g 53 1 v' l (bs.map (Value.int .u64)) ∧ w.grownBy w' (some g) ∧ v' ≠ .slice none 0 0 := by
    by_cases h0 : l = 0
    · have hbs : bs = [] := by have := hs.len; cases bs <;> simp_all
      subst h0 hbs
      refine ⟨.slice (some ⟨g, 0, none⟩) 0 0, w, ?_, by simpa using hown, grown_refl _ _, by simp⟩
      cases s with
      | none => simp [Builtin.append_, run_underlying Try.underlying64, sizeOf, typeInfo, hi, Builtin.lenOf, Builtin.firstCells, storeCells]
      | some ad =>
        have hf := run_firstCells_some (P := Try.prog) w i0.size 0 ad 0 c [] (by simp) (by simp)
        simp [Builtin.append_, run_underlying Try.underlying64, sizeOf, typeInfo, hi, Builtin.lenOf, storeCells, hf]
    · rcases hs.cells with h | ⟨b, p, rfl, hr⟩
      · exact absurd h h0
      · obtain ⟨v', w', hrun, hown', hgr, hnil⟩ := run_append_own (P := Try.prog) w g 64 o.type 53 i0 (.int .u64 0) 1 8 Try.underlying64 hi hz0 hz1 hz2 rfl (by omega) _ 0 [] hown ⟨b, p, none⟩ l c (bs.map (Value.int .u64))
          (by simpa using hs.1) (fun j u hu => by rw [List.getElem?_map] at hu; obtain ⟨x, hx2, rfl⟩ := Option.map_eq_some_iff.1 hu; rw [Addr.add_mid]; exact hr j x hx2) (by intro u hu; obtain ⟨x, _, rfl⟩ := List.mem_map.1 hu; rfl) (by unfold maxLen; omega) (by omega) (by omega)
        refine ⟨v', w', hrun, by simpa using hown', hgr, fun hv => ?_⟩
        have := hnil.1 hv
        simp at this
  obtain ⟨v', w', hrun, hown', hgr, hv'⟩ := key
  rcases hown'.2 with ⟨hn, _⟩ | ⟨g', cap, cur, rfl, _⟩
  · exact absurd hn hv'
  · refine wpList_plain hg fun K hK' => ?_
    have hfin := hK g' cap w' (by unfold UintsOwn; rw [hs.len]; exact hown') hgr
    unfold Oper.wp
    simp [execOp, hop, resolve, invoke, builtin, hx, hy, hrun, Result.andThen]
    exact hK' _ _ hfin

/-- 'append(xs, x)' onto a row of the law's own. -/
theorem wpList_uint {ops : Array Oper} {rest : List Oper} {o : Oper} {a : Act} {Q : Exit → Act → World → Prop} (w : World) (hgd : o.guard = none) (s x : Operand)
    (ho : o.op = .call { callee := .builtin .append, args := #[s, x], argTypes := #[64, 64] }) (base : Nat) (v : Value) (xs : List Int) (y : Int) (hs : a.eval s = v) (h : UintsOwn w base v xs) (H c : Nat)
    (hx : a.eval x = .slice (some ⟨H, 0, none⟩) 1 c) (hH : w.heap.size = H) (hl : xs.length ≤ 1000000) (hbase : base ≤ H)
    (hK : ∀ g cap w', UintsOwn w' base (.slice (some ⟨g, 0, none⟩) (xs.length + 1) cap) (xs ++ [y]) → (w.alloc (.cells #[.int .u64 y] 53)).grownBy w' v.ownBlock → wpList Try.prog ops Q rest (a.put o.dst (.slice (some ⟨g, 0, none⟩) (xs.length + 1) cap)) w') :
    wpList Try.prog ops Q (o :: rest) a (w.alloc (.cells #[.int .u64 y] 53)) := by
  obtain ⟨i0, hi, hz0, hz1, hz2⟩ := info_parts (show (Try.prog.info? 53).map (fun i => (i.zero, i.size, i.bytes)) = some (some (.int .u64 0), 1, 8) by kernel_rfl)
  subst hH
  refine wpList_append_lies _ hgd s x 64 ho base 53 i0 (.int .u64 0) 1 8 Try.underlying64 hi hz0 hz1 hz2 rfl (by decide) v xs.length (xs.map (Value.int .u64)) hs (World.ownsRow.alloc h _) ⟨w.heap.size, 0, none⟩ 1 c [.int .u64 y] hx rfl ?_ ?_ (by omega) (by unfold maxLen; omega) (by omega) (by simp; omega) (w.heap.size + 1) (by simp) ?_
  · exact World.news_of_block (heap_alloc_new w _)
  · intro u hu; simp at hu; subst hu; rfl
  · intro g cap w' hown hgrow hat hlt
    refine hK g cap w' ?_ hgrow
    unfold UintsOwn
    simp only [List.length_append, List.length_cons, List.length_nil, List.map_append, List.map_cons, List.map_nil]
    exact hown
theorem UintsOwn.lt {w : World} {base : Nat} {v : Value} {xs : List Int} (h : UintsOwn w base v xs) {g : Nat} (hg : v.ownBlock = some g) : base ≤ g ∧ g < w.heap.size := World.ownsRow.lt h g hg
theorem UintsOwn.are {w : World} {base : Nat} {g l c : Nat} {xs : List Int} (h : UintsOwn w base (.slice (some ⟨g, 0, none⟩) l c) xs) (hl : xs.length = l) (hok : ∀ x, x ∈ xs → okU x) : UintsAre w (some ⟨g, 0, none⟩) l xs := by
  refine ⟨hl, .inr ⟨g, 0, rfl, fun i x hi => ?_⟩, hok⟩
  have := h.cells (g := g) rfl i (.int .u64 x) (by simp [hi])
  rwa [Addr.add_mid] at this

/-- The array of where pages lead to. -/
def ArrAt (w : World) (y : Nat) (ats : List Int) : Prop := w.heap[y]? = some (.cells (ats.map (Value.int .i64)).toArray 67 (0, 0))
theorem run_zero_ints (W : World) : (zeroValue 67).run Try.prog W = .ok (.agg (zerosI.map (Value.int .i64)).toArray) W := by kernel_rfl
theorem ArrAt.cell {w : World} {y : Nat} {ats : List Int} (h : ArrAt w y ats) (j : Nat) (hj : j < ats.length) : w.cell? ⟨y, j, none⟩ = some (.int .i64 (ats.getD j 0)) ∧ w.frozen? ⟨y, j, none⟩ = false := by
  refine ⟨?_, frozen_of_row _ _ _ _ _ h⟩
  rw [cell_of_row _ _ _ _ _ _ h]
  simp [List.getD, List.getElem?_eq_getElem hj]
theorem ArrAt.set {w : World} {y : Nat} {ats : List Int} (h : ArrAt w y ats) (j : Nat) (x : Int) : ArrAt (w.setCell ⟨y, j, none⟩ (.int .i64 x)) y (ats.set j x) := by
  have e := heap_setCell_same w y j _ _ (.int .i64 x) h
  unfold ArrAt
  rw [e, List.map_set]
  simp
theorem ArrAt.lt {w : World} {y : Nat} {ats : List Int} (h : ArrAt w y ats) : y < w.heap.size := (Array.getElem?_eq_some_iff.1 h).1
end Go.Proofs.Ytomkhdefjfjlnaa
