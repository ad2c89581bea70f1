/- The document's layer 5: what is flushed. -/
import Derived.Test.YtmddflhacamnaaaTRef1
import Derived.Deep.AppendLies
namespace Go.Proofs.Ytmddflhacamnaaa
open Go.ChangeShapes Go.WideShapes Go.ChangeAt Go.RowKit
set_option linter.unusedVariables false

/-- A row of kept ones that a call makes. -/
def KOwn (w : World) (base : Nat) (v : Value) (xs : List KeptV) : Prop := w.ownsRow base 50 4 v xs.length (xs.flatMap keptCells)
section
variable {w w' : World} {base : Nat} {v : Value} {xs : List KeptV}
theorem KOwn.nil (w : World) (base : Nat) : KOwn w base (.slice none 0 0) [] := World.ownsRow_nil _ _ _ _
theorem KOwn.form (h : KOwn w base v xs) : ∃ a c, v = .slice a xs.length c := by
  rcases h.2 with ⟨rfl, h0⟩ | ⟨g, cap, cur, rfl, _⟩
  · exact ⟨none, 0, by rw [h0]⟩
  · exact ⟨_, _, rfl⟩
theorem KOwn.lt (h : KOwn w base v xs) {g : Nat} (hg : v.ownBlock = some g) : base ≤ g ∧ g < w.heap.size := World.ownsRow.lt h g hg
theorem KOwn.kept (h : KOwn w base v xs) (hb : ∀ g, v.ownBlock = some g → w'.heap[g]? = w.heap[g]?) : KOwn w' base v xs := by
  refine ⟨h.1, ?_⟩
  rcases h.2 with hn | ⟨g, cap, cur, rfl, hb2, hgg, rest⟩
  · exact .inl hn
  · exact .inr ⟨g, cap, cur, rfl, hb2, (hb g rfl).trans hgg, rest⟩
end
theorem info_kept : (Try.prog.info? 50).map (fun i => (i.zero, i.size, i.bytes)) = some (some (.agg #[.int .i64 0, .int .i64 0, .int .i64 0, .int .i64 0]), 4, 32) := by kernel_rfl

/-- 'append(s, x)', behind the block in which x is laid. -/
theorem wpList_kept {ops : Array Oper} {rest : List Oper} {o : Oper} {a : Act} {Q : Exit → Act → World → Prop} (w : World) (hgd : o.guard = none) (s x : Operand)
    (ho : o.op = .call { callee := .builtin .append, args := #[s, x], argTypes := #[46, 46] }) (base : Nat) (v : Value) (xs : List KeptV) (y : KeptV) (hs : a.eval s = v) (h : KOwn w base v xs) (H c : Nat)
    (hx : a.eval x = .slice (some ⟨H, 0, none⟩) 1 c) (hH : w.heap.size = H) (hl : xs.length ≤ 134217728) (hbase : base ≤ H)
    (hK : ∀ g cap w', KOwn w' base (.slice (some ⟨g, 0, none⟩) (xs.length + 1) cap) (xs ++ [y]) → (w.alloc (.cells #[.int .i64 y.a, .int .i64 y.v, .int .i64 y.fl, .int .i64 y.pp] 50)).grownBy w' v.ownBlock → wpList Try.prog ops Q rest (a.put o.dst (.slice (some ⟨g, 0, none⟩) (xs.length + 1) cap)) w') :
    wpList Try.prog ops Q (o :: rest) a (w.alloc (.cells #[.int .i64 y.a, .int .i64 y.v, .int .i64 y.fl, .int .i64 y.pp] 50)) := by
  obtain ⟨i0, hi, hz0, hz1, hz2⟩ := info_parts info_kept
  subst hH
  refine wpList_append_lies _ hgd s x 46 ho base 50 i0 (.agg #[.int .i64 0, .int .i64 0, .int .i64 0, .int .i64 0]) 4 32 Try.underlying46 hi hz0 hz1 hz2 rfl (by decide) v xs.length (xs.flatMap keptCells) hs (World.ownsRow.alloc h _) ⟨w.heap.size, 0, none⟩ 1 c (keptCells y) hx rfl ?_ ?_ (by omega) (by unfold maxLen; omega) (by omega) (by simp; omega) (w.heap.size + 1) (by simp) ?_
  · exact World.news_of_block (heap_alloc_new w _)
  · intro u hu; simp [keptCells] at hu; rcases hu with rfl | rfl | rfl | rfl <;> rfl
  · intro g cap w' hown hgrow hat hlt
    refine hK g cap w' ?_ hgrow
    unfold KOwn
    simp only [List.length_append, List.length_cons, List.length_nil, List.flatMap_append, List.flatMap_cons, List.flatMap_nil, List.append_nil]
    exact hown

/-- In drop's loop. -/
structure DropI (w wr : World) (v : Value) (ys : List KeptV) (j : Nat) : Prop where
  grown : w.grownBy wr none
  own : KOwn wr w.heap.size v ys
  len : ys.length ≤ j
section
variable {w wr w2 : World} {v : Value} {ys : List KeptV} {j : Nat}
theorem DropI.grow (h : DropI w wr v ys j) (g : wr.grownBy w2 none) : DropI w w2 v ys j := ⟨grown_trans h.grown g, h.own.kept fun b hb => g.block b (h.own.lt hb).2 (by simp), h.len⟩
theorem DropI.weak {j2 : Nat} (h : DropI w wr v ys j) (hj : j ≤ j2) : DropI w wr v ys j2 := ⟨h.grown, h.own, Nat.le_trans h.len hj⟩
theorem DropI.app {o : Obj} {v2 : Value} {zs : List KeptV} {j2 : Nat} (h : DropI w wr v ys j) (g : (wr.alloc o).grownBy w2 v.ownBlock) (hown : KOwn w2 w.heap.size v2 zs) (hl : zs.length ≤ j2) : DropI w w2 v2 zs j2 := by
  have ga := World.grownBy_alloc wr o none
  cases hv : v.ownBlock with
  | none => rw [hv] at g; exact ⟨grown_trans h.grown (grown_trans ga g), hown, hl⟩
  | some x => rw [hv] at g; exact ⟨grown_at (grown_trans h.grown ga) g (h.own.lt hv).1, hown, hl⟩
/-- The row is the table's. -/
theorem DropI.put {r : Nat} {sz : Int} {xs : List KeptV} {v0 : Value} (h : DropI w wr v ys j) (t : RT w r sz xs v0) (hl : ys.length ≤ xs.length) :
    RT (wr.setCell ⟨r, 1, none⟩ v) r sz ys v ∧ Turn [r] w (wr.setCell ⟨r, 1, none⟩ v) ∧ ∀ b, b ∈ RTO r v → b = r ∨ w.heap.size ≤ b := by
  have hr := t.rlt
  have hh := (h.grown.block r hr (by simp)).trans t.head
  have hrow : ∀ g, v.ownBlock = some g → w.heap.size ≤ g := fun g hg => (h.own.lt hg).1
  have hl2 := t.len
  refine ⟨⟨heap_setCell_same wr r 1 _ _ v hh, (RowAt.own h.own).kept (by simp) (fun a l c hv => heap_setCell_other wr _ _ v (fun e => ?_)), fun e => ?_, t.sz0, t.sz1, by omega⟩, (Turn.grown h.grown).trans' (Turn.setCell [r] wr r 1 v (by simp)), fun b hb => ?_⟩
  · have := hrow a.block (by rw [hv]; rfl)
    simp at e
    omega
  · have := hrow r e
    omega
  · unfold RTO at hb
    rcases List.mem_cons.1 hb with rfl | hb
    · exact .inl rfl
    · exact .inr (hrow b (by simpa using hb))
end

theorem dropK_step {p : KeptV → Bool} {xs : List KeptV} {j : Nat} {y : KeptV} (h : xs[j]? = some y) : dropK p (xs.take (j + 1)) = if p y then dropK p (xs.take j) else dropK p (xs.take j) ++ [y] := by
  unfold dropK
  rw [take_at h, List.filter_append]
  cases hp : p y <;> simp [hp]
theorem dropK_len (p : KeptV → Bool) (xs : List KeptV) : (dropK p xs).length ≤ xs.length := List.length_filter_le _ _


/-- A row that is made lately does not lie in the box of the key. -/
theorem own_past {w wa wr : World} {v : Value} {ys : List KeptV} {x : Nat} {p q : Value} (h : KOwn wr w.heap.size v ys) (hx : v.ownBlock = some x) (hk : TwoB wa w.heap.size 34 p q) (g : wa.grownBy wr none) (hs : wa.heap.size = w.heap.size + 1) : wa.heap.size ≤ x := by
  have h1 := (h.lt hx).1
  rcases Nat.lt_or_ge w.heap.size x with h2 | h2
  · omega
  · have e : x = w.heap.size := by omega
    subst e
    have h3 := (hk.grow g)
    rcases h.2 with ⟨rfl, _⟩ | ⟨g', cap, cur, rfl, _, hg, _⟩
    · simp [Value.ownBlock] at hx
    · obtain rfl : g' = w.heap.size := by simpa [Value.ownBlock] using hx
      rw [show wr.heap[w.heap.size]? = _ from h3] at hg
      cases hg

set_option maxHeartbeats 2000000 in
theorem ref_drop_key {w : World} {r : Nat} {sz : Int} {xs : List KeptV} {v : Value} (h : RT w r sz xs v) (a q : Int) :
    Calls Try.prog 26 #[.pointer (some ⟨r, 0, none⟩), .bool false, .int .i64 0, .agg #[.int .i64 a, .int .i64 q], .bool true] w fun e w' => ∃ v', e = .returned (.int .i64 ((xs.length : Int) - ((dropK (sameK a q) xs).length : Int))) ∧ RT w' r sz (dropK (sameK a q) xs) v' ∧ Turn [r] w w' ∧ ∀ b, b ∈ RTO r v' → b = r ∨ w.heap.size ≤ b := by
  have hlen := h.lenN
  obtain ⟨s, c, hv⟩ := h.row.form
  subst hv
  have HT := Lib.hid h
  have HK := Lib.hid (TwoB.new w 34 (.int .i64 a) (.int .i64 q))
  have HI := Lib.hid (show DropI w (w.alloc (.cells #[.int .i64 a, .int .i64 q] 34)) (.slice none 0 0) (dropK (sameK a q) (xs.take 0)) 0 from ⟨World.grownBy_alloc _ _ _, KOwn.nil _ _, Nat.le_refl _⟩)
  obtain ⟨r0, r1⟩ := (h.grow (World.grownBy_alloc w (.cells #[.int .i64 a, .int .i64 q] 34) none)).at
  have HST := Lib.hid (fun j y hy => dropK_step (p := (sameK a q)) (xs := xs) (j := j) (y := y) hy)
  have HLN := Lib.hid (dropK_len (sameK a q) xs)
  obtain ⟨D, hD⟩ : ∃ D : List KeptV → List KeptV, dropK (sameK a q) = D := ⟨_, rfl⟩
  have HDD := Lib.hid hD
  rw [hD] at HI HST HLN ⊢
  generalize hwa : w.alloc (.cells #[.int .i64 a, .int .i64 q] 34) = wa at *
  clear h hD
  go_enter Try.func26, Try.ntmps26
  go_wp2_with fail
  clear r0 r1
  go_loopw [11, 20] (fun vv iv wr => ∃ j : Nat, j ≤ xs.length ∧ iv = .int .i64 j ∧ Hid (DropI w wr vv (D (xs.take j)) j) ∧ Hid (wa.grownBy wr none)) (fun _ iv _ => xs.length - (intOf iv).toNat)
  case atStart => exact ⟨0, by omega, rfl, HI, grown_refl _ _⟩
  case round =>
    obtain ⟨j, hj, rfl, HJ, HG⟩ := hrel
    have HTr := Lib.hid (HT.out.grow HJ.out.grown)
    by_cases hlt : j < xs.length
    · obtain ⟨y, hy⟩ : ∃ y, xs[j]? = some y := ⟨_, List.getElem?_eq_getElem hlt⟩
      obtain ⟨g, o, c', hsl, k0, k1, k2, k3⟩ := kept_cells HTr.out.row hy
      injection hsl with e1 e2 e3
      subst e1 e3
      have hst := HST.out j y hy
      have HYB := Lib.hid (show KeptB (wr.alloc (.cells #[.int .i64 y.a, .int .i64 y.v, .int .i64 y.fl, .int .i64 y.pp] 50)) wr.heap.size y from heap_alloc_new wr _)
      have HG2 := Lib.hid (grown_trans HG.out (World.grownBy_alloc wr (.cells #[.int .i64 y.a, .int .i64 y.v, .int .i64 y.fl, .int .i64 y.pp] 50) none))
      have HJ2 := Lib.hid (HJ.out.grow (World.grownBy_alloc wr (.cells #[.int .i64 y.a, .int .i64 y.v, .int .i64 y.fl, .int .i64 y.pp] 50) none))
      obtain ⟨z0, z1⟩ := (HK.out.grow HG2.out).at
      obtain ⟨ya, yv, yf, yp⟩ := y
      obtain ⟨b0, b1, b2, b3⟩ := HYB.out.at
      simp only at *
      clear hy
      by_cases ha : ya = a
      · subst ha
        by_cases hq : yv = q
        · subst hq
          rw [if_pos (by simp [sameK])] at hst
          have HS := Lib.hid hst
          clear hst
          go_wp2_with fail
          go_roundw
          case rel => exact ⟨j + 1, by omega, by go_num, by rw [HS.out]; exact Lib.hid (HJ2.out.weak (by omega)), HG2⟩
          case measure => simp [intOf]; omega
        · have hb : (yv == q) = false := by simpa using hq
          rw [if_neg (by simp [sameK, hq])] at hst
          clear hq
          have HS := Lib.hid hst
          have hln := HJ2.out.len
          have hbs := HJ2.out.grown.size
          clear hst
          go_wp2_with (at_builtin; refine wpList_kept _ rfl _ _ rfl w.heap.size _ _ ⟨ya, yv, yf, yp⟩ (by rfl) HJ2.out.own (wr.heap.size + 1) _ (by rfl) (by simp) (by omega) (by simp at hbs; omega) ?_; intro g8 cap8 w8 hown8 hg8)
          have HJ3 := Lib.hid (HJ2.out.app (j2 := j + 1) hg8 hown8 (by simp; omega))
          have HG3 := Lib.hid (show wa.grownBy w8 none from by
            have h1 := HJ2.out.own
            have ga := World.grownBy_alloc (wr.alloc (.cells #[.int .i64 ya, .int .i64 yv, .int .i64 yf, .int .i64 yp] 50)) (.cells #[.int .i64 ya, .int .i64 yv, .int .i64 yf, .int .i64 yp] 50) none
            have hsw : wa.heap.size = w.heap.size + 1 := by rw [← hwa]; simp
            have hnk : ∀ x, Value.ownBlock u11 = some x → wa.heap.size ≤ x := fun x hx => own_past h1 hx HK.out HG2.out hsw
            cases hvv : Value.ownBlock u11 with
            | none => rw [hvv] at hg8; exact grown_trans HG2.out (grown_trans ga hg8)
            | some x => rw [hvv] at hg8; exact grown_at (grown_trans HG2.out ga) hg8 (hnk x hvv))
          clear hown8 hg8 hln hbs
          go_wp2_with fail
          go_roundw
          case rel => exact ⟨j + 1, by omega, by go_num, by rw [HS.out]; exact HJ3, HG3⟩
          case measure => simp [intOf]; omega
      · have hb : (ya == a) = false := by simpa using ha
        rw [if_neg (by simp [sameK, ha])] at hst
        clear ha
        have HS := Lib.hid hst
        have hln := HJ2.out.len
        have hbs := HJ2.out.grown.size
        clear hst
        go_wp2_with (at_builtin; refine wpList_kept _ rfl _ _ rfl w.heap.size _ _ ⟨ya, yv, yf, yp⟩ (by rfl) HJ2.out.own (wr.heap.size + 1) _ (by rfl) (by simp) (by omega) (by simp at hbs; omega) ?_; intro g8 cap8 w8 hown8 hg8)
        have HJ3 := Lib.hid (HJ2.out.app (j2 := j + 1) hg8 hown8 (by simp; omega))
        have HG3 := Lib.hid (show wa.grownBy w8 none from by
          have h1 := HJ2.out.own
          have ga := World.grownBy_alloc (wr.alloc (.cells #[.int .i64 ya, .int .i64 yv, .int .i64 yf, .int .i64 yp] 50)) (.cells #[.int .i64 ya, .int .i64 yv, .int .i64 yf, .int .i64 yp] 50) none
          have hsw : wa.heap.size = w.heap.size + 1 := by rw [← hwa]; simp
          have hnk : ∀ x, Value.ownBlock u11 = some x → wa.heap.size ≤ x := fun x hx => own_past h1 hx HK.out HG2.out hsw
          cases hvv : Value.ownBlock u11 with
          | none => rw [hvv] at hg8; exact grown_trans HG2.out (grown_trans ga hg8)
          | some x => rw [hvv] at hg8; exact grown_at (grown_trans HG2.out ga) hg8 (hnk x hvv))
        clear hown8 hg8 hln hbs
        go_wp2_with fail
        go_roundw
        case rel => exact ⟨j + 1, by omega, by go_num, by rw [HS.out]; exact HJ3, HG3⟩
        case measure => simp [intOf]; omega
    · obtain rfl : j = xs.length := by omega
      have HJe := Lib.hid (show DropI w wr u11 (D xs) xs.length by have := HJ.out; rwa [List.take_length] at this)
      obtain ⟨r0, r1⟩ := HTr.out.at
      have hfr := frozen_of_row wr r 1 _ _ HTr.out.head
      have hPut := HJe.out.put HT.out HLN.out
      have HP := Lib.hid hPut
      obtain ⟨s9, c9, hv9⟩ := HJe.out.own.form
      subst hv9
      have hl9 := HLN.out
      clear hPut
      go_wp2_with fail
      go_ret
      exact ⟨_, rfl, HP.out.1, HP.out.2.1, HP.out.2.2⟩

set_option maxHeartbeats 2000000 in
theorem ref_drop_asid {w : World} {r : Nat} {sz : Int} {xs : List KeptV} {v : Value} (h : RT w r sz xs v) (asid a q : Int) :
    Calls Try.prog 26 #[.pointer (some ⟨r, 0, none⟩), .bool false, .int .i64 asid, .agg #[.int .i64 a, .int .i64 q], .bool false] w fun e w' => ∃ v', e = .returned (.int .i64 ((xs.length : Int) - ((dropK (fun x => x.a == asid) xs).length : Int))) ∧ RT w' r sz (dropK (fun x => x.a == asid) xs) v' ∧ Turn [r] w w' ∧ ∀ b, b ∈ RTO r v' → b = r ∨ w.heap.size ≤ b := by
  have hlen := h.lenN
  obtain ⟨s, c, hv⟩ := h.row.form
  subst hv
  have HT := Lib.hid h
  have HK := Lib.hid (TwoB.new w 34 (.int .i64 a) (.int .i64 q))
  have HI := Lib.hid (show DropI w (w.alloc (.cells #[.int .i64 a, .int .i64 q] 34)) (.slice none 0 0) (dropK (fun x => x.a == asid) (xs.take 0)) 0 from ⟨World.grownBy_alloc _ _ _, KOwn.nil _ _, Nat.le_refl _⟩)
  obtain ⟨r0, r1⟩ := (h.grow (World.grownBy_alloc w (.cells #[.int .i64 a, .int .i64 q] 34) none)).at
  have HST := Lib.hid (fun j y hy => dropK_step (p := (fun x => x.a == asid)) (xs := xs) (j := j) (y := y) hy)
  have HLN := Lib.hid (dropK_len (fun x => x.a == asid) xs)
  obtain ⟨D, hD⟩ : ∃ D : List KeptV → List KeptV, dropK (fun x => x.a == asid) = D := ⟨_, rfl⟩
  have HDD := Lib.hid hD
  rw [hD] at HI HST HLN ⊢
  generalize hwa : w.alloc (.cells #[.int .i64 a, .int .i64 q] 34) = wa at *
  clear h hD
  go_enter Try.func26, Try.ntmps26
  go_wp2_with fail
  clear r0 r1
  go_loopw [11, 20] (fun vv iv wr => ∃ j : Nat, j ≤ xs.length ∧ iv = .int .i64 j ∧ Hid (DropI w wr vv (D (xs.take j)) j) ∧ Hid (wa.grownBy wr none)) (fun _ iv _ => xs.length - (intOf iv).toNat)
  case atStart => exact ⟨0, by omega, rfl, HI, grown_refl _ _⟩
  case round =>
    obtain ⟨j, hj, rfl, HJ, HG⟩ := hrel
    have HTr := Lib.hid (HT.out.grow HJ.out.grown)
    by_cases hlt : j < xs.length
    · obtain ⟨y, hy⟩ : ∃ y, xs[j]? = some y := ⟨_, List.getElem?_eq_getElem hlt⟩
      obtain ⟨g, o, c', hsl, k0, k1, k2, k3⟩ := kept_cells HTr.out.row hy
      injection hsl with e1 e2 e3
      subst e1 e3
      have hst := HST.out j y hy
      have HYB := Lib.hid (show KeptB (wr.alloc (.cells #[.int .i64 y.a, .int .i64 y.v, .int .i64 y.fl, .int .i64 y.pp] 50)) wr.heap.size y from heap_alloc_new wr _)
      have HG2 := Lib.hid (grown_trans HG.out (World.grownBy_alloc wr (.cells #[.int .i64 y.a, .int .i64 y.v, .int .i64 y.fl, .int .i64 y.pp] 50) none))
      have HJ2 := Lib.hid (HJ.out.grow (World.grownBy_alloc wr (.cells #[.int .i64 y.a, .int .i64 y.v, .int .i64 y.fl, .int .i64 y.pp] 50) none))
      obtain ⟨z0, z1⟩ := (HK.out.grow HG2.out).at
      obtain ⟨ya, yv, yf, yp⟩ := y
      obtain ⟨b0, b1, b2, b3⟩ := HYB.out.at
      simp only at *
      clear hy
      by_cases ha : ya = asid
      · subst ha
        rw [if_pos (by simp)] at hst
        have HS := Lib.hid hst
        clear hst
        go_wp2_with fail
        go_roundw
        case rel => exact ⟨j + 1, by omega, by go_num, by rw [HS.out]; exact Lib.hid (HJ2.out.weak (by omega)), HG2⟩
        case measure => simp [intOf]; omega
      · have hb : (ya == asid) = false := by simpa using ha
        rw [if_neg (by simpa using ha)] at hst
        clear ha
        have HS := Lib.hid hst
        have hln := HJ2.out.len
        have hbs := HJ2.out.grown.size
        clear hst
        go_wp2_with (at_builtin; refine wpList_kept _ rfl _ _ rfl w.heap.size _ _ ⟨ya, yv, yf, yp⟩ (by rfl) HJ2.out.own (wr.heap.size + 1) _ (by rfl) (by simp) (by omega) (by simp at hbs; omega) ?_; intro g8 cap8 w8 hown8 hg8)
        have HJ3 := Lib.hid (HJ2.out.app (j2 := j + 1) hg8 hown8 (by simp; omega))
        have HG3 := Lib.hid (show wa.grownBy w8 none from by
          have h1 := HJ2.out.own
          have ga := World.grownBy_alloc (wr.alloc (.cells #[.int .i64 ya, .int .i64 yv, .int .i64 yf, .int .i64 yp] 50)) (.cells #[.int .i64 ya, .int .i64 yv, .int .i64 yf, .int .i64 yp] 50) none
          have hsw : wa.heap.size = w.heap.size + 1 := by rw [← hwa]; simp
          have hnk : ∀ x, Value.ownBlock u11 = some x → wa.heap.size ≤ x := fun x hx => own_past h1 hx HK.out HG2.out hsw
          cases hvv : Value.ownBlock u11 with
          | none => rw [hvv] at hg8; exact grown_trans HG2.out (grown_trans ga hg8)
          | some x => rw [hvv] at hg8; exact grown_at (grown_trans HG2.out ga) hg8 (hnk x hvv))
        clear hown8 hg8 hln hbs
        go_wp2_with fail
        go_roundw
        case rel => exact ⟨j + 1, by omega, by go_num, by rw [HS.out]; exact HJ3, HG3⟩
        case measure => simp [intOf]; omega
    · obtain rfl : j = xs.length := by omega
      have HJe := Lib.hid (show DropI w wr u11 (D xs) xs.length by have := HJ.out; rwa [List.take_length] at this)
      obtain ⟨r0, r1⟩ := HTr.out.at
      have hfr := frozen_of_row wr r 1 _ _ HTr.out.head
      have hPut := HJe.out.put HT.out HLN.out
      have HP := Lib.hid hPut
      obtain ⟨s9, c9, hv9⟩ := HJe.out.own.form
      subst hv9
      have hl9 := HLN.out
      clear hPut
      go_wp2_with fail
      go_ret
      exact ⟨_, rfl, HP.out.1, HP.out.2.1, HP.out.2.2⟩

set_option maxHeartbeats 2000000 in
theorem ref_drop_all {w : World} {r : Nat} {sz : Int} {xs : List KeptV} {v : Value} (h : RT w r sz xs v) (asid a q : Int) :
    Calls Try.prog 26 #[.pointer (some ⟨r, 0, none⟩), .bool true, .int .i64 asid, .agg #[.int .i64 a, .int .i64 q], .bool false] w fun e w' => ∃ v', e = .returned (.int .i64 ((xs.length : Int) - ((dropK (fun _ => true) xs).length : Int))) ∧ RT w' r sz (dropK (fun _ => true) xs) v' ∧ Turn [r] w w' ∧ ∀ b, b ∈ RTO r v' → b = r ∨ w.heap.size ≤ b := by
  have hlen := h.lenN
  obtain ⟨s, c, hv⟩ := h.row.form
  subst hv
  have HT := Lib.hid h
  have HK := Lib.hid (TwoB.new w 34 (.int .i64 a) (.int .i64 q))
  have HI := Lib.hid (show DropI w (w.alloc (.cells #[.int .i64 a, .int .i64 q] 34)) (.slice none 0 0) (dropK (fun _ => true) (xs.take 0)) 0 from ⟨World.grownBy_alloc _ _ _, KOwn.nil _ _, Nat.le_refl _⟩)
  obtain ⟨r0, r1⟩ := (h.grow (World.grownBy_alloc w (.cells #[.int .i64 a, .int .i64 q] 34) none)).at
  have HST := Lib.hid (fun j y hy => dropK_step (p := (fun _ => true)) (xs := xs) (j := j) (y := y) hy)
  have HLN := Lib.hid (dropK_len (fun _ => true) xs)
  obtain ⟨D, hD⟩ : ∃ D : List KeptV → List KeptV, dropK (fun _ => true) = D := ⟨_, rfl⟩
  have HDD := Lib.hid hD
  rw [hD] at HI HST HLN ⊢
  generalize hwa : w.alloc (.cells #[.int .i64 a, .int .i64 q] 34) = wa at *
  clear h hD
  go_enter Try.func26, Try.ntmps26
  go_wp2_with fail
  clear r0 r1
  go_loopw [11, 20] (fun vv iv wr => ∃ j : Nat, j ≤ xs.length ∧ iv = .int .i64 j ∧ Hid (DropI w wr vv (D (xs.take j)) j) ∧ Hid (wa.grownBy wr none)) (fun _ iv _ => xs.length - (intOf iv).toNat)
  case atStart => exact ⟨0, by omega, rfl, HI, grown_refl _ _⟩
  case round =>
    obtain ⟨j, hj, rfl, HJ, HG⟩ := hrel
    have HTr := Lib.hid (HT.out.grow HJ.out.grown)
    by_cases hlt : j < xs.length
    · obtain ⟨y, hy⟩ : ∃ y, xs[j]? = some y := ⟨_, List.getElem?_eq_getElem hlt⟩
      obtain ⟨g, o, c', hsl, k0, k1, k2, k3⟩ := kept_cells HTr.out.row hy
      injection hsl with e1 e2 e3
      subst e1 e3
      have hst := HST.out j y hy
      have HYB := Lib.hid (show KeptB (wr.alloc (.cells #[.int .i64 y.a, .int .i64 y.v, .int .i64 y.fl, .int .i64 y.pp] 50)) wr.heap.size y from heap_alloc_new wr _)
      have HG2 := Lib.hid (grown_trans HG.out (World.grownBy_alloc wr (.cells #[.int .i64 y.a, .int .i64 y.v, .int .i64 y.fl, .int .i64 y.pp] 50) none))
      have HJ2 := Lib.hid (HJ.out.grow (World.grownBy_alloc wr (.cells #[.int .i64 y.a, .int .i64 y.v, .int .i64 y.fl, .int .i64 y.pp] 50) none))
      obtain ⟨z0, z1⟩ := (HK.out.grow HG2.out).at
      obtain ⟨ya, yv, yf, yp⟩ := y
      obtain ⟨b0, b1, b2, b3⟩ := HYB.out.at
      simp only at *
      clear hy
      rw [if_pos trivial] at hst
      have HS := Lib.hid hst
      clear hst
      go_wp2_with fail
      go_roundw
      case rel => exact ⟨j + 1, by omega, by go_num, by rw [HS.out]; exact Lib.hid (HJ2.out.weak (by omega)), HG2⟩
      case measure => simp [intOf]; omega
    · obtain rfl : j = xs.length := by omega
      have HJe := Lib.hid (show DropI w wr u11 (D xs) xs.length by have := HJ.out; rwa [List.take_length] at this)
      obtain ⟨r0, r1⟩ := HTr.out.at
      have hfr := frozen_of_row wr r 1 _ _ HTr.out.head
      have hPut := HJe.out.put HT.out HLN.out
      have HP := Lib.hid hPut
      obtain ⟨s9, c9, hv9⟩ := HJe.out.own.form
      subst hv9
      have hl9 := HLN.out
      clear hPut
      go_wp2_with fail
      go_ret
      exact ⟨_, rfl, HP.out.1, HP.out.2.1, HP.out.2.2⟩
end Go.Proofs.Ytmddflhacamnaaa
