/- The document's files of layer 10: pages without some. -/
import Derived.Test.YtlaniifbfgcfaaaIRef2
namespace Go.Proofs.Ytlaniifbfgcfaaa
open Go.ChangeShapes Go.WideShapes Go.ChangeAt Go.RowKit Go.Deep
open Extern.Stop (cell)
set_option linter.unusedVariables false

/-- A row of pages that a call makes. -/
def POwn (w : World) (base : Nat) (v : Value) (xs : List PE) : Prop := w.ownsRow base 75 3 v xs.length (xs.flatMap peCells)
section
variable {w w' : World} {base : Nat} {v : Value} {xs : List PE}
theorem POwn.nil (w : World) (base : Nat) : POwn w base (.slice none 0 0) [] := World.ownsRow_nil _ _ _ _
theorem POwn.form (h : POwn w base v xs) : ∃ a c, v = .slice a xs.length c := by
  rcases h.2 with ⟨rfl, h0⟩ | ⟨g, cap, cur, rfl, _⟩
  · exact ⟨none, 0, by rw [h0]⟩
  · exact ⟨_, _, rfl⟩
theorem POwn.lt (h : POwn w base v xs) {g : Nat} (hg : v.ownBlock = some g) : base ≤ g ∧ g < w.heap.size := World.ownsRow.lt h g hg
theorem POwn.kept (h : POwn w base v xs) (hb : ∀ g, v.ownBlock = some g → w'.heap[g]? = w.heap[g]?) : POwn w' base v xs := by
  refine ⟨h.1, ?_⟩
  rcases h.2 with hn | ⟨g, cap, cur, rfl, hb2, hgg, rest⟩
  · exact .inl hn
  · exact .inr ⟨g, cap, cur, rfl, hb2, (hb g rfl).trans hgg, rest⟩
theorem POwn.grow (h : POwn w base v xs) (g : w.grownBy w' none) : POwn w' base v xs := h.kept fun b hb => g.block b (h.lt hb).2 (by simp)
end
theorem info_page : (Try.prog.info? 75).map (fun i => (i.zero, i.size, i.bytes)) = some (some (.agg #[.int .i64 0, .int .i64 0, .slice none 0 0]), 3, 40) := by kernel_rfl
/-- 'append(l, x)', behind the block in which x is laid. -/
theorem wpList_pe {ops : Array Oper} {rest : List Oper} {o : Oper} {a : Act} {Q : Exit → Act → World → Prop} (w : World) (hgd : o.guard = none) (s x : Operand)
    (ho : o.op = .call { callee := .builtin .append, args := #[s, x], argTypes := #[29, 29] }) (base : Nat) (v : Value) (xs : List PE) (y : PE) (hs : a.eval s = v) (h : POwn w base v xs) (H c : Nat)
    (hx : a.eval x = .slice (some ⟨H, 0, none⟩) 1 c) (hH : w.heap.size = H) (hl : xs.length ≤ 1000000) (hbase : base ≤ H)
    (hK : ∀ g cap w', POwn w' base (.slice (some ⟨g, 0, none⟩) (xs.length + 1) cap) (xs ++ [y]) → (w.alloc (.cells #[.int .i64 y.i, .int .i64 y.n, .slice (some ⟨y.g, 0, none⟩) 4096 y.c] 75)).grownBy w' v.ownBlock → wpList Try.prog ops Q rest (a.put o.dst (.slice (some ⟨g, 0, none⟩) (xs.length + 1) cap)) w') :
    wpList Try.prog ops Q (o :: rest) a (w.alloc (.cells #[.int .i64 y.i, .int .i64 y.n, .slice (some ⟨y.g, 0, none⟩) 4096 y.c] 75)) := by
  obtain ⟨i0, hi, hz0, hz1, hz2⟩ := info_parts info_page
  subst hH
  refine wpList_append_lies _ hgd s x 29 ho base 75 i0 (.agg #[.int .i64 0, .int .i64 0, .slice none 0 0]) 3 40 Try.underlying29 hi hz0 hz1 hz2 rfl (by decide) v xs.length (xs.flatMap peCells) hs (World.ownsRow.alloc h _) ⟨w.heap.size, 0, none⟩ 1 c (peCells y) hx rfl ?_ ?_ (by omega) (by unfold maxLen; omega) (by omega) (by simp; omega) (w.heap.size + 1) (by simp) ?_
  · exact World.news_of_block (heap_alloc_new w _)
  · intro u hu; simp [peCells] at hu; rcases hu with rfl | rfl | rfl <;> rfl
  · intro g cap w' hown hgrow hat hlt
    refine hK g cap w' ?_ hgrow
    unfold POwn
    simp only [List.length_append, List.length_cons, List.length_nil, List.flatMap_append, List.flatMap_cons, List.flatMap_nil, List.append_nil]
    exact hown

/-- Is it taken out? -/
def outP (i n : Int) (all : Bool) (x : PE) : Bool := decide (x.i = i) && (decide (x.n = n) || (all && decide (n ≤ x.n)))
def lessP (p : PE → Bool) (xs : List PE) : List PE := xs.filter fun x => !p x
theorem takel_at {α : Type} {xs : List α} {j : Nat} {y : α} (h : xs[j]? = some y) : xs.take (j + 1) = xs.take j ++ [y] := by rw [List.take_add_one, h]; rfl
theorem lessP_step {p : PE → Bool} {xs : List PE} {j : Nat} {y : PE} (h : xs[j]? = some y) : lessP p (xs.take (j + 1)) = if p y then lessP p (xs.take j) else lessP p (xs.take j) ++ [y] := by
  unfold lessP
  rw [takel_at h, List.filter_append]
  cases hp : p y <;> simp [hp]
theorem lessP_len (p : PE → Bool) (xs : List PE) : (lessP p xs).length ≤ xs.length := List.length_filter_le _ _

/-- In its loop. -/
structure LessI (w wr : World) (v : Value) (ys : List PE) (j : Nat) : Prop where
  grown : w.grownBy wr none
  own : POwn wr w.heap.size v ys
  len : ys.length ≤ j
section
variable {w wr w2 : World} {v : Value} {ys : List PE} {j : Nat}
theorem LessI.grow (h : LessI w wr v ys j) (g : wr.grownBy w2 none) : LessI w w2 v ys j := ⟨grown_trans h.grown g, h.own.grow g, h.len⟩
theorem LessI.weak {j2 : Nat} (h : LessI w wr v ys j) (hj : j ≤ j2) : LessI w wr v ys j2 := ⟨h.grown, h.own, Nat.le_trans h.len hj⟩
theorem LessI.app {o : Obj} {v2 : Value} {zs : List PE} {j2 : Nat} (h : LessI w wr v ys j) (g : (wr.alloc o).grownBy w2 v.ownBlock) (hown : POwn w2 w.heap.size v2 zs) (hl : zs.length ≤ j2) : LessI w w2 v2 zs j2 := by
  have ga := World.grownBy_alloc wr o none
  cases hv : v.ownBlock with
  | none => rw [hv] at g; exact ⟨grown_trans h.grown (grown_trans ga g), hown, hl⟩
  | some x => rw [hv] at g; exact ⟨grown_at (grown_trans h.grown ga) g (h.own.lt hv).1, hown, hl⟩
end

section
variable {w w' : World} {q : Nat} {s s' : IS} {vz vl : Value} {L : List PE}
set_option maxRecDepth 10000 in
set_option maxHeartbeats 2000000 in
theorem ri_withoutT (h : RI w q s vz vl L) (hl : L.length ≤ 900000) (i0 n : Int) :
    Calls Try.prog 32 #[.pointer (some ⟨q, 0, none⟩), .int .i64 i0, .int .i64 n, .bool true] w fun e w' => ∃ v', e = .returned v' ∧ POwn w' w.heap.size v' (lessP (outP i0 n true) L) ∧ w.grownBy w' none := by
  obtain ⟨l0, l1, l2⟩ := h.at
  obtain ⟨a, c, a2, c2, e1, e2⟩ := h.form
  have HT := Lib.hid h
  have HI := Lib.hid (show LessI w w (.slice none 0 0) (lessP (outP i0 n true) (L.take 0)) 0 from ⟨grown_refl _ _, POwn.nil _ _, Nat.le_refl _⟩)
  have HST := Lib.hid (fun j y hy => lessP_step (p := outP i0 n true) (xs := L) (j := j) (y := y) hy)
  have HLN := Lib.hid (lessP_len (outP i0 n true) L)
  obtain ⟨D, hD⟩ : ∃ D : List PE → List PE, lessP (outP i0 n true) = D := ⟨_, rfl⟩
  rw [hD] at HI HST HLN ⊢
  subst e2
  clear h hD e1
  go_enter Try.func32, Try.ntmps32
  go_wp2_with fail
  clear l0 l1 l2
  go_loopw [9, 17] (fun vv iv wr => ∃ j : Nat, j ≤ L.length ∧ iv = .int .i64 j ∧ Hid (LessI w wr vv (D (L.take j)) j)) (fun _ iv _ => L.length - (intOf iv).toNat)
  case atStart => exact ⟨0, by omega, rfl, HI⟩
  case round =>
    obtain ⟨j, hj, rfl, HJ⟩ := hrel
    have HTr := Lib.hid (HT.out.grow HJ.out.grown)
    by_cases hlt : j < L.length
    · obtain ⟨y, hy⟩ : ∃ y, L[j]? = some y := ⟨_, List.getElem?_eq_getElem hlt⟩
      obtain ⟨g, o, c', hsl, k0, k1, k2⟩ := pe_cells HTr.out.list hy
      injection hsl with e1 e2 e3
      subst e1 e3
      have hst := HST.out j y hy
      have g2 := World.grownBy_alloc wr (.cells #[.int .i64 y.i, .int .i64 y.n, .slice (some ⟨y.g, 0, none⟩) 4096 y.c] 75) none
      have HYB := Lib.hid (show PeB (wr.alloc (.cells #[.int .i64 y.i, .int .i64 y.n, .slice (some ⟨y.g, 0, none⟩) 4096 y.c] 75)) wr.heap.size y from heap_alloc_new wr _)
      obtain ⟨yi, yn, yg, yc, yb⟩ := y
      simp only at *
      generalize hwB : wr.alloc (.cells #[.int .i64 yi, .int .i64 yn, .slice (some ⟨yg, 0, none⟩) 4096 yc] 75) = wB at *
      have HJ2 := Lib.hid (HJ.out.grow g2)
      obtain ⟨b0, b1, b2⟩ := HYB.out.at
      clear g2 hy
      by_cases ha : yi = i0
      · subst ha
        by_cases hq : yn = n
        · subst hq
          rw [if_pos (by simp [outP])] at hst
          have HS := Lib.hid hst
          clear hst
          go_wp2_with fail
          go_roundw
          case rel => exact ⟨j + 1, by omega, by go_num, by rw [HS.out]; exact Lib.hid (HJ2.out.weak (by omega))⟩
          case measure => simp [intOf]; omega
        · have hb : (yn == n) = false := by simpa using hq
          by_cases hge : n ≤ yn
          · have hb2 : decide (yn ≥ n) = true := decide_eq_true hge
            rw [if_pos (by simp [outP, hge])] at hst
            have HS := Lib.hid hst
            clear hst
            go_wp2_with fail
            go_roundw
            case rel => exact ⟨j + 1, by omega, by go_num, by rw [HS.out]; exact Lib.hid (HJ2.out.weak (by omega))⟩
            case measure => simp [intOf]; omega
          · have hb2 : decide (yn ≥ n) = false := decide_eq_false hge
            rw [if_neg (by simp [outP, hq, hge])] at hst
            have HS := Lib.hid hst
            have hln := HJ2.out.len
            have hbs := HJ2.out.grown.size
            clear hst
            go_wp2_with (at_builtin; refine wpList_pe _ rfl _ _ rfl w.heap.size _ _ ⟨yi, yn, yg, yc, yb⟩ (by rfl) HJ2.out.own wB.heap.size _ (by rfl) rfl (by omega) (by omega) ?_; intro g8 cap8 w8 hown8 hg8)
            have HJ3 := Lib.hid (HJ2.out.app (j2 := j + 1) hg8 hown8 (by simp; omega))
            clear hown8 hg8 hln hbs
            go_wp2_with fail
            go_roundw
            case rel => exact ⟨j + 1, by omega, by go_num, by rw [HS.out]; exact HJ3⟩
            case measure => simp [intOf]; omega
      · have hb : (yi == i0) = false := by simpa using ha
        rw [if_neg (by simp [outP, ha])] at hst
        have HS := Lib.hid hst
        have hln := HJ2.out.len
        have hbs := HJ2.out.grown.size
        clear hst
        go_wp2_with (at_builtin; refine wpList_pe _ rfl _ _ rfl w.heap.size _ _ ⟨yi, yn, yg, yc, yb⟩ (by rfl) HJ2.out.own wB.heap.size _ (by rfl) rfl (by omega) (by omega) ?_; intro g8 cap8 w8 hown8 hg8)
        have HJ3 := Lib.hid (HJ2.out.app (j2 := j + 1) hg8 hown8 (by simp; omega))
        clear hown8 hg8 hln hbs
        go_wp2_with fail
        go_roundw
        case rel => exact ⟨j + 1, by omega, by go_num, by rw [HS.out]; exact HJ3⟩
        case measure => simp [intOf]; omega
    · obtain rfl : j = L.length := by omega
      rw [List.take_length] at HJ
      obtain ⟨va, vc, hvf⟩ := HJ.out.own.form
      have HV := Lib.hid hvf
      go_wp2_with fail
      go_ret
      exact ⟨_, rfl, HJ.out.own, HJ.out.grown⟩
set_option maxRecDepth 10000 in
set_option maxHeartbeats 2000000 in
theorem ri_withoutF (h : RI w q s vz vl L) (hl : L.length ≤ 900000) (i0 n : Int) :
    Calls Try.prog 32 #[.pointer (some ⟨q, 0, none⟩), .int .i64 i0, .int .i64 n, .bool false] w fun e w' => ∃ v', e = .returned v' ∧ POwn w' w.heap.size v' (lessP (outP i0 n false) L) ∧ w.grownBy w' none := by
  obtain ⟨l0, l1, l2⟩ := h.at
  obtain ⟨a, c, a2, c2, e1, e2⟩ := h.form
  have HT := Lib.hid h
  have HI := Lib.hid (show LessI w w (.slice none 0 0) (lessP (outP i0 n false) (L.take 0)) 0 from ⟨grown_refl _ _, POwn.nil _ _, Nat.le_refl _⟩)
  have HST := Lib.hid (fun j y hy => lessP_step (p := outP i0 n false) (xs := L) (j := j) (y := y) hy)
  have HLN := Lib.hid (lessP_len (outP i0 n false) L)
  obtain ⟨D, hD⟩ : ∃ D : List PE → List PE, lessP (outP i0 n false) = D := ⟨_, rfl⟩
  rw [hD] at HI HST HLN ⊢
  subst e2
  clear h hD e1
  go_enter Try.func32, Try.ntmps32
  go_wp2_with fail
  clear l0 l1 l2
  go_loopw [9, 17] (fun vv iv wr => ∃ j : Nat, j ≤ L.length ∧ iv = .int .i64 j ∧ Hid (LessI w wr vv (D (L.take j)) j)) (fun _ iv _ => L.length - (intOf iv).toNat)
  case atStart => exact ⟨0, by omega, rfl, HI⟩
  case round =>
    obtain ⟨j, hj, rfl, HJ⟩ := hrel
    have HTr := Lib.hid (HT.out.grow HJ.out.grown)
    by_cases hlt : j < L.length
    · obtain ⟨y, hy⟩ : ∃ y, L[j]? = some y := ⟨_, List.getElem?_eq_getElem hlt⟩
      obtain ⟨g, o, c', hsl, k0, k1, k2⟩ := pe_cells HTr.out.list hy
      injection hsl with e1 e2 e3
      subst e1 e3
      have hst := HST.out j y hy
      have g2 := World.grownBy_alloc wr (.cells #[.int .i64 y.i, .int .i64 y.n, .slice (some ⟨y.g, 0, none⟩) 4096 y.c] 75) none
      have HYB := Lib.hid (show PeB (wr.alloc (.cells #[.int .i64 y.i, .int .i64 y.n, .slice (some ⟨y.g, 0, none⟩) 4096 y.c] 75)) wr.heap.size y from heap_alloc_new wr _)
      obtain ⟨yi, yn, yg, yc, yb⟩ := y
      simp only at *
      generalize hwB : wr.alloc (.cells #[.int .i64 yi, .int .i64 yn, .slice (some ⟨yg, 0, none⟩) 4096 yc] 75) = wB at *
      have HJ2 := Lib.hid (HJ.out.grow g2)
      obtain ⟨b0, b1, b2⟩ := HYB.out.at
      clear g2 hy
      by_cases ha : yi = i0
      · subst ha
        by_cases hq : yn = n
        · subst hq
          rw [if_pos (by simp [outP])] at hst
          have HS := Lib.hid hst
          clear hst
          go_wp2_with fail
          go_roundw
          case rel => exact ⟨j + 1, by omega, by go_num, by rw [HS.out]; exact Lib.hid (HJ2.out.weak (by omega))⟩
          case measure => simp [intOf]; omega
        · have hb : (yn == n) = false := by simpa using hq
          rw [if_neg (by simp [outP, hq])] at hst
          have HS := Lib.hid hst
          have hln := HJ2.out.len
          have hbs := HJ2.out.grown.size
          clear hst
          go_wp2_with (at_builtin; refine wpList_pe _ rfl _ _ rfl w.heap.size _ _ ⟨yi, yn, yg, yc, yb⟩ (by rfl) HJ2.out.own wB.heap.size _ (by rfl) rfl (by omega) (by omega) ?_; intro g8 cap8 w8 hown8 hg8)
          have HJ3 := Lib.hid (HJ2.out.app (j2 := j + 1) hg8 hown8 (by simp; omega))
          clear hown8 hg8 hln hbs
          go_wp2_with fail
          go_roundw
          case rel => exact ⟨j + 1, by omega, by go_num, by rw [HS.out]; exact HJ3⟩
          case measure => simp [intOf]; omega
      · have hb : (yi == i0) = false := by simpa using ha
        rw [if_neg (by simp [outP, ha])] at hst
        have HS := Lib.hid hst
        have hln := HJ2.out.len
        have hbs := HJ2.out.grown.size
        clear hst
        go_wp2_with (at_builtin; refine wpList_pe _ rfl _ _ rfl w.heap.size _ _ ⟨yi, yn, yg, yc, yb⟩ (by rfl) HJ2.out.own wB.heap.size _ (by rfl) rfl (by omega) (by omega) ?_; intro g8 cap8 w8 hown8 hg8)
        have HJ3 := Lib.hid (HJ2.out.app (j2 := j + 1) hg8 hown8 (by simp; omega))
        clear hown8 hg8 hln hbs
        go_wp2_with fail
        go_roundw
        case rel => exact ⟨j + 1, by omega, by go_num, by rw [HS.out]; exact HJ3⟩
        case measure => simp [intOf]; omega
    · obtain rfl : j = L.length := by omega
      rw [List.take_length] at HJ
      obtain ⟨va, vc, hvf⟩ := HJ.out.own.form
      have HV := Lib.hid hvf
      go_wp2_with fail
      go_ret
      exact ⟨_, rfl, HJ.out.own, HJ.out.grown⟩
end
end Go.Proofs.Ytlaniifbfgcfaaa
