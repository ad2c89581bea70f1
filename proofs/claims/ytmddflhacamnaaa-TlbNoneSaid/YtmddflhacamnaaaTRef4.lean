/- The document's layer 5: Put. -/
import Derived.Test.YtmddflhacamnaaaTRef3
import Derived.BigQuiet
namespace Go.Proofs.Ytmddflhacamnaaa
open Go.ChangeShapes Go.WideShapes Go.ChangeAt Go.RowKit
set_option linter.unusedVariables false

/-- 'append([]Kept{}, l...)': a row of its own. -/
theorem wpList_copy {ops : Array Oper} {rest : List Oper} {o : Oper} {a : Act} {Q : Exit → Act → World → Prop} (w : World) (hgd : o.guard = none) (s x : Operand)
    (ho : o.op = .call { callee := .builtin .append, args := #[s, x], argTypes := #[46, 46] }) (v : Value) (xs : List KeptV) (H : Nat) (hH : w.heap.size = H) (hs : a.eval s = .slice (some ⟨H, 0, none⟩) 0 0) (hx : a.eval x = v)
    (h : RowOf keptCells 4 (w.alloc (.cells #[] 50)) v xs) (hl : xs.length ≤ 134217728)
    (hK : ∀ g cap w', KOwn w' H (.slice (some ⟨g, 0, none⟩) xs.length cap) xs → w.grownBy w' none → wpList Try.prog ops Q rest (a.put o.dst (.slice (some ⟨g, 0, none⟩) xs.length cap)) w') :
    wpList Try.prog ops Q (o :: rest) a (w.alloc (.cells #[] 50)) := by
  obtain ⟨i0, hi, hz0, hz1, hz2⟩ := info_parts info_kept
  subst hH
  have hown : (w.alloc (.cells #[] 50)).ownsRow w.heap.size 50 4 (.slice (some ⟨w.heap.size, 0, none⟩) 0 0) 0 [] :=
    ⟨by simp, .inr ⟨w.heap.size, 0, #[], rfl, Nat.le_refl _, heap_alloc_new w _, Nat.le_refl _, Nat.zero_le _, by simp, by simp⟩⟩
  have ga := World.grownBy_alloc w (.cells #[] 50) none
  rcases h.2 with ⟨rfl, h0⟩ | ⟨g, of, c, rfl, hg, hc⟩
  · refine wpList_append_own_none hgd s x 46 ho w.heap.size 50 i0 4 Try.underlying46 hi _ 0 [] hs hown hx ?_
    have hx0 := List.length_eq_zero_iff.1 h0
    subst hx0
    exact hK w.heap.size 0 _ hown ga
  · refine wpList_append_own_at _ hgd s x 46 ho w.heap.size 50 i0 (.agg #[.int .i64 0, .int .i64 0, .int .i64 0, .int .i64 0]) 4 32 Try.underlying46 hi hz0 hz1 hz2 rfl (by decide) (.slice (some ⟨w.heap.size, 0, none⟩) 0 0) 0 [] hs hown ⟨g, of, none⟩ xs.length c (xs.flatMap keptCells) hx h.1 (fun j u hu => by rw [Addr.add_mid]; exact hc j u hu) ?_ (by unfold maxLen; omega) (by omega) (by simp) ?_
    · intro u hu
      obtain ⟨y, _, hy⟩ := List.mem_flatMap.1 hu
      simp [keptCells] at hy
      rcases hy with rfl | rfl | rfl | rfl <;> rfl
    · intro v' w' hown' hgrow hnil hat
      rw [Nat.zero_add, List.nil_append] at hown'
      have hv : ∃ g' cap, v' = .slice (some ⟨g', 0, none⟩) xs.length cap := by
        rcases hown'.2 with ⟨h1, _⟩ | ⟨g', cap, cur, h1, _⟩
        · exact absurd (hnil.1 h1).1 (by simp)
        · exact ⟨g', cap, h1⟩
      obtain ⟨g', cap, rfl⟩ := hv
      exact hK g' cap w' hown' (grown_at ga hgrow (Nat.le_refl _))

/-- The two boxes of Put's own names. -/
structure PutB (w wr : World) (y : KeptV) : Prop where
  grown : w.grownBy wr none
  key : TwoB wr w.heap.size 34 (.int .i64 y.a) (.int .i64 y.v)
  ent : TwoB wr (w.heap.size + 1) 31 (.int .i64 y.fl) (.int .i64 y.pp)
theorem PutB.grow {w wr w2 : World} {y : KeptV} (h : PutB w wr y) (g : wr.grownBy w2 none) : PutB w w2 y := ⟨grown_trans h.grown g, h.key.grow g, h.ent.grow g⟩

theorem eql_key (w : World) (a b c d : Int) : (binOp .eql 34 (.agg #[.int .i64 a, .int .i64 b]) (.agg #[.int .i64 c, .int .i64 d])).run Try.prog w = .ok (.bool (decide (a = c ∧ b = d))) w := by
  go_simp
  by_cases h1 : a = c <;> by_cases h2 : b = d <;> simp [h1, h2]
theorem own_cells {w : World} {base g c : Nat} {xs : List KeptV} (h : KOwn w base (.slice (some ⟨g, 0, none⟩) xs.length c) xs) {j : Nat} {y : KeptV} (hy : xs[j]? = some y) :
    w.cell? ⟨g, j * 4, none⟩ = some (.int .i64 y.a) ∧ w.cell? ⟨g, j * 4 + 1, none⟩ = some (.int .i64 y.v) ∧ w.cell? ⟨g, j * 4 + 2, none⟩ = some (.int .i64 y.fl) ∧ w.cell? ⟨g, j * 4 + 3, none⟩ = some (.int .i64 y.pp) := by
  obtain ⟨g', o, c', hsl, k0, k1, k2, k3⟩ := kept_cells (show RowOf keptCells 4 w (.slice (some ⟨g, 0, none⟩) xs.length c) xs from RowAt.own h) hy
  cases hsl
  rw [Nat.zero_add] at k0 k1 k2 k3
  exact ⟨k0, k1, k2, k3⟩
theorem slice_own {g o k c b B : Nat} (hg : B ≤ g) (hb : (Value.slice (some ⟨g, o, none⟩) k c).ownBlock = some b) : B ≤ b := by
  have e : g = b := by simpa [Value.ownBlock] using hb
  omega
theorem same_iff (a v : Int) (x : KeptV) : sameK a v x = decide (x.a = a ∧ x.v = v) := by
  unfold sameK
  by_cases h1 : x.a = a <;> by_cases h2 : x.v = v <;> simp [h1, h2]

/-- A row that is the table's now. -/
theorem put_row {w wr : World} {r : Nat} {sz : Int} {xs zs : List KeptV} {v0 v : Value} (t : RT w r sz xs v0) (hg : w.grownBy wr none) (hrow : RowOf keptCells 4 wr v zs) (hv : ∀ g, v.ownBlock = some g → w.heap.size ≤ g) (hl : (zs.length : Int) ≤ sz) :
    Left w (wr.setCell ⟨r, 1, none⟩ v) r sz zs := by
  have hr := t.rlt
  have hh := (hg.block r hr (by simp)).trans t.head
  refine ⟨v, ⟨heap_setCell_same wr r 1 _ _ v hh, hrow.kept (by simp) (fun a l c e => heap_setCell_other wr _ _ v (fun e2 => ?_)), fun e => ?_, t.sz0, t.sz1, hl⟩, (Turn.grown hg).trans' (Turn.setCell [r] wr r 1 v (by simp)), fun b hb => ?_⟩
  · have := hv a.block (by rw [e]; rfl)
    simp at e2
    omega
  · have := hv r e
    omega
  · unfold RTO at hb
    rcases List.mem_cons.1 hb with rfl | hb
    · exact .inl rfl
    · exact .inr (hv b (by simpa using hb))

theorem tail_row {w8 : World} {base g8 cap8 : Nat} {xs : List KeptV} {y : KeptV} (h : KOwn w8 base (.slice (some ⟨g8, 0, none⟩) (xs.length + 1) cap8) (xs ++ [y])) (c' : Nat) : RowOf keptCells 4 w8 (.slice (some ⟨g8, 4, none⟩) xs.length c') ((xs ++ [y]).drop 1) := by
  have h1 : RowAt w8 4 (.slice (some ⟨g8, 0, none⟩) (xs.length + 1) cap8) (xs.length + 1) ((xs ++ [y]).flatMap keptCells) := by
    have := RowAt.own h
    rwa [List.length_append, List.length_singleton] at this
  have h2 := h1.tail c'
  rw [Nat.zero_add] at h2
  obtain ⟨z, zs, hz⟩ : ∃ z zs, xs ++ [y] = z :: zs := by
    cases xs with
    | nil => exact ⟨y, [], rfl⟩
    | cons a t => exact ⟨a, t ++ [y], rfl⟩
  have hlen : zs.length = xs.length := by
    have := congrArg List.length hz
    simp at this
    omega
  rw [hz, flat_drop keptCells 4 kept_len] at h2
  unfold RowOf
  rw [hz, List.drop_one, List.tail_cons, hlen]
  exact h2
theorem tail_row0 {w8 : World} {base g8 cap8 : Nat} {xs : List KeptV} {y : KeptV} (h : KOwn w8 base (.slice (some ⟨g8, 0, none⟩) (xs.length + 1) cap8) (xs ++ [y])) (hc : cap8 = 1) : RowOf keptCells 4 w8 (.slice (some ⟨g8, 0, none⟩) xs.length 0) ((xs ++ [y]).drop 1) := by
  have hx : xs = [] := by
    rcases h.2 with ⟨h0, _⟩ | ⟨g, cap, cur, hsl, _, _, h1, _⟩
    · cases h0
    · injection hsl with e1 e2 e3
      rw [List.length_append, List.length_singleton] at h1
      exact List.length_eq_zero_iff.1 (by omega)
  have hlt := (h.lt (g := g8) rfl).2
  subst hx
  exact ⟨by simp, .inr ⟨g8, 0, 0, rfl, hlt, by simp⟩⟩

theorem put_facts {w wr w8 : World} {o : Obj} {r g1 k c : Nat} {sz : Int} {xs : List KeptV} {v : Value} (h : RT w r sz xs v) (hg : w.grownBy wr none) (hg1 : w.heap.size + 2 ≤ g1) (g8 : (wr.alloc o).grownBy w8 (Value.slice (some ⟨g1, 0, none⟩) k c).ownBlock) :
    w.grownBy w8 none ∧ w8.cell? ⟨r, 0, none⟩ = some (.int .i64 sz) ∧ w8.cell? ⟨r, 1, none⟩ = some v ∧ w8.frozen? ⟨r, 1, none⟩ = false := by
  have hw : w.grownBy w8 none := grown_at (grown_trans hg (World.grownBy_alloc wr o none)) (show (wr.alloc o).grownBy w8 (some g1) from g8) (by omega)
  have h8 := h.grow hw
  exact ⟨hw, h8.at.1, h8.at.2, frozen_of_row _ r 1 _ _ h8.head⟩

set_option maxRecDepth 100000 in
set_option maxHeartbeats 4000000 in
theorem ref_put_ok {w : World} {r : Nat} {sz : Int} {xs : List KeptV} {v : Value} (h : RT w r sz xs v) (y : KeptV) :
    Calls Try.prog 12 #[.pointer (some ⟨r, 0, none⟩), .agg #[.int .i64 y.a, .int .i64 y.v], .agg #[.int .i64 y.fl, .int .i64 y.pp]] w fun e w' => e = .returned (.tuple #[]) ∧ Left w w' r sz (putL sz xs y) := by
  have hlen := h.lenN
  have HT := Lib.hid h
  obtain ⟨ya, yv, yf, yp⟩ := y
  have hb0 : PutB w ((w.alloc (.cells #[.int .i64 ya, .int .i64 yv] 34)).alloc (.cells #[.int .i64 yf, .int .i64 yp] 31)) ⟨ya, yv, yf, yp⟩ :=
    ⟨grown_trans (World.grownBy_alloc _ _ _) (World.grownBy_alloc _ _ _), (TwoB.new w _ _ _).grow (World.grownBy_alloc _ _ _), by
      have := TwoB.new (w.alloc (.cells #[.int .i64 ya, .int .i64 yv] 34)) 31 (.int .i64 yf) (.int .i64 yp)
      rwa [World.size_alloc] at this⟩
  have HB := Lib.hid hb0
  have hsz : ((w.alloc (.cells #[.int .i64 ya, .int .i64 yv] 34)).alloc (.cells #[.int .i64 yf, .int .i64 yp] 31)).heap.size = w.heap.size + 2 := by simp
  generalize hwa : (w.alloc (.cells #[.int .i64 ya, .int .i64 yv] 34)).alloc (.cells #[.int .i64 yf, .int .i64 yp] 31) = wa at *
  have HR := Lib.hid (HT.out.grow (grown_trans hb0.grown (World.grownBy_alloc wa (.cells #[] 50) none)))
  obtain ⟨r0, r1⟩ := HR.out.at
  obtain ⟨s0, c0, hv0⟩ := h.row.form
  subst hv0
  clear h hb0
  simp only
  go_enter Try.func12, Try.ntmps12
  go_wp2_with (at_builtin; go_loud (refine wpList_copy wa rfl _ _ rfl (.slice s0 xs.length c0) xs (w.heap.size + 2) hsz rfl rfl HR.out.row (by omega) ?_); intro g1 cap1 w1 hown1 hg1)
  have HO1 := Lib.hid hown1
  have HB1 := Lib.hid (HB.out.grow hg1)
  have hgw := (hown1.lt (g := g1) rfl).1
  have hrl := HT.out.rlt
  have hne1 : ¬ g1 = r := by omega
  have hne2 : ¬ r = g1 := by omega
  clear hown1 hg1 r0 r1 HR HB hwa
  go_wp2_with fail
  go_loopw [16] (fun iv wr => ∃ j : Nat, j ≤ xs.length ∧ iv = .int .i64 j ∧ Hid (w1.grownBy wr none) ∧ Hid (∀ i z, i < j → xs[i]? = some z → sameK ya yv z = false)) (fun iv _ => xs.length - (intOf iv).toNat)
  case atStart => exact ⟨0, by omega, rfl, grown_refl _ _, Lib.hid (fun i z hi => by omega)⟩
  case round =>
    obtain ⟨j, hj, rfl, HG, HNo⟩ := hrel
    have HBr := Lib.hid (HB1.out.grow HG.out)
    have HOr := Lib.hid (HO1.out.kept fun b hb => HG.out.block b (HO1.out.lt hb).2 (by simp))
    have HTr := Lib.hid (HT.out.grow HBr.out.grown)
    obtain ⟨z0, z1⟩ := HBr.out.key.at
    obtain ⟨y0, y1⟩ := HBr.out.ent.at
    by_cases hlt : j < xs.length
    · obtain ⟨x, hx⟩ : ∃ x, xs[j]? = some x := ⟨_, List.getElem?_eq_getElem hlt⟩
      obtain ⟨k0, k1, k2, k3⟩ := own_cells HOr.out hx
      have HX := Lib.hid hx
      have hs := same_iff ya yv x
      have hq := fun wx => eql_key wx x.a x.v ya yv
      clear hx
      by_cases hm : x.a = ya ∧ x.v = yv
      · rw [decide_eq_true hm] at hs hq
        have HS := Lib.hid (put_at (sz := sz) (y := ⟨ya, yv, yf, yp⟩) HX.out hs HNo.out)
        have HM := Lib.hid hm
        clear hm hs
        go_wp2_with fail
        go_quiet (fail)
        have HGd := Lib.hid (grown_trans HG.out (grown_draws wr nq none))
        have HOd := Lib.hid (HOr.out.kept (w' := wr.drewN nq) fun b hb => rfl)
        have hf2 := HOd.out.frozen (j * 4 + 2)
        have hf3 := HOd.out.frozen (j * 4 + 3)
        have hTd := HT.out.grow (HB1.out.grow HGd.out).grown
        obtain ⟨r0, r1⟩ := hTd.at
        have hfr := frozen_of_row _ r 1 _ _ hTd.head
        have HL := Lib.hid (put_row (v := .slice (some ⟨g1, 0, none⟩) xs.length cap1) (zs := xs.set j ⟨ya, yv, yf, yp⟩) (wr := ((wr.drewN nq).setCell ⟨g1, j * 4 + 2, none⟩ (.int .i64 yf)).setCell ⟨g1, j * 4 + 3, none⟩ (.int .i64 yp)) HT.out
          (grown_at (grown_at (HB1.out.grow HGd.out).grown (grown_set _ g1 _ _) (by omega)) (grown_set _ g1 _ _) (by omega))
          (RowAt.own (HOd.out.set (y := ⟨ya, yv, yf, yp⟩) HX.out HM.out.1 HM.out.2))
          (fun b hb => slice_own (by omega) hb) (by rw [List.length_set]; exact HT.out.len))
        clear hTd
        go_wp2_with fail
        first | go_end0 | refine bodyPost_ret (results_none rfl _ _ _) rfl ?_
        rw [HS.out]
        exact ⟨rfl, HL.out⟩
      · rw [decide_eq_false hm] at hs hq
        have HN2 := Lib.hid (show ∀ i z, i < j + 1 → xs[i]? = some z → sameK ya yv z = false from fun i z hi hz => by
          by_cases e : i < j
          · exact HNo.out i z e hz
          · obtain rfl : i = j := by omega
            rw [HX.out] at hz
            cases hz
            exact hs)
        clear hm hs
        go_wp2_with fail
        go_quiet (fail)
        go_wp2_with fail
        go_roundw
        case rel => exact ⟨j + 1, by omega, by go_num, Lib.hid (grown_trans HG.out (grown_draws _ _ _)), HN2⟩
        case measure => simp [intOf]; omega
    · obtain rfl : j = xs.length := by omega
      have HPN := Lib.hid (put_new (sz := sz) (y := ⟨ya, yv, yf, yp⟩) HNo.out)
      have hbs := HBr.out.grown.size
      have hrs := (Array.getElem?_eq_some_iff.1 HBr.out.ent).1
      have hle := HT.out.len
      by_cases hov : (xs.length : Int) + 1 > sz
      · have d1 : decide ((xs.length : Int) + 1 > sz) = true := by simpa using hov
        have d2 : decide (sz < (xs.length : Int) + 1) = true := by simpa using hov
        have HP := Lib.hid (HPN.out.trans (if_pos hov))
        clear hov
        go_wp2_with (at_builtin; refine wpList_kept wr rfl _ _ rfl (w.heap.size + 2) _ _ ⟨ya, yv, yf, yp⟩ (by rfl) HOr.out wr.heap.size _ (by rfl) rfl (by omega) (by omega) ?_; intro g8 cap8 w8 hown8 hg8; obtain ⟨hgw8, r0, r1, hfr⟩ := put_facts HT.out HBr.out.grown hgw hg8; have hg8b := (hown8.lt (g := g8) rfl).1)
        · first | go_end0 | refine bodyPost_ret (results_none rfl _ _ _) rfl ?_
          rw [HP.out]
          exact ⟨rfl, put_row (zs := (xs ++ [(⟨ya, yv, yf, yp⟩ : KeptV)]).drop 1) HT.out hgw8 (tail_row0 hown8 (by omega)) (fun b hb => slice_own (by omega) hb) (by rw [List.length_drop, List.length_append, List.length_singleton]; omega)⟩
        · first | go_end0 | refine bodyPost_ret (results_none rfl _ _ _) rfl ?_
          rw [HP.out]
          exact ⟨rfl, put_row (zs := (xs ++ [(⟨ya, yv, yf, yp⟩ : KeptV)]).drop 1) HT.out hgw8 (tail_row hown8 _) (fun b hb => slice_own (by omega) hb) (by rw [List.length_drop, List.length_append, List.length_singleton]; omega)⟩
      · have d1 : decide ((xs.length : Int) + 1 > sz) = false := by simpa using hov
        have d2 : decide (sz < (xs.length : Int) + 1) = false := by simpa using hov
        have hl9 : (((xs ++ [(⟨ya, yv, yf, yp⟩ : KeptV)]).length : Nat) : Int) ≤ sz := by rw [List.length_append, List.length_singleton]; omega
        have HP := Lib.hid (HPN.out.trans (if_neg hov))
        clear hov
        go_wp2_with (at_builtin; refine wpList_kept wr rfl _ _ rfl (w.heap.size + 2) _ _ ⟨ya, yv, yf, yp⟩ (by rfl) HOr.out wr.heap.size _ (by rfl) rfl (by omega) (by omega) ?_; intro g8 cap8 w8 hown8 hg8; obtain ⟨hgw8, r0, r1, hfr⟩ := put_facts HT.out HBr.out.grown hgw hg8; have hg8b := (hown8.lt (g := g8) rfl).1)
        first | go_end0 | refine bodyPost_ret (results_none rfl _ _ _) rfl ?_
        rw [HP.out]
        exact ⟨rfl, put_row (zs := xs ++ [(⟨ya, yv, yf, yp⟩ : KeptV)]) HT.out hgw8 (RowAt.own hown8) (fun b hb => slice_own (by omega) hb) hl9⟩
end Go.Proofs.Ytmddflhacamnaaa
