/- Package tlb's Put. -/
import Derived.Test.YtmddflhacamnaaaTRoom
import Derived.Deep.AppendLies
namespace Go.Proofs.Ytmddflhacamnaaa
open Go.ChangeShapes Go.WideShapes Go.ChangeAt Go.RowKit Go.Deep
set_option linter.unusedVariables false

/-- The table's three blocks, in the midst of Put. -/
structure Mid (W : World) (p : Nat) (sz : Int) (M : Nat) (v : Value) (n : Nat) (C : List Value) (zs : List KeptV) : Prop where
  block : W.heap[p]? = some (.cells #[.int .i64 sz, .map (some M), v] 57 (0, 0))
  row : W.ownsRow 0 29 2 v n C
  map : MapT W M zs

section
variable {W W' : World} {p M n : Nat} {sz : Int} {v : Value} {C : List Value} {zs : List KeptV}
theorem TabT.mid (h : TabT W p sz zs M v) : Mid W p sz M v zs.length (zs.flatMap keyCells) zs := ⟨h.block, h.row, h.map⟩
theorem Mid.apart (h : Mid W p sz M v n C zs) : M ≠ p ∧ v.ownBlock ≠ some p ∧ v.ownBlock ≠ some M := by
  refine ⟨h.map.ne_cells h.block, fun e => ?_, fun e => ?_⟩
  · rcases h.row.2 with ⟨rfl, _⟩ | ⟨g, cap, cur, rfl, _, h2, _⟩
    · cases e
    · have e2 := Option.some.inj e
      have h1 := h.block
      rw [← e2] at h1
      have h3 := h1.symm.trans h2
      simp at h3
  · rcases h.row.2 with ⟨rfl, _⟩ | ⟨g, cap, cur, rfl, _, h2, _⟩
    · cases e
    · exact (h.map.ne_cells h2) (Option.some.inj e).symm
theorem Mid.grow (h : Mid W p sz M v n C zs) (g : W.grownBy W' none) : Mid W' p sz M v n C zs :=
  ⟨(g.block _ (Array.getElem?_eq_some_iff.1 h.block).1 (by simp)).trans h.block, h.row.kept g (by cases v.ownBlock <;> simp), h.map.kept (g.block _ h.map.lt (by simp))⟩
theorem Mid.at (h : Mid W p sz M v n C zs) : W.cell? ⟨p, 1, none⟩ = some (.map (some M)) ∧ W.cell? ⟨p, 2, none⟩ = some v ∧ W.frozen? ⟨p, 2, none⟩ = false :=
  ⟨by rw [cell_of_row _ _ _ _ _ _ h.block]; rfl, by rw [cell_of_row _ _ _ _ _ _ h.block]; rfl, frozen_of_row W p 2 _ _ h.block⟩
/-- 'm[k] = v'. -/
theorem Mid.put (h : Mid W p sz M v n C zs) (hk : ∀ x, x ∈ zs → okKey x) (hl : zs.length ≤ 1024) {y : KeptV} (hy : okKey y) :
    ∃ W', (Instr.mapUpdate 55 (.map (some M)) (.agg #[.int .i64 y.a, .int .i64 y.v]) (.agg #[.int .i64 y.fl, .int .i64 y.pp])).run Try.prog W = .ok () W' ∧ Mid W' p sz M v n C (y :: dropK (sameK y.a y.v) zs) ∧ W.grownBy W' (some M) := by
  obtain ⟨W', hrun, hm, ht⟩ := h.map.put hk (by unfold maxLen; omega) hy
  have g := ht.grown
  have ha := h.apart
  exact ⟨W', hrun, ⟨(g.block p (Array.getElem?_eq_some_iff.1 h.block).1 (fun e => ha.1 (Option.some.inj e).symm)).trans h.block, h.row.kept g (by right; exact ha.2.2), hm⟩, g⟩
/-- The row is another one. -/
theorem Mid.store (h : W.heap[p]? = some (.cells #[.int .i64 sz, .map (some M), v] 57 (0, 0))) {v' : Value} {n' : Nat} {C' : List Value} (hr : W.ownsRow 0 29 2 v' n' C') (hm : MapT W M zs) : Mid (W.setCell ⟨p, 2, none⟩ v') p sz M v' n' C' zs := by
  have ho : ∀ b, b ≠ p → (W.setCell ⟨p, 2, none⟩ v').heap[b]? = W.heap[b]? := fun b hb => heap_setCell_other W _ b _ (by first | exact hb | exact hb.symm)
  refine ⟨heap_setCell_same W p 2 _ _ _ h, ⟨hr.1, ?_⟩, hm.kept (ho M (hm.ne_cells h))⟩
  rcases hr.2 with h0 | ⟨g, cap, cur, e, k1, k2, k3⟩
  · exact .inl h0
  · refine .inr ⟨g, cap, cur, e, k1, (ho g fun e2 => ?_).trans k2, k3⟩
    have := h.symm.trans (e2 ▸ k2)
    simp at this
end

section
variable {w : World} {p M : Nat} {sz : Int} {v : Value} {xs : List KeptV}

/-- What is left where there must be room for one. -/
def roomL (sz : Int) (xs : List KeptV) : List KeptV := if (xs.length : Int) < sz then xs else xs.drop 1

theorem room_any (h : TabT w p sz xs M v) (h1 : sz ≠ 0) :
    Calls Try.prog 23 #[.pointer (some ⟨p, 0, none⟩)] w fun e w' => e = .returned (.tuple #[]) ∧ RoomLeft p M sz v (roomL sz xs) w w' := by
  by_cases hl : (xs.length : Int) < sz
  · refine (room_few h hl).mono ?_
    rintro e w' ⟨rfl, g⟩
    rw [show roomL sz xs = xs from if_pos hl]
    exact ⟨rfl, v, h.grow g, rfl, Turn.grown g⟩
  · rw [show roomL sz xs = xs.drop 1 from if_neg hl]
    have h2 := h.len
    have h3 := h.sz0
    cases xs with
    | nil => simp at h2 hl; omega
    | cons x xs =>
      rw [List.drop_one, List.tail_cons]
      exact room_full h (by omega)

theorem room_put {y : KeptV} (h : TabT w p sz xs M v) (h1 : sz ≠ 0) (hi : xs.findIdx? (sameK y.a y.v) = none) : putL sz xs y = roomL sz xs ++ [y] ∧ (roomL sz xs).findIdx? (sameK y.a y.v) = none ∧ ((roomL sz xs).length : Int) + 1 ≤ sz := by
  have hl := h.len
  have h0 := h.sz0
  unfold putL roomL
  rw [hi]
  by_cases hc : (xs.length : Int) < sz
  · simp only [if_pos hc, if_neg (show ¬ ((xs.length : Int) + 1 > sz) by omega)]
    exact ⟨trivial, hi, by omega⟩
  · simp only [if_neg hc, if_pos (show ((xs.length : Int) + 1 > sz) by omega)]
    cases xs with
    | nil => simp at hl hc; omega
    | cons x xs =>
      refine ⟨rfl, ?_, by simp at hl ⊢; omega⟩
      rw [List.findIdx?_eq_none_iff] at hi ⊢
      intro z hz
      exact hi z (List.mem_cons_of_mem _ hz)

theorem keys_set {y : KeptV} {i : Nat} (hi : xs.findIdx? (sameK y.a y.v) = some i) : (xs.set i y).flatMap keyCells = xs.flatMap keyCells := by
  obtain ⟨hl, h1, _⟩ := List.findIdx?_eq_some_iff_getElem.1 hi
  have hs := sameK_iff.1 h1
  have e0 : xs = xs.take i ++ xs[i] :: xs.drop (i + 1) := by rw [← List.drop_eq_getElem_cons hl, List.take_append_drop]
  have e1 : xs.set i y = xs.take i ++ y :: xs.drop (i + 1) := List.set_eq_take_append_cons_drop ▸ by rw [if_pos hl]
  have e2 : xs.flatMap keyCells = (xs.take i).flatMap keyCells ++ (keyCells xs[i] ++ (xs.drop (i + 1)).flatMap keyCells) := by
    conv => lhs; rw [e0]
    rw [List.flatMap_append, List.flatMap_cons]
  rw [e1, e2, List.flatMap_append, List.flatMap_cons, show keyCells y = keyCells xs[i] by simp [keyCells, hs.1, hs.2]]

/-- Behind the append. -/
theorem app_left {w3 w5 : World} {zs : List KeptV} {v3 : Value} {ya yv : Int} {g5 n5 c5 : Nat} (h : TabT w3 p sz zs M v3) (ho : v3.ownBlock = v.ownBlock) (g : ((w3.alloc (.cells #[.int .i64 ya, .int .i64 yv] 29 (0, 0))).drew).grownBy w5 v3.ownBlock) (hat : v3.ownBlock = some g5 ∨ g5 = w3.heap.size + 1) :
    w5.heap[p]? = some (.cells #[.int .i64 sz, .map (some M), v3] 57 (0, 0)) ∧ MapT w5 M zs ∧ Turn (p :: M :: v.ownBlock.toList) w3.drew w5 ∧ ((Value.slice (some ⟨g5, 0, none⟩) n5 c5).ownBlock = v.ownBlock ∨ ∀ b, (Value.slice (some ⟨g5, 0, none⟩) n5 c5).ownBlock = some b → w3.heap.size ≤ b) := by
  have ga : w3.grownBy ((w3.alloc (.cells #[.int .i64 ya, .int .i64 yv] 29 (0, 0))).drew) none := grown_trans (World.grownBy_alloc w3 _ none) (grown_drew1 _)
  have hA := h.grow ga
  have hne := hA.apart
  refine ⟨(g.block p hA.plt (fun e => hne.2.1 e.symm)).trans hA.block, hA.map.kept (g.block M hA.map.lt (fun e => hne.2.2 e.symm)), ?_, ?_⟩
  · refine (show Turn (p :: M :: v.ownBlock.toList) w3.drew _ from Turn.grown ⟨ga.os, ga.tape, ga.output, ga.size, ga.block⟩).trans' ⟨g.os, g.tape, g.output, g.size, fun k hk hm => g.block k hk fun e => hm ?_⟩
    rw [← ho, ← e]
    simp
  · rcases hat with e | e
    · exact .inl (by rw [← ho, e]; rfl)
    · exact .inr fun b hb => by have : g5 = b := by simpa [Value.ownBlock] using hb
                                omega

set_option maxHeartbeats 2000000 in
theorem put_walk (h : TabT w p sz xs M v) (y : KeptV) (hy : okKey y) :
    Calls Try.prog 11 #[.pointer (some ⟨p, 0, none⟩), .agg #[.int .i64 y.a, .int .i64 y.v], .agg #[.int .i64 y.fl, .int .i64 y.pp]] w fun e w' => e = .returned (.tuple #[]) ∧
      ∃ v', TabT w' p sz (putL sz xs y) M v' ∧ Turn (p :: M :: v.ownBlock.toList) w w' ∧ (v'.ownBlock = v.ownBlock ∨ ∀ b, v'.ownBlock = some b → w.heap.size ≤ b) := by
  obtain ⟨ya, yv, yf, yp⟩ := y
  simp only at *
  have hq := eql_ptr_nil
  have ga := World.grownBy_alloc w (.cells #[.int .i64 ya, .int .i64 yv] 29 (0, 0)) none
  have gb := grown_trans ga (World.grownBy_alloc (w.alloc (.cells #[.int .i64 ya, .int .i64 yv] 29 (0, 0))) (.cells #[.int .i64 yf, .int .i64 yp] 31 (0, 0)) none)
  have hbk := (TwoB.new w 29 (.int .i64 ya) (.int .i64 yv)).grow (World.grownBy_alloc _ (.cells #[.int .i64 yf, .int .i64 yp] 31 (0, 0)) none)
  have hbe := TwoB.new (w.alloc (.cells #[.int .i64 ya, .int .i64 yv] 29 (0, 0))) 31 (.int .i64 yf) (.int .i64 yp)
  rw [World.size_alloc] at hbe
  have hsz : ((w.alloc (.cells #[.int .i64 ya, .int .i64 yv] 29 (0, 0))).alloc (.cells #[.int .i64 yf, .int .i64 yp] 31 (0, 0))).heap.size = w.heap.size + 1 + 1 := by rw [World.size_alloc, World.size_alloc]
  have hB := h.grow gb
  generalize hwB : (w.alloc (.cells #[.int .i64 ya, .int .i64 yv] 29 (0, 0))).alloc (.cells #[.int .i64 yf, .int .i64 yp] 31 (0, 0)) = wB at *
  obtain ⟨c0, c1, c2⟩ := hB.at
  obtain ⟨k0, k1⟩ := hbk.at
  obtain ⟨e0, e1⟩ := hbe.at
  by_cases hz : sz = 0
  · have hx : xs = [] := by have := h.len; cases xs with | nil => rfl | cons x xs => simp at this; omega
    subst hz hx
    have HB := Lib.hid hB
    have HG := Lib.hid gb
    clear hB gb ga hbk hbe h
    go_enter Try.func11, Try.ntmps11
    go_wp2_with fail
    refine bodyPost_ret (results_none rfl _ _ _) rfl ?_
    refine ⟨rfl, v, ?_, Turn.grown HG.out, .inl rfl⟩
    exact HB.out
  · have hzb : (sz == 0) = false := beq_eq_false_iff_ne.2 hz
    obtain ⟨f, q, b, hf, hb⟩ := tabV_form xs ya yv
    have HS := Lib.hid (show ∀ W, wB.grownBy W none → W.cell? ⟨p, 1, none⟩ = some (.map (some M)) ∧ (W.cell? ⟨w.heap.size, 0, none⟩ = some (.int .i64 ya) ∧ W.cell? ⟨w.heap.size, 1, none⟩ = some (.int .i64 yv)) ∧ (Instr.lookup 55 (.map (some M)) (.agg #[.int .i64 ya, .int .i64 yv]) true).run Try.prog W = .ok (.tuple #[.agg #[.int .i64 f, .int .i64 q], .bool b]) W from
      fun W g => ⟨(hB.grow g).at.2.1, (hbk.grow g).at, by have := (hB.grow g).map.look h.keys hy.1 hy.2; rwa [hf] at this⟩)
    have gd := Lib.hid (grown_drew1 wB)
    have gc := Lib.hid (grown_trans gd.out (World.grownBy_alloc wB.drew (.cells #[.int .i64 0, .int .i64 0] 31 (0, 0)) none))
    have gp := Lib.hid (show wB.grownBy (wB.alloc (.cells #[.int .i64 f, .int .i64 q] 31 (0, 0))).drew none from grown_trans (World.grownBy_alloc wB _ none) (grown_drew1 _))
    have HK := Lib.hid (hbk.grow gp.out)
    have HE := Lib.hid (hbe.grow gp.out)
    have HT := Lib.hid (hB.grow gp.out)
    have HG := Lib.hid (grown_trans gb gp.out)
    have HZ := Lib.hid h
    clear hbk hbe hB gb ga h hf
    cases hi : xs.findIdx? (sameK ya yv) with
    | some i =>
      have hbt : b = true := by
        rw [hb]
        cases hfi : xs.find? (sameK ya yv) with
        | none => rw [(key_none hfi).1] at hi; cases hi
        | some x => rfl
      subst hbt
      have HIx := Lib.hid hi
      clear hb hi
      go_enter Try.func11, Try.ntmps11
      go_wp2_with fail
      go_region_held3 (fun W => W.cell? ⟨p, 1, none⟩ = some (.map (some M)) ∧ (W.cell? ⟨w.heap.size, 0, none⟩ = some (.int .i64 ya) ∧ W.cell? ⟨w.heap.size, 1, none⟩ = some (.int .i64 yv)) ∧ (Instr.lookup 55 (.map (some M)) (.agg #[.int .i64 ya, .int .i64 yv]) true).run Try.prog W = .ok (.tuple #[.agg #[.int .i64 f, .int .i64 q], .bool true]) W)
        (first | exact HS.out _ gd.out | exact HS.out _ gc.out | exact HS.out _ gp.out) (fail)
      all_goals
        clear HS gd gc gp
        generalize (wB.alloc (.cells #[.int .i64 f, .int .i64 q] 31 (0, 0))).drew = wE at *
        have hTd := HT.out.grow (grown_drew1 wE)
        have hKd := HK.out.grow (grown_drew1 wE)
        have hEd := HE.out.grow (grown_drew1 wE)
        have hlen : xs.length ≤ 1024 := by have := hTd.len; have := hTd.sz1; omega
        obtain ⟨W9, hrun, hm9, g9⟩ := hTd.mid.put hTd.keys.ok hlen (y := ⟨ya, yv, yf, yp⟩) hy
        simp only at hrun
        have hne := hTd.map.isMap
        have S1 := Lib.hid (show wE.drew.cell? ⟨p, 1, none⟩ = some (.map (some M)) ∧ (wE.drew.cell? ⟨w.heap.size, 0, none⟩ = some (.int .i64 ya) ∧ wE.drew.cell? ⟨w.heap.size, 1, none⟩ = some (.int .i64 yv)) ∧ (wE.drew.cell? ⟨w.heap.size + 1, 0, none⟩ = some (.int .i64 yf) ∧ wE.drew.cell? ⟨w.heap.size + 1, 1, none⟩ = some (.int .i64 yp)) from ⟨hTd.at.2.1, hKd.at, hEd.at⟩)
        have S9 := Lib.hid (show W9.cell? ⟨p, 1, none⟩ = some (.map (some M)) ∧ (W9.cell? ⟨w.heap.size, 0, none⟩ = some (.int .i64 ya) ∧ W9.cell? ⟨w.heap.size, 1, none⟩ = some (.int .i64 yv)) ∧ (W9.cell? ⟨w.heap.size + 1, 0, none⟩ = some (.int .i64 yf) ∧ W9.cell? ⟨w.heap.size + 1, 1, none⟩ = some (.int .i64 yp)) from
          ⟨hm9.at.1, (hKd.grow' g9 (fun e => by obtain ⟨es, cl, hb⟩ := hne; rw [e, hKd] at hb; cases hb)).at, (hEd.grow' g9 (fun e => by obtain ⟨es, cl, hb⟩ := hne; rw [e, hEd] at hb; cases hb)).at⟩)
        have HM9 := Lib.hid hm9
        have HT9 := Lib.hid (show Turn (p :: M :: v.ownBlock.toList) w W9 from (Turn.grown (grown_trans HG.out (grown_drew1 wE))).trans' (Turn.one g9 (by simp)))
        clear hTd hKd hEd hm9 g9 hne
        go_wp2_with fail
        go_region_held3 (fun W => W.cell? ⟨p, 1, none⟩ = some (.map (some M)) ∧ (W.cell? ⟨w.heap.size, 0, none⟩ = some (.int .i64 ya) ∧ W.cell? ⟨w.heap.size, 1, none⟩ = some (.int .i64 yv)) ∧ (W.cell? ⟨w.heap.size + 1, 0, none⟩ = some (.int .i64 yf) ∧ W.cell? ⟨w.heap.size + 1, 1, none⟩ = some (.int .i64 yp)))
          (first | exact S1.out | exact S9.out) (fail)
        go_wp2_with fail
        go_end0
        obtain ⟨hperm, hks⟩ := known_key HZ.out.keys (y := ⟨ya, yv, yf, yp⟩) HIx.out
        have hput : putL sz xs ⟨ya, yv, yf, yp⟩ = xs.set i ⟨ya, yv, yf, yp⟩ := by unfold putL; simp only; rw [HIx.out]
        refine ⟨rfl, v, ?_, HT9.out, .inl rfl⟩
        rw [hput]
        refine ⟨HM9.out.block, ?_, HM9.out.map.perm hperm, hks, by rw [List.length_set]; exact HZ.out.len, HZ.out.sz0, HZ.out.sz1⟩
        rw [keys_set (y := ⟨ya, yv, yf, yp⟩) HIx.out, List.length_set]
        exact HM9.out.row
    | none =>
      have hbf : b = false := by
        rw [hb]
        cases hfi : xs.find? (sameK ya yv) with
        | none => rfl
        | some x => obtain ⟨i, h1, _⟩ := key_some hfi; rw [h1] at hi; cases hi
      subst hbf
      obtain ⟨hput, hi2, hl2⟩ := room_put (y := ⟨ya, yv, yf, yp⟩) HZ.out hz hi
      have HRoom := Lib.hid (room_any HT.out hz)
      have hl3 : (roomL sz xs).length ≤ 1024 := by have := HZ.out.sz1; omega
      generalize roomL sz xs = zs at *
      have HPut := Lib.hid hput
      have HI2 := Lib.hid hi2
      have HNK := Lib.hid (show w.heap.size ∉ p :: M :: v.ownBlock.toList ∧ w.heap.size + 1 ∉ p :: M :: v.ownBlock.toList from ⟨fun h => by have := HZ.out.mem_lt _ h; omega, fun h => by have := HZ.out.mem_lt _ h; omega⟩)
      obtain ⟨i0, hi0, hz0, hz1, hz2⟩ := info_parts info_tkey
      clear hb hi hput hi2 HT
      go_enter Try.func11, Try.ntmps11
      go_wp2_with fail
      go_region_held3 (fun W => W.cell? ⟨p, 1, none⟩ = some (.map (some M)) ∧ (W.cell? ⟨w.heap.size, 0, none⟩ = some (.int .i64 ya) ∧ W.cell? ⟨w.heap.size, 1, none⟩ = some (.int .i64 yv)) ∧ (Instr.lookup 55 (.map (some M)) (.agg #[.int .i64 ya, .int .i64 yv]) true).run Try.prog W = .ok (.tuple #[.agg #[.int .i64 f, .int .i64 q], .bool false]) W)
        (first | exact HS.out _ gd.out | exact HS.out _ gc.out | exact HS.out _ gp.out) (fail)
      -- TWICE
      · clear HS gd gc gp
        generalize (wB.alloc (.cells #[.int .i64 f, .int .i64 q] 31 (0, 0))).drew = wE at *
        go_wp2_with fail
        refine HRoom.out.mono ?_
        rintro e w3 ⟨rfl, v3, h3, o3, t3⟩
        go_wp2_with fail
        obtain ⟨s3, c3, hv3⟩ := h3.form
        have hk3 := (HK.out.turn t3 HNK.out.1).grow (grown_drew1 w3)
        have he3 := (HE.out.turn t3 HNK.out.2).grow (grown_drew1 w3)
        have ga3 := grown_trans (World.grownBy_alloc w3 (.cells #[.int .i64 ya, .int .i64 yv] 29 (0, 0)) none) (grown_drew1 _)
        have ha3 := h3.grow ga3
        have HRow := Lib.hid ha3.row
        have HZS := Lib.hid h3.keys
        have hc3 := h3.at.2.2
        have hca := ha3.at.2.2
        rw [hv3] at hc3 hca HRow
        have s0 := Lib.hid hk3.at
        have s1 := Lib.hid ((HK.out.turn t3 HNK.out.1).grow ga3).at
        have HNews := Lib.hid (show ∀ (j : Nat) u, [Value.int .i64 ya, .int .i64 yv][j]? = some u → ((w3.alloc (.cells #[.int .i64 ya, .int .i64 yv] 29 (0, 0))).drew).cell? ((⟨w3.heap.size, 0, none⟩ : Addr).add j) = some u from World.news_of_block (heap_alloc_new w3 _))
        have HK3 := Lib.hid hk3
        have HE3 := Lib.hid he3
        have HT3 := Lib.hid ((Turn.grown HG.out).trans' (t3.trans' (Turn.grown (grown_drew1 w3))))
        rw [hv3] at h3 o3
        have H3 := Lib.hid h3
        have O3 := Lib.hid o3
        clear hk3 he3 ga3 ha3 h3 o3 t3 HRoom
        refine wp_region_held_drew (S := fun W' => W'.cell? ⟨w.heap.size, 0, none⟩ = some (.int .i64 ya) ∧ W'.cell? ⟨w.heap.size, 1, none⟩ = some (.int .i64 yv)) (by kernel_rfl) s0.out (fun hHeld => ?_)
        refine' wpAnyH_take (i := 0) (oi := ?oi1) (v := ?v1) ?hi1 ?hs1 ?hf1 ?hr1 ?hQ1 ?hy1 ?hS1 ?rest1
        case hi1 => exact rfl
        case hs1 => kernel_rfl
        case hf1 => kernel_rfl
        case hr1 => kernel_rfl
        case hQ1 => exact fun _ _ _ h => h
        case hS1 => assumption
        case hy1 =>
          refine Or.inl ⟨by rfl, ?_⟩
          intro w hSw
          try dsimp only at hSw
          go_simp
          try with_reducible rfl
        try simp only [Act.put, List.setIfInBounds_toArray, List.set_cons_zero, List.set_cons_succ]
        refine' wpAnyH_take (i := 1) (oi := ?oi2) (v := ?v2) ?hi2 ?hs2 ?hf2 ?hr2 ?hQ2 ?hy2 ?hS2 ?rest2
        case hi2 => exact rfl
        case hs2 => kernel_rfl
        case hf2 => kernel_rfl
        case hr2 => kernel_rfl
        case hQ2 => exact fun _ _ _ h => h
        case hS2 => assumption
        case hy2 =>
          refine Or.inl ⟨by rfl, ?_⟩
          intro w hSw
          try dsimp only at hSw
          go_simp
          try with_reducible rfl
        try simp only [Act.put, List.setIfInBounds_toArray, List.set_cons_zero, List.set_cons_succ]
        refine' wpAnyH_take (i := 2) (oi := ?oi3) (v := ?v3) ?hi3 ?hs3 ?hf3 ?hr3 ?hQ3 ?hy3 ?hS3 ?rest3
        case hi3 => exact rfl
        case hs3 => kernel_rfl
        case hf3 => kernel_rfl
        case hr3 => kernel_rfl
        case hQ3 => exact fun _ _ _ h => h
        case hS3 => assumption
        case hy3 =>
          refine Or.inl ⟨by rfl, ?_⟩
          intro w hSw
          try dsimp only at hSw
          go_simp
          try with_reducible rfl
        try simp only [Act.put, List.setIfInBounds_toArray, List.set_cons_zero, List.set_cons_succ]
        refine' wpAnyH_take (i := 3) (oi := ?oi4) (v := ?v4) ?hi4 ?hs4 ?hf4 ?hr4 ?hQ4 ?hy4 ?hS4 ?rest4
        case hi4 => exact rfl
        case hs4 => kernel_rfl
        case hf4 => kernel_rfl
        case hr4 => kernel_rfl
        case hQ4 => exact fun _ _ _ h => h
        case hS4 => assumption
        case hy4 =>
          refine Or.inl ⟨by rfl, ?_⟩
          intro w hSw
          try dsimp only at hSw
          go_simp
          try with_reducible rfl
        try simp only [Act.put, List.setIfInBounds_toArray, List.set_cons_zero, List.set_cons_succ]
        refine' wpAnyH_take (i := 5) (oi := ?oi5) (v := ?v5) ?hi5 ?hs5 ?hf5 ?hr5 ?hQ5 ?hy5 ?hS5 ?rest5
        case hi5 => exact rfl
        case hs5 => kernel_rfl
        case hf5 => kernel_rfl
        case hr5 => kernel_rfl
        case hQ5 => exact fun _ _ _ h => h
        case hS5 => assumption
        case hy5 =>
          refine Or.inl ⟨by rfl, ?_⟩
          intro w hSw
          try dsimp only at hSw
          go_simp
          try with_reducible rfl
        try simp only [Act.put, List.setIfInBounds_toArray, List.set_cons_zero, List.set_cons_succ]
        refine wpAnyH_ready (rs := [4, 6]) (by kernel_rfl) (by simp) ?_
        refine' AllReadyH.cons (o := ?o6) ?ho6 ?h6 ?hs6
        case ho6 => exact rfl
        case h6 =>
          intro K hK
          go_simp
          refine hK.out _ _ ?_ (fun hHeld => ?_)
          · (try dsimp only); first | exact s0.out | exact s1.out
          clear hK K
          try simp only [Act.put, List.setIfInBounds_toArray, List.set_cons_zero, List.set_cons_succ]
          refine wpAnyH_ready (rs := [6]) (by kernel_rfl) (by simp) ?_
          refine' AllReadyH.cons (o := ?o7) ?ho7 ?h7 ?hs7
          case ho7 => exact rfl
          case h7 =>
            intro K hK
            go_simp
            refine hK.out _ _ ?_ (fun hHeld => ?_)
            · (try dsimp only); first | exact s0.out | exact s1.out
            clear hK K
            try simp only [Act.put, List.setIfInBounds_toArray, List.set_cons_zero, List.set_cons_succ]
            refine wpAnyH_ready (rs := [7]) (by kernel_rfl) (by simp) ?_
            refine' AllReadyH.cons (o := ?o8) ?ho8 ?h8 ?hs8
            case ho8 => exact rfl
            case h8 =>
              intro K hK
              refine step_append_lies _ rfl _ _ 44 rfl 0 29 i0 (.agg #[.int .i64 0, .int .i64 0]) 2 16 Try.underlying44 hi0 hz0 hz1 hz2 rfl (by decide) (.slice s3 zs.length c3) zs.length (zs.flatMap keyCells) rfl HRow.out ⟨w3.heap.size, 0, none⟩ 1 1 [.int .i64 ya, .int .i64 yv] (by rfl) rfl HNews.out (by intro u hu; simp at hu; rcases hu with rfl | rfl <;> rfl) (by decide) (by unfold maxLen; omega) (by omega) (Nat.zero_le _) (w3.heap.size + 1) (by simp) ?_
              intro g5 cap5 w5 hown5 hgrow5 hat5 hlt5
              obtain ⟨hb5, hm5, ht5, ho5⟩ := app_left H3.out O3.out hgrow5 hat5
              have hk5 := HK3.out.turn ht5 HNK.out.1
              have he5 := HE3.out.turn ht5 HNK.out.2
              have hm6 := Mid.store hb5 hown5 hm5
              have ht6 := Turn.setCell (p :: M :: v.ownBlock.toList) w5 p 2 (.slice (some ⟨g5, 0, none⟩) (zs.length + 1) cap5) (by simp)
              have HM6 := Lib.hid hm6
              have HK6 := Lib.hid (hk5.turn ht6 HNK.out.1)
              have HE6 := Lib.hid (he5.turn ht6 HNK.out.2)
              have HT6 := Lib.hid ((HT3.out.trans' ht5).trans' ht6)
              have HO5 := Lib.hid (show (Value.slice (some ⟨g5, 0, none⟩) (zs.length + 1) cap5).ownBlock = v.ownBlock ∨ ∀ b, (Value.slice (some ⟨g5, 0, none⟩) (zs.length + 1) cap5).ownBlock = some b → w.heap.size ≤ b from ho5.imp id fun h b hb => Nat.le_trans HT3.out.size (h b hb))
              have s5 := Lib.hid hk5.at
              have s6 := Lib.hid HK6.out.at
              have cp5 : w5.cell? ⟨p, 2, none⟩ = some (.slice s3 zs.length c3) := by rw [cell_of_row _ _ _ _ _ _ hb5]; rfl
              have fp5 := frozen_of_row w5 p 2 _ _ hb5
              clear hown5 hgrow5 hat5 hlt5 hb5 hm5 ht5 ho5 hk5 he5 hm6 ht6
              refine hK.out _ _ ?_ (fun hHeld => ?_)
              · (try dsimp only); exact s5.out
              clear hK K
              try simp only [Act.put, List.setIfInBounds_toArray, List.set_cons_zero, List.set_cons_succ]
              refine' wpAnyH_take (i := 8) (oi := ?oi9) (v := ?v9) ?hi9 ?hs9 ?hf9 ?hr9 ?hQ9 ?hy9 ?hS9 ?rest9
              case hi9 => exact rfl
              case hs9 => kernel_rfl
              case hf9 => kernel_rfl
              case hr9 => kernel_rfl
              case hQ9 => exact fun _ _ _ h => h
              case hS9 => assumption
              case hy9 =>
                refine Or.inl ⟨by rfl, ?_⟩
                intro w hSw
                try dsimp only at hSw
                go_simp
                try with_reducible rfl
              try simp only [Act.put, List.setIfInBounds_toArray, List.set_cons_zero, List.set_cons_succ]
              refine' wpAnyH_take (i := 9) (oi := ?oi10) (v := ?v10) ?hi10 ?hs10 ?hf10 ?hr10 ?hQ10 ?hy10 ?hS10 ?rest10
              case hi10 => exact rfl
              case hs10 => kernel_rfl
              case hf10 => kernel_rfl
              case hr10 => kernel_rfl
              case hQ10 => exact fun _ _ _ h => h
              case hS10 => assumption
              case hy10 =>
                refine Or.inl ⟨by rfl, ?_⟩
                intro w hSw
                try dsimp only at hSw
                go_simp
                try with_reducible rfl
              try simp only [Act.put, List.setIfInBounds_toArray, List.set_cons_zero, List.set_cons_succ]
              refine wpAnyH_ready (rs := [10]) (by kernel_rfl) (by simp) ?_
              refine' AllReadyH.cons (o := ?o11) ?ho11 ?h11 ?hs11
              case ho11 => exact rfl
              case h11 =>
                intro K hK
                go_simp
                refine hK.out _ _ ?_ (fun hHeld => ?_)
                · (try dsimp only); exact s6.out
                clear hK K
                try simp only [Act.put, List.setIfInBounds_toArray, List.set_cons_zero, List.set_cons_succ]
                refine wpAnyH_done (by kernel_rfl) ?_ _
                have hMd := HM6.out.grow (grown_drew1 (w5.setCell ⟨p, 2, none⟩ (.slice (some ⟨g5, 0, none⟩) (zs.length + 1) cap5)))
                have hKd := HK6.out.grow (grown_drew1 (w5.setCell ⟨p, 2, none⟩ (.slice (some ⟨g5, 0, none⟩) (zs.length + 1) cap5)))
                have hEd := HE6.out.grow (grown_drew1 (w5.setCell ⟨p, 2, none⟩ (.slice (some ⟨g5, 0, none⟩) (zs.length + 1) cap5)))
                obtain ⟨W9, hrun, hm9, g9⟩ := hMd.put HZS.out.ok (by omega) (y := ⟨ya, yv, yf, yp⟩) hy
                simp only at hrun
                have hne := hMd.map.isMap
                have S1 := Lib.hid (show (w5.setCell ⟨p, 2, none⟩ (.slice (some ⟨g5, 0, none⟩) (zs.length + 1) cap5)).drew.cell? ⟨p, 1, none⟩ = some (.map (some M)) ∧ ((w5.setCell ⟨p, 2, none⟩ (.slice (some ⟨g5, 0, none⟩) (zs.length + 1) cap5)).drew.cell? ⟨w.heap.size, 0, none⟩ = some (.int .i64 ya) ∧ (w5.setCell ⟨p, 2, none⟩ (.slice (some ⟨g5, 0, none⟩) (zs.length + 1) cap5)).drew.cell? ⟨w.heap.size, 1, none⟩ = some (.int .i64 yv)) ∧ ((w5.setCell ⟨p, 2, none⟩ (.slice (some ⟨g5, 0, none⟩) (zs.length + 1) cap5)).drew.cell? ⟨w.heap.size + 1, 0, none⟩ = some (.int .i64 yf) ∧ (w5.setCell ⟨p, 2, none⟩ (.slice (some ⟨g5, 0, none⟩) (zs.length + 1) cap5)).drew.cell? ⟨w.heap.size + 1, 1, none⟩ = some (.int .i64 yp)) from ⟨hMd.at.1, hKd.at, hEd.at⟩)
                have S9 := Lib.hid (show W9.cell? ⟨p, 1, none⟩ = some (.map (some M)) ∧ (W9.cell? ⟨w.heap.size, 0, none⟩ = some (.int .i64 ya) ∧ W9.cell? ⟨w.heap.size, 1, none⟩ = some (.int .i64 yv)) ∧ (W9.cell? ⟨w.heap.size + 1, 0, none⟩ = some (.int .i64 yf) ∧ W9.cell? ⟨w.heap.size + 1, 1, none⟩ = some (.int .i64 yp)) from
                  ⟨hm9.at.1, (hKd.grow' g9 (fun e => by obtain ⟨es, cl, hb⟩ := hne; rw [e, hKd] at hb; cases hb)).at, (hEd.grow' g9 (fun e => by obtain ⟨es, cl, hb⟩ := hne; rw [e, hEd] at hb; cases hb)).at⟩)
                have HM9 := Lib.hid hm9
                have HT9 := Lib.hid ((HT6.out.trans' (Turn.grown (grown_drew1 _))).trans' (Turn.one g9 (by simp)))
                clear hMd hKd hEd hm9 g9 hne
                generalize w5.setCell ⟨p, 2, none⟩ (.slice (some ⟨g5, 0, none⟩) (zs.length + 1) cap5) = w6 at *
                go_wp2_with fail
                go_region_held3 (fun W => W.cell? ⟨p, 1, none⟩ = some (.map (some M)) ∧ (W.cell? ⟨w.heap.size, 0, none⟩ = some (.int .i64 ya) ∧ W.cell? ⟨w.heap.size, 1, none⟩ = some (.int .i64 yv)) ∧ (W.cell? ⟨w.heap.size + 1, 0, none⟩ = some (.int .i64 yf) ∧ W.cell? ⟨w.heap.size + 1, 1, none⟩ = some (.int .i64 yp)))
                  (first | exact S1.out | exact S9.out) (fail)
                go_wp2_with fail
                go_end0
                obtain ⟨hperm, hks⟩ := new_key HZS.out (y := ⟨ya, yv, yf, yp⟩) hy HI2.out
                refine ⟨rfl, .slice (some ⟨g5, 0, none⟩) (zs.length + 1) cap5, ?_, HT9.out, HO5.out⟩
                rw [HPut.out]
                refine ⟨HM9.out.block, ?_, HM9.out.map.perm hperm, hks, by rw [List.length_append]; simpa using hl2, HZ.out.sz0, HZ.out.sz1⟩
                rw [List.length_append, List.flatMap_append]
                exact HM9.out.row
              exact AllReadyH.nil
            exact AllReadyH.nil
          exact AllReadyH.nil
        refine' AllReadyH.cons (o := ?o12) ?ho12 ?h12 ?hs12
        case ho12 => exact rfl
        case h12 =>
          intro K hK
          go_simp
          refine hK.out _ _ ?_ (fun hHeld => ?_)
          · (try dsimp only); first | exact s0.out | exact s1.out
          clear hK K
          try simp only [Act.put, List.setIfInBounds_toArray, List.set_cons_zero, List.set_cons_succ]
          refine wpAnyH_ready (rs := [4]) (by kernel_rfl) (by simp) ?_
          refine' AllReadyH.cons (o := ?o13) ?ho13 ?h13 ?hs13
          case ho13 => exact rfl
          case h13 =>
            intro K hK
            go_simp
            refine hK.out _ _ ?_ (fun hHeld => ?_)
            · (try dsimp only); first | exact s0.out | exact s1.out
            clear hK K
            try simp only [Act.put, List.setIfInBounds_toArray, List.set_cons_zero, List.set_cons_succ]
            refine wpAnyH_ready (rs := [7]) (by kernel_rfl) (by simp) ?_
            refine' AllReadyH.cons (o := ?o14) ?ho14 ?h14 ?hs14
            case ho14 => exact rfl
            case h14 =>
              intro K hK
              refine step_append_lies _ rfl _ _ 44 rfl 0 29 i0 (.agg #[.int .i64 0, .int .i64 0]) 2 16 Try.underlying44 hi0 hz0 hz1 hz2 rfl (by decide) (.slice s3 zs.length c3) zs.length (zs.flatMap keyCells) rfl HRow.out ⟨w3.heap.size, 0, none⟩ 1 1 [.int .i64 ya, .int .i64 yv] (by rfl) rfl HNews.out (by intro u hu; simp at hu; rcases hu with rfl | rfl <;> rfl) (by decide) (by unfold maxLen; omega) (by omega) (Nat.zero_le _) (w3.heap.size + 1) (by simp) ?_
              intro g5 cap5 w5 hown5 hgrow5 hat5 hlt5
              obtain ⟨hb5, hm5, ht5, ho5⟩ := app_left H3.out O3.out hgrow5 hat5
              have hk5 := HK3.out.turn ht5 HNK.out.1
              have he5 := HE3.out.turn ht5 HNK.out.2
              have hm6 := Mid.store hb5 hown5 hm5
              have ht6 := Turn.setCell (p :: M :: v.ownBlock.toList) w5 p 2 (.slice (some ⟨g5, 0, none⟩) (zs.length + 1) cap5) (by simp)
              have HM6 := Lib.hid hm6
              have HK6 := Lib.hid (hk5.turn ht6 HNK.out.1)
              have HE6 := Lib.hid (he5.turn ht6 HNK.out.2)
              have HT6 := Lib.hid ((HT3.out.trans' ht5).trans' ht6)
              have HO5 := Lib.hid (show (Value.slice (some ⟨g5, 0, none⟩) (zs.length + 1) cap5).ownBlock = v.ownBlock ∨ ∀ b, (Value.slice (some ⟨g5, 0, none⟩) (zs.length + 1) cap5).ownBlock = some b → w.heap.size ≤ b from ho5.imp id fun h b hb => Nat.le_trans HT3.out.size (h b hb))
              have s5 := Lib.hid hk5.at
              have s6 := Lib.hid HK6.out.at
              have cp5 : w5.cell? ⟨p, 2, none⟩ = some (.slice s3 zs.length c3) := by rw [cell_of_row _ _ _ _ _ _ hb5]; rfl
              have fp5 := frozen_of_row w5 p 2 _ _ hb5
              clear hown5 hgrow5 hat5 hlt5 hb5 hm5 ht5 ho5 hk5 he5 hm6 ht6
              refine hK.out _ _ ?_ (fun hHeld => ?_)
              · (try dsimp only); exact s5.out
              clear hK K
              try simp only [Act.put, List.setIfInBounds_toArray, List.set_cons_zero, List.set_cons_succ]
              refine' wpAnyH_take (i := 8) (oi := ?oi15) (v := ?v15) ?hi15 ?hs15 ?hf15 ?hr15 ?hQ15 ?hy15 ?hS15 ?rest15
              case hi15 => exact rfl
              case hs15 => kernel_rfl
              case hf15 => kernel_rfl
              case hr15 => kernel_rfl
              case hQ15 => exact fun _ _ _ h => h
              case hS15 => assumption
              case hy15 =>
                refine Or.inl ⟨by rfl, ?_⟩
                intro w hSw
                try dsimp only at hSw
                go_simp
                try with_reducible rfl
              try simp only [Act.put, List.setIfInBounds_toArray, List.set_cons_zero, List.set_cons_succ]
              refine' wpAnyH_take (i := 9) (oi := ?oi16) (v := ?v16) ?hi16 ?hs16 ?hf16 ?hr16 ?hQ16 ?hy16 ?hS16 ?rest16
              case hi16 => exact rfl
              case hs16 => kernel_rfl
              case hf16 => kernel_rfl
              case hr16 => kernel_rfl
              case hQ16 => exact fun _ _ _ h => h
              case hS16 => assumption
              case hy16 =>
                refine Or.inl ⟨by rfl, ?_⟩
                intro w hSw
                try dsimp only at hSw
                go_simp
                try with_reducible rfl
              try simp only [Act.put, List.setIfInBounds_toArray, List.set_cons_zero, List.set_cons_succ]
              refine wpAnyH_ready (rs := [10]) (by kernel_rfl) (by simp) ?_
              refine' AllReadyH.cons (o := ?o17) ?ho17 ?h17 ?hs17
              case ho17 => exact rfl
              case h17 =>
                intro K hK
                go_simp
                refine hK.out _ _ ?_ (fun hHeld => ?_)
                · (try dsimp only); exact s6.out
                clear hK K
                try simp only [Act.put, List.setIfInBounds_toArray, List.set_cons_zero, List.set_cons_succ]
                refine wpAnyH_done (by kernel_rfl) ?_ _
                have hMd := HM6.out.grow (grown_drew1 (w5.setCell ⟨p, 2, none⟩ (.slice (some ⟨g5, 0, none⟩) (zs.length + 1) cap5)))
                have hKd := HK6.out.grow (grown_drew1 (w5.setCell ⟨p, 2, none⟩ (.slice (some ⟨g5, 0, none⟩) (zs.length + 1) cap5)))
                have hEd := HE6.out.grow (grown_drew1 (w5.setCell ⟨p, 2, none⟩ (.slice (some ⟨g5, 0, none⟩) (zs.length + 1) cap5)))
                obtain ⟨W9, hrun, hm9, g9⟩ := hMd.put HZS.out.ok (by omega) (y := ⟨ya, yv, yf, yp⟩) hy
                simp only at hrun
                have hne := hMd.map.isMap
                have S1 := Lib.hid (show (w5.setCell ⟨p, 2, none⟩ (.slice (some ⟨g5, 0, none⟩) (zs.length + 1) cap5)).drew.cell? ⟨p, 1, none⟩ = some (.map (some M)) ∧ ((w5.setCell ⟨p, 2, none⟩ (.slice (some ⟨g5, 0, none⟩) (zs.length + 1) cap5)).drew.cell? ⟨w.heap.size, 0, none⟩ = some (.int .i64 ya) ∧ (w5.setCell ⟨p, 2, none⟩ (.slice (some ⟨g5, 0, none⟩) (zs.length + 1) cap5)).drew.cell? ⟨w.heap.size, 1, none⟩ = some (.int .i64 yv)) ∧ ((w5.setCell ⟨p, 2, none⟩ (.slice (some ⟨g5, 0, none⟩) (zs.length + 1) cap5)).drew.cell? ⟨w.heap.size + 1, 0, none⟩ = some (.int .i64 yf) ∧ (w5.setCell ⟨p, 2, none⟩ (.slice (some ⟨g5, 0, none⟩) (zs.length + 1) cap5)).drew.cell? ⟨w.heap.size + 1, 1, none⟩ = some (.int .i64 yp)) from ⟨hMd.at.1, hKd.at, hEd.at⟩)
                have S9 := Lib.hid (show W9.cell? ⟨p, 1, none⟩ = some (.map (some M)) ∧ (W9.cell? ⟨w.heap.size, 0, none⟩ = some (.int .i64 ya) ∧ W9.cell? ⟨w.heap.size, 1, none⟩ = some (.int .i64 yv)) ∧ (W9.cell? ⟨w.heap.size + 1, 0, none⟩ = some (.int .i64 yf) ∧ W9.cell? ⟨w.heap.size + 1, 1, none⟩ = some (.int .i64 yp)) from
                  ⟨hm9.at.1, (hKd.grow' g9 (fun e => by obtain ⟨es, cl, hb⟩ := hne; rw [e, hKd] at hb; cases hb)).at, (hEd.grow' g9 (fun e => by obtain ⟨es, cl, hb⟩ := hne; rw [e, hEd] at hb; cases hb)).at⟩)
                have HM9 := Lib.hid hm9
                have HT9 := Lib.hid ((HT6.out.trans' (Turn.grown (grown_drew1 _))).trans' (Turn.one g9 (by simp)))
                clear hMd hKd hEd hm9 g9 hne
                generalize w5.setCell ⟨p, 2, none⟩ (.slice (some ⟨g5, 0, none⟩) (zs.length + 1) cap5) = w6 at *
                go_wp2_with fail
                go_region_held3 (fun W => W.cell? ⟨p, 1, none⟩ = some (.map (some M)) ∧ (W.cell? ⟨w.heap.size, 0, none⟩ = some (.int .i64 ya) ∧ W.cell? ⟨w.heap.size, 1, none⟩ = some (.int .i64 yv)) ∧ (W.cell? ⟨w.heap.size + 1, 0, none⟩ = some (.int .i64 yf) ∧ W.cell? ⟨w.heap.size + 1, 1, none⟩ = some (.int .i64 yp)))
                  (first | exact S1.out | exact S9.out) (fail)
                go_wp2_with fail
                go_end0
                obtain ⟨hperm, hks⟩ := new_key HZS.out (y := ⟨ya, yv, yf, yp⟩) hy HI2.out
                refine ⟨rfl, .slice (some ⟨g5, 0, none⟩) (zs.length + 1) cap5, ?_, HT9.out, HO5.out⟩
                rw [HPut.out]
                refine ⟨HM9.out.block, ?_, HM9.out.map.perm hperm, hks, by rw [List.length_append]; simpa using hl2, HZ.out.sz0, HZ.out.sz1⟩
                rw [List.length_append, List.flatMap_append]
                exact HM9.out.row
              exact AllReadyH.nil
            exact AllReadyH.nil
          exact AllReadyH.nil
        exact AllReadyH.nil
      · clear HS gd gc gp
        generalize (wB.alloc (.cells #[.int .i64 f, .int .i64 q] 31 (0, 0))).drew = wE at *
        go_wp2_with fail
        refine HRoom.out.mono ?_
        rintro e w3 ⟨rfl, v3, h3, o3, t3⟩
        go_wp2_with fail
        obtain ⟨s3, c3, hv3⟩ := h3.form
        have hk3 := (HK.out.turn t3 HNK.out.1).grow (grown_drew1 w3)
        have he3 := (HE.out.turn t3 HNK.out.2).grow (grown_drew1 w3)
        have ga3 := grown_trans (World.grownBy_alloc w3 (.cells #[.int .i64 ya, .int .i64 yv] 29 (0, 0)) none) (grown_drew1 _)
        have ha3 := h3.grow ga3
        have HRow := Lib.hid ha3.row
        have HZS := Lib.hid h3.keys
        have hc3 := h3.at.2.2
        have hca := ha3.at.2.2
        rw [hv3] at hc3 hca HRow
        have s0 := Lib.hid hk3.at
        have s1 := Lib.hid ((HK.out.turn t3 HNK.out.1).grow ga3).at
        have HNews := Lib.hid (show ∀ (j : Nat) u, [Value.int .i64 ya, .int .i64 yv][j]? = some u → ((w3.alloc (.cells #[.int .i64 ya, .int .i64 yv] 29 (0, 0))).drew).cell? ((⟨w3.heap.size, 0, none⟩ : Addr).add j) = some u from World.news_of_block (heap_alloc_new w3 _))
        have HK3 := Lib.hid hk3
        have HE3 := Lib.hid he3
        have HT3 := Lib.hid ((Turn.grown HG.out).trans' (t3.trans' (Turn.grown (grown_drew1 w3))))
        rw [hv3] at h3 o3
        have H3 := Lib.hid h3
        have O3 := Lib.hid o3
        clear hk3 he3 ga3 ha3 h3 o3 t3 HRoom
        refine wp_region_held_drew (S := fun W' => W'.cell? ⟨w.heap.size, 0, none⟩ = some (.int .i64 ya) ∧ W'.cell? ⟨w.heap.size, 1, none⟩ = some (.int .i64 yv)) (by kernel_rfl) s0.out (fun hHeld => ?_)
        refine' wpAnyH_take (i := 0) (oi := ?oi18) (v := ?v18) ?hi18 ?hs18 ?hf18 ?hr18 ?hQ18 ?hy18 ?hS18 ?rest18
        case hi18 => exact rfl
        case hs18 => kernel_rfl
        case hf18 => kernel_rfl
        case hr18 => kernel_rfl
        case hQ18 => exact fun _ _ _ h => h
        case hS18 => assumption
        case hy18 =>
          refine Or.inl ⟨by rfl, ?_⟩
          intro w hSw
          try dsimp only at hSw
          go_simp
          try with_reducible rfl
        try simp only [Act.put, List.setIfInBounds_toArray, List.set_cons_zero, List.set_cons_succ]
        refine' wpAnyH_take (i := 1) (oi := ?oi19) (v := ?v19) ?hi19 ?hs19 ?hf19 ?hr19 ?hQ19 ?hy19 ?hS19 ?rest19
        case hi19 => exact rfl
        case hs19 => kernel_rfl
        case hf19 => kernel_rfl
        case hr19 => kernel_rfl
        case hQ19 => exact fun _ _ _ h => h
        case hS19 => assumption
        case hy19 =>
          refine Or.inl ⟨by rfl, ?_⟩
          intro w hSw
          try dsimp only at hSw
          go_simp
          try with_reducible rfl
        try simp only [Act.put, List.setIfInBounds_toArray, List.set_cons_zero, List.set_cons_succ]
        refine' wpAnyH_take (i := 2) (oi := ?oi20) (v := ?v20) ?hi20 ?hs20 ?hf20 ?hr20 ?hQ20 ?hy20 ?hS20 ?rest20
        case hi20 => exact rfl
        case hs20 => kernel_rfl
        case hf20 => kernel_rfl
        case hr20 => kernel_rfl
        case hQ20 => exact fun _ _ _ h => h
        case hS20 => assumption
        case hy20 =>
          refine Or.inl ⟨by rfl, ?_⟩
          intro w hSw
          try dsimp only at hSw
          go_simp
          try with_reducible rfl
        try simp only [Act.put, List.setIfInBounds_toArray, List.set_cons_zero, List.set_cons_succ]
        refine' wpAnyH_take (i := 3) (oi := ?oi21) (v := ?v21) ?hi21 ?hs21 ?hf21 ?hr21 ?hQ21 ?hy21 ?hS21 ?rest21
        case hi21 => exact rfl
        case hs21 => kernel_rfl
        case hf21 => kernel_rfl
        case hr21 => kernel_rfl
        case hQ21 => exact fun _ _ _ h => h
        case hS21 => assumption
        case hy21 =>
          refine Or.inl ⟨by rfl, ?_⟩
          intro w hSw
          try dsimp only at hSw
          go_simp
          try with_reducible rfl
        try simp only [Act.put, List.setIfInBounds_toArray, List.set_cons_zero, List.set_cons_succ]
        refine' wpAnyH_take (i := 5) (oi := ?oi22) (v := ?v22) ?hi22 ?hs22 ?hf22 ?hr22 ?hQ22 ?hy22 ?hS22 ?rest22
        case hi22 => exact rfl
        case hs22 => kernel_rfl
        case hf22 => kernel_rfl
        case hr22 => kernel_rfl
        case hQ22 => exact fun _ _ _ h => h
        case hS22 => assumption
        case hy22 =>
          refine Or.inl ⟨by rfl, ?_⟩
          intro w hSw
          try dsimp only at hSw
          go_simp
          try with_reducible rfl
        try simp only [Act.put, List.setIfInBounds_toArray, List.set_cons_zero, List.set_cons_succ]
        refine wpAnyH_ready (rs := [4, 6]) (by kernel_rfl) (by simp) ?_
        refine' AllReadyH.cons (o := ?o23) ?ho23 ?h23 ?hs23
        case ho23 => exact rfl
        case h23 =>
          intro K hK
          go_simp
          refine hK.out _ _ ?_ (fun hHeld => ?_)
          · (try dsimp only); first | exact s0.out | exact s1.out
          clear hK K
          try simp only [Act.put, List.setIfInBounds_toArray, List.set_cons_zero, List.set_cons_succ]
          refine wpAnyH_ready (rs := [6]) (by kernel_rfl) (by simp) ?_
          refine' AllReadyH.cons (o := ?o24) ?ho24 ?h24 ?hs24
          case ho24 => exact rfl
          case h24 =>
            intro K hK
            go_simp
            refine hK.out _ _ ?_ (fun hHeld => ?_)
            · (try dsimp only); first | exact s0.out | exact s1.out
            clear hK K
            try simp only [Act.put, List.setIfInBounds_toArray, List.set_cons_zero, List.set_cons_succ]
            refine wpAnyH_ready (rs := [7]) (by kernel_rfl) (by simp) ?_
            refine' AllReadyH.cons (o := ?o25) ?ho25 ?h25 ?hs25
            case ho25 => exact rfl
            case h25 =>
              intro K hK
              refine step_append_lies _ rfl _ _ 44 rfl 0 29 i0 (.agg #[.int .i64 0, .int .i64 0]) 2 16 Try.underlying44 hi0 hz0 hz1 hz2 rfl (by decide) (.slice s3 zs.length c3) zs.length (zs.flatMap keyCells) rfl HRow.out ⟨w3.heap.size, 0, none⟩ 1 1 [.int .i64 ya, .int .i64 yv] (by rfl) rfl HNews.out (by intro u hu; simp at hu; rcases hu with rfl | rfl <;> rfl) (by decide) (by unfold maxLen; omega) (by omega) (Nat.zero_le _) (w3.heap.size + 1) (by simp) ?_
              intro g5 cap5 w5 hown5 hgrow5 hat5 hlt5
              obtain ⟨hb5, hm5, ht5, ho5⟩ := app_left H3.out O3.out hgrow5 hat5
              have hk5 := HK3.out.turn ht5 HNK.out.1
              have he5 := HE3.out.turn ht5 HNK.out.2
              have hm6 := Mid.store hb5 hown5 hm5
              have ht6 := Turn.setCell (p :: M :: v.ownBlock.toList) w5 p 2 (.slice (some ⟨g5, 0, none⟩) (zs.length + 1) cap5) (by simp)
              have HM6 := Lib.hid hm6
              have HK6 := Lib.hid (hk5.turn ht6 HNK.out.1)
              have HE6 := Lib.hid (he5.turn ht6 HNK.out.2)
              have HT6 := Lib.hid ((HT3.out.trans' ht5).trans' ht6)
              have HO5 := Lib.hid (show (Value.slice (some ⟨g5, 0, none⟩) (zs.length + 1) cap5).ownBlock = v.ownBlock ∨ ∀ b, (Value.slice (some ⟨g5, 0, none⟩) (zs.length + 1) cap5).ownBlock = some b → w.heap.size ≤ b from ho5.imp id fun h b hb => Nat.le_trans HT3.out.size (h b hb))
              have s5 := Lib.hid hk5.at
              have s6 := Lib.hid HK6.out.at
              have cp5 : w5.cell? ⟨p, 2, none⟩ = some (.slice s3 zs.length c3) := by rw [cell_of_row _ _ _ _ _ _ hb5]; rfl
              have fp5 := frozen_of_row w5 p 2 _ _ hb5
              clear hown5 hgrow5 hat5 hlt5 hb5 hm5 ht5 ho5 hk5 he5 hm6 ht6
              refine hK.out _ _ ?_ (fun hHeld => ?_)
              · (try dsimp only); exact s5.out
              clear hK K
              try simp only [Act.put, List.setIfInBounds_toArray, List.set_cons_zero, List.set_cons_succ]
              refine' wpAnyH_take (i := 8) (oi := ?oi26) (v := ?v26) ?hi26 ?hs26 ?hf26 ?hr26 ?hQ26 ?hy26 ?hS26 ?rest26
              case hi26 => exact rfl
              case hs26 => kernel_rfl
              case hf26 => kernel_rfl
              case hr26 => kernel_rfl
              case hQ26 => exact fun _ _ _ h => h
              case hS26 => assumption
              case hy26 =>
                refine Or.inl ⟨by rfl, ?_⟩
                intro w hSw
                try dsimp only at hSw
                go_simp
                try with_reducible rfl
              try simp only [Act.put, List.setIfInBounds_toArray, List.set_cons_zero, List.set_cons_succ]
              refine' wpAnyH_take (i := 9) (oi := ?oi27) (v := ?v27) ?hi27 ?hs27 ?hf27 ?hr27 ?hQ27 ?hy27 ?hS27 ?rest27
              case hi27 => exact rfl
              case hs27 => kernel_rfl
              case hf27 => kernel_rfl
              case hr27 => kernel_rfl
              case hQ27 => exact fun _ _ _ h => h
              case hS27 => assumption
              case hy27 =>
                refine Or.inl ⟨by rfl, ?_⟩
                intro w hSw
                try dsimp only at hSw
                go_simp
                try with_reducible rfl
              try simp only [Act.put, List.setIfInBounds_toArray, List.set_cons_zero, List.set_cons_succ]
              refine wpAnyH_ready (rs := [10]) (by kernel_rfl) (by simp) ?_
              refine' AllReadyH.cons (o := ?o28) ?ho28 ?h28 ?hs28
              case ho28 => exact rfl
              case h28 =>
                intro K hK
                go_simp
                refine hK.out _ _ ?_ (fun hHeld => ?_)
                · (try dsimp only); exact s6.out
                clear hK K
                try simp only [Act.put, List.setIfInBounds_toArray, List.set_cons_zero, List.set_cons_succ]
                refine wpAnyH_done (by kernel_rfl) ?_ _
                have hMd := HM6.out.grow (grown_drew1 (w5.setCell ⟨p, 2, none⟩ (.slice (some ⟨g5, 0, none⟩) (zs.length + 1) cap5)))
                have hKd := HK6.out.grow (grown_drew1 (w5.setCell ⟨p, 2, none⟩ (.slice (some ⟨g5, 0, none⟩) (zs.length + 1) cap5)))
                have hEd := HE6.out.grow (grown_drew1 (w5.setCell ⟨p, 2, none⟩ (.slice (some ⟨g5, 0, none⟩) (zs.length + 1) cap5)))
                obtain ⟨W9, hrun, hm9, g9⟩ := hMd.put HZS.out.ok (by omega) (y := ⟨ya, yv, yf, yp⟩) hy
                simp only at hrun
                have hne := hMd.map.isMap
                have S1 := Lib.hid (show (w5.setCell ⟨p, 2, none⟩ (.slice (some ⟨g5, 0, none⟩) (zs.length + 1) cap5)).drew.cell? ⟨p, 1, none⟩ = some (.map (some M)) ∧ ((w5.setCell ⟨p, 2, none⟩ (.slice (some ⟨g5, 0, none⟩) (zs.length + 1) cap5)).drew.cell? ⟨w.heap.size, 0, none⟩ = some (.int .i64 ya) ∧ (w5.setCell ⟨p, 2, none⟩ (.slice (some ⟨g5, 0, none⟩) (zs.length + 1) cap5)).drew.cell? ⟨w.heap.size, 1, none⟩ = some (.int .i64 yv)) ∧ ((w5.setCell ⟨p, 2, none⟩ (.slice (some ⟨g5, 0, none⟩) (zs.length + 1) cap5)).drew.cell? ⟨w.heap.size + 1, 0, none⟩ = some (.int .i64 yf) ∧ (w5.setCell ⟨p, 2, none⟩ (.slice (some ⟨g5, 0, none⟩) (zs.length + 1) cap5)).drew.cell? ⟨w.heap.size + 1, 1, none⟩ = some (.int .i64 yp)) from ⟨hMd.at.1, hKd.at, hEd.at⟩)
                have S9 := Lib.hid (show W9.cell? ⟨p, 1, none⟩ = some (.map (some M)) ∧ (W9.cell? ⟨w.heap.size, 0, none⟩ = some (.int .i64 ya) ∧ W9.cell? ⟨w.heap.size, 1, none⟩ = some (.int .i64 yv)) ∧ (W9.cell? ⟨w.heap.size + 1, 0, none⟩ = some (.int .i64 yf) ∧ W9.cell? ⟨w.heap.size + 1, 1, none⟩ = some (.int .i64 yp)) from
                  ⟨hm9.at.1, (hKd.grow' g9 (fun e => by obtain ⟨es, cl, hb⟩ := hne; rw [e, hKd] at hb; cases hb)).at, (hEd.grow' g9 (fun e => by obtain ⟨es, cl, hb⟩ := hne; rw [e, hEd] at hb; cases hb)).at⟩)
                have HM9 := Lib.hid hm9
                have HT9 := Lib.hid ((HT6.out.trans' (Turn.grown (grown_drew1 _))).trans' (Turn.one g9 (by simp)))
                clear hMd hKd hEd hm9 g9 hne
                generalize w5.setCell ⟨p, 2, none⟩ (.slice (some ⟨g5, 0, none⟩) (zs.length + 1) cap5) = w6 at *
                go_wp2_with fail
                go_region_held3 (fun W => W.cell? ⟨p, 1, none⟩ = some (.map (some M)) ∧ (W.cell? ⟨w.heap.size, 0, none⟩ = some (.int .i64 ya) ∧ W.cell? ⟨w.heap.size, 1, none⟩ = some (.int .i64 yv)) ∧ (W.cell? ⟨w.heap.size + 1, 0, none⟩ = some (.int .i64 yf) ∧ W.cell? ⟨w.heap.size + 1, 1, none⟩ = some (.int .i64 yp)))
                  (first | exact S1.out | exact S9.out) (fail)
                go_wp2_with fail
                go_end0
                obtain ⟨hperm, hks⟩ := new_key HZS.out (y := ⟨ya, yv, yf, yp⟩) hy HI2.out
                refine ⟨rfl, .slice (some ⟨g5, 0, none⟩) (zs.length + 1) cap5, ?_, HT9.out, HO5.out⟩
                rw [HPut.out]
                refine ⟨HM9.out.block, ?_, HM9.out.map.perm hperm, hks, by rw [List.length_append]; simpa using hl2, HZ.out.sz0, HZ.out.sz1⟩
                rw [List.length_append, List.flatMap_append]
                exact HM9.out.row
              exact AllReadyH.nil
            exact AllReadyH.nil
          exact AllReadyH.nil
        refine' AllReadyH.cons (o := ?o29) ?ho29 ?h29 ?hs29
        case ho29 => exact rfl
        case h29 =>
          intro K hK
          go_simp
          refine hK.out _ _ ?_ (fun hHeld => ?_)
          · (try dsimp only); first | exact s0.out | exact s1.out
          clear hK K
          try simp only [Act.put, List.setIfInBounds_toArray, List.set_cons_zero, List.set_cons_succ]
          refine wpAnyH_ready (rs := [4]) (by kernel_rfl) (by simp) ?_
          refine' AllReadyH.cons (o := ?o30) ?ho30 ?h30 ?hs30
          case ho30 => exact rfl
          case h30 =>
            intro K hK
            go_simp
            refine hK.out _ _ ?_ (fun hHeld => ?_)
            · (try dsimp only); first | exact s0.out | exact s1.out
            clear hK K
            try simp only [Act.put, List.setIfInBounds_toArray, List.set_cons_zero, List.set_cons_succ]
            refine wpAnyH_ready (rs := [7]) (by kernel_rfl) (by simp) ?_
            refine' AllReadyH.cons (o := ?o31) ?ho31 ?h31 ?hs31
            case ho31 => exact rfl
            case h31 =>
              intro K hK
              refine step_append_lies _ rfl _ _ 44 rfl 0 29 i0 (.agg #[.int .i64 0, .int .i64 0]) 2 16 Try.underlying44 hi0 hz0 hz1 hz2 rfl (by decide) (.slice s3 zs.length c3) zs.length (zs.flatMap keyCells) rfl HRow.out ⟨w3.heap.size, 0, none⟩ 1 1 [.int .i64 ya, .int .i64 yv] (by rfl) rfl HNews.out (by intro u hu; simp at hu; rcases hu with rfl | rfl <;> rfl) (by decide) (by unfold maxLen; omega) (by omega) (Nat.zero_le _) (w3.heap.size + 1) (by simp) ?_
              intro g5 cap5 w5 hown5 hgrow5 hat5 hlt5
              obtain ⟨hb5, hm5, ht5, ho5⟩ := app_left H3.out O3.out hgrow5 hat5
              have hk5 := HK3.out.turn ht5 HNK.out.1
              have he5 := HE3.out.turn ht5 HNK.out.2
              have hm6 := Mid.store hb5 hown5 hm5
              have ht6 := Turn.setCell (p :: M :: v.ownBlock.toList) w5 p 2 (.slice (some ⟨g5, 0, none⟩) (zs.length + 1) cap5) (by simp)
              have HM6 := Lib.hid hm6
              have HK6 := Lib.hid (hk5.turn ht6 HNK.out.1)
              have HE6 := Lib.hid (he5.turn ht6 HNK.out.2)
              have HT6 := Lib.hid ((HT3.out.trans' ht5).trans' ht6)
              have HO5 := Lib.hid (show (Value.slice (some ⟨g5, 0, none⟩) (zs.length + 1) cap5).ownBlock = v.ownBlock ∨ ∀ b, (Value.slice (some ⟨g5, 0, none⟩) (zs.length + 1) cap5).ownBlock = some b → w.heap.size ≤ b from ho5.imp id fun h b hb => Nat.le_trans HT3.out.size (h b hb))
              have s5 := Lib.hid hk5.at
              have s6 := Lib.hid HK6.out.at
              have cp5 : w5.cell? ⟨p, 2, none⟩ = some (.slice s3 zs.length c3) := by rw [cell_of_row _ _ _ _ _ _ hb5]; rfl
              have fp5 := frozen_of_row w5 p 2 _ _ hb5
              clear hown5 hgrow5 hat5 hlt5 hb5 hm5 ht5 ho5 hk5 he5 hm6 ht6
              refine hK.out _ _ ?_ (fun hHeld => ?_)
              · (try dsimp only); exact s5.out
              clear hK K
              try simp only [Act.put, List.setIfInBounds_toArray, List.set_cons_zero, List.set_cons_succ]
              refine' wpAnyH_take (i := 8) (oi := ?oi32) (v := ?v32) ?hi32 ?hs32 ?hf32 ?hr32 ?hQ32 ?hy32 ?hS32 ?rest32
              case hi32 => exact rfl
              case hs32 => kernel_rfl
              case hf32 => kernel_rfl
              case hr32 => kernel_rfl
              case hQ32 => exact fun _ _ _ h => h
              case hS32 => assumption
              case hy32 =>
                refine Or.inl ⟨by rfl, ?_⟩
                intro w hSw
                try dsimp only at hSw
                go_simp
                try with_reducible rfl
              try simp only [Act.put, List.setIfInBounds_toArray, List.set_cons_zero, List.set_cons_succ]
              refine' wpAnyH_take (i := 9) (oi := ?oi33) (v := ?v33) ?hi33 ?hs33 ?hf33 ?hr33 ?hQ33 ?hy33 ?hS33 ?rest33
              case hi33 => exact rfl
              case hs33 => kernel_rfl
              case hf33 => kernel_rfl
              case hr33 => kernel_rfl
              case hQ33 => exact fun _ _ _ h => h
              case hS33 => assumption
              case hy33 =>
                refine Or.inl ⟨by rfl, ?_⟩
                intro w hSw
                try dsimp only at hSw
                go_simp
                try with_reducible rfl
              try simp only [Act.put, List.setIfInBounds_toArray, List.set_cons_zero, List.set_cons_succ]
              refine wpAnyH_ready (rs := [10]) (by kernel_rfl) (by simp) ?_
              refine' AllReadyH.cons (o := ?o34) ?ho34 ?h34 ?hs34
              case ho34 => exact rfl
              case h34 =>
                intro K hK
                go_simp
                refine hK.out _ _ ?_ (fun hHeld => ?_)
                · (try dsimp only); exact s6.out
                clear hK K
                try simp only [Act.put, List.setIfInBounds_toArray, List.set_cons_zero, List.set_cons_succ]
                refine wpAnyH_done (by kernel_rfl) ?_ _
                have hMd := HM6.out.grow (grown_drew1 (w5.setCell ⟨p, 2, none⟩ (.slice (some ⟨g5, 0, none⟩) (zs.length + 1) cap5)))
                have hKd := HK6.out.grow (grown_drew1 (w5.setCell ⟨p, 2, none⟩ (.slice (some ⟨g5, 0, none⟩) (zs.length + 1) cap5)))
                have hEd := HE6.out.grow (grown_drew1 (w5.setCell ⟨p, 2, none⟩ (.slice (some ⟨g5, 0, none⟩) (zs.length + 1) cap5)))
                obtain ⟨W9, hrun, hm9, g9⟩ := hMd.put HZS.out.ok (by omega) (y := ⟨ya, yv, yf, yp⟩) hy
                simp only at hrun
                have hne := hMd.map.isMap
                have S1 := Lib.hid (show (w5.setCell ⟨p, 2, none⟩ (.slice (some ⟨g5, 0, none⟩) (zs.length + 1) cap5)).drew.cell? ⟨p, 1, none⟩ = some (.map (some M)) ∧ ((w5.setCell ⟨p, 2, none⟩ (.slice (some ⟨g5, 0, none⟩) (zs.length + 1) cap5)).drew.cell? ⟨w.heap.size, 0, none⟩ = some (.int .i64 ya) ∧ (w5.setCell ⟨p, 2, none⟩ (.slice (some ⟨g5, 0, none⟩) (zs.length + 1) cap5)).drew.cell? ⟨w.heap.size, 1, none⟩ = some (.int .i64 yv)) ∧ ((w5.setCell ⟨p, 2, none⟩ (.slice (some ⟨g5, 0, none⟩) (zs.length + 1) cap5)).drew.cell? ⟨w.heap.size + 1, 0, none⟩ = some (.int .i64 yf) ∧ (w5.setCell ⟨p, 2, none⟩ (.slice (some ⟨g5, 0, none⟩) (zs.length + 1) cap5)).drew.cell? ⟨w.heap.size + 1, 1, none⟩ = some (.int .i64 yp)) from ⟨hMd.at.1, hKd.at, hEd.at⟩)
                have S9 := Lib.hid (show W9.cell? ⟨p, 1, none⟩ = some (.map (some M)) ∧ (W9.cell? ⟨w.heap.size, 0, none⟩ = some (.int .i64 ya) ∧ W9.cell? ⟨w.heap.size, 1, none⟩ = some (.int .i64 yv)) ∧ (W9.cell? ⟨w.heap.size + 1, 0, none⟩ = some (.int .i64 yf) ∧ W9.cell? ⟨w.heap.size + 1, 1, none⟩ = some (.int .i64 yp)) from
                  ⟨hm9.at.1, (hKd.grow' g9 (fun e => by obtain ⟨es, cl, hb⟩ := hne; rw [e, hKd] at hb; cases hb)).at, (hEd.grow' g9 (fun e => by obtain ⟨es, cl, hb⟩ := hne; rw [e, hEd] at hb; cases hb)).at⟩)
                have HM9 := Lib.hid hm9
                have HT9 := Lib.hid ((HT6.out.trans' (Turn.grown (grown_drew1 _))).trans' (Turn.one g9 (by simp)))
                clear hMd hKd hEd hm9 g9 hne
                generalize w5.setCell ⟨p, 2, none⟩ (.slice (some ⟨g5, 0, none⟩) (zs.length + 1) cap5) = w6 at *
                go_wp2_with fail
                go_region_held3 (fun W => W.cell? ⟨p, 1, none⟩ = some (.map (some M)) ∧ (W.cell? ⟨w.heap.size, 0, none⟩ = some (.int .i64 ya) ∧ W.cell? ⟨w.heap.size, 1, none⟩ = some (.int .i64 yv)) ∧ (W.cell? ⟨w.heap.size + 1, 0, none⟩ = some (.int .i64 yf) ∧ W.cell? ⟨w.heap.size + 1, 1, none⟩ = some (.int .i64 yp)))
                  (first | exact S1.out | exact S9.out) (fail)
                go_wp2_with fail
                go_end0
                obtain ⟨hperm, hks⟩ := new_key HZS.out (y := ⟨ya, yv, yf, yp⟩) hy HI2.out
                refine ⟨rfl, .slice (some ⟨g5, 0, none⟩) (zs.length + 1) cap5, ?_, HT9.out, HO5.out⟩
                rw [HPut.out]
                refine ⟨HM9.out.block, ?_, HM9.out.map.perm hperm, hks, by rw [List.length_append]; simpa using hl2, HZ.out.sz0, HZ.out.sz1⟩
                rw [List.length_append, List.flatMap_append]
                exact HM9.out.row
              exact AllReadyH.nil
            exact AllReadyH.nil
          exact AllReadyH.nil
        exact AllReadyH.nil
      -- END TWICE
end
end Go.Proofs.Ytmddflhacamnaaa
