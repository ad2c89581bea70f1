/- The document's files of layer 10: Peek, Read. -/
import Derived.Test.YtlaniifbfgcfaaaIBytes
namespace Go.Proofs.Ytlaniifbfgcfaaa
open Go.ChangeShapes Go.WideShapes Go.ChangeAt Go.RowKit Go.Deep
open Extern.Stop (cell)
set_option linter.unusedVariables false

theorem dropl_at {α : Type} {xs : List α} {j : Nat} {y : α} (h : xs[j]? = some y) : xs.drop j = y :: xs.drop (j + 1) := by
  rw [List.drop_eq_getElem_cons (List.getElem?_eq_some_iff.1 h).1]
  congr 1
  exact (List.getElem?_eq_some_iff.1 h).2
/-- A page, boxed. -/
def PeB (w : World) (y : Nat) (x : PE) : Prop := w.heap[y]? = some (.cells #[.int .i64 x.i, .int .i64 x.n, .slice (some ⟨x.g, 0, none⟩) 4096 x.c] 75 (0, 0))
theorem PeB.at {w : World} {y : Nat} {x : PE} (h : PeB w y x) : w.cell? ⟨y, 0, none⟩ = some (.int .i64 x.i) ∧ w.cell? ⟨y, 1, none⟩ = some (.int .i64 x.n) ∧ w.cell? ⟨y, 2, none⟩ = some (.slice (some ⟨x.g, 0, none⟩) 4096 x.c) :=
  ⟨by rw [cell_of_row _ _ _ _ _ _ h]; rfl, by rw [cell_of_row _ _ _ _ _ _ h]; rfl, by rw [cell_of_row _ _ _ _ _ _ h]; rfl⟩
/-- A page of the row, by its cells. -/
theorem pe_cells {w : World} {v : Value} {xs : List PE} (h : RowOf peCells 3 w v xs) {j : Nat} {y : PE} (hy : xs[j]? = some y) :
    ∃ g o c, v = .slice (some ⟨g, o, none⟩) xs.length c ∧ w.cell? ⟨g, o + j * 3, none⟩ = some (.int .i64 y.i) ∧ w.cell? ⟨g, o + j * 3 + 1, none⟩ = some (.int .i64 y.n) ∧ w.cell? ⟨g, o + j * 3 + 2, none⟩ = some (.slice (some ⟨y.g, 0, none⟩) 4096 y.c) := by
  obtain ⟨g, o, c, hv, hc⟩ := h.at pe_len hy
  exact ⟨g, o, c, hv, hc 0 _ rfl, by have := hc 1 _ rfl; rwa [← Nat.add_assoc] at this, by have := hc 2 _ rfl; rwa [← Nat.add_assoc] at this⟩
section
variable {w w' : World} {q : Nat} {s s' : IS} {vz vl : Value} {L : List PE}
theorem fresh_new {w wa : World} {O : List Nat} {bs : List UInt8} (hg : w.heap.size ≤ wa.heap.size) (hb : bs.length = 4096) (hO : ∀ b, b ∈ O → b < w.heap.size) {g c : Nat} (hga : wa.heap.size ≤ g) {w' : World} (h : ∃ cur t, w'.heap[g]? = some (.cells cur t (0, 0)) ∧ 4096 ≤ cur.size ∧ cur.toList.take 4096 = bs.map cell) : Fresh w w' O (.slice (some ⟨g, 0, none⟩) 4096 c) bs := by
  obtain ⟨cur, t, t1, t2, t3⟩ := h
  refine ⟨some ⟨g, 0, none⟩, c, by rw [hb], .inr ⟨g, rfl, by omega, fun hm => ?_, cur, t, t1, by rw [hb]; exact t2, by rw [hb]; exact t3⟩⟩
  have := hO g hm
  omega
theorem zero_new (w : World) : ∃ cur t, (w.alloc (.cells (pageZ.map cell).toArray 5)).heap[w.heap.size]? = some (.cells cur t (0, 0)) ∧ 4096 ≤ cur.size ∧ cur.toList.take 4096 = pageZ.map cell :=
  ⟨_, _, heap_alloc_new w _, by rw [List.size_toArray, List.length_map, pageZ_length]; exact Nat.le_refl _, by rw [List.take_of_length_le (by rw [List.length_map, pageZ_length]; exact Nat.le_refl _)]⟩
set_option maxRecDepth 10000 in
set_option maxHeartbeats 2000000 in
theorem ri_peek (h : RI w q s vz vl L) (hk : s.Ok) (hl : L.length ≤ 1000000) (i0 n : Int) (hi : okI i0) :
    Calls Try.prog 27 #[.pointer (some ⟨q, 0, none⟩), .int .i64 i0, .int .i64 n] w fun e w' => ∃ u, e = .returned u ∧ Fresh w w' (blocksI q vz vl L) u (peekI s i0 n) ∧ w.grownBy w' none := by
  have HSz := Lib.hid (ri_size h hk i0 hi)
  obtain ⟨l0, l1, l2⟩ := h.at
  have HR := Lib.hid h
  obtain ⟨a, c, a2, c2, e1, e2⟩ := h.form
  by_cases hs : s.has i0
  · by_cases hp : s.page i0 n
    · rw [show peekI s i0 n = pageOf L i0 n by unfold peekI; rw [if_pos hp]; exact h.says i0 n]
      rw [show sizeI s i0 = (s.size i0, true) from if_pos hs] at HSz
      obtain ⟨wa, hwa⟩ : ∃ wa, w = wa := ⟨_, rfl⟩
      obtain ⟨m, hm⟩ : ∃ m, s.size i0 = m := ⟨_, rfl⟩
      have hp2 := hp.2
      rw [hm] at HSz hp2
      have d0 : decide (n < 0) = false := decide_eq_false (by omega)
      have d1 : decide (n ≥ m) = false := decide_eq_false (by omega)
      have d2 : decide (m ≤ n) = false := decide_eq_false (by omega)
      obtain ⟨F, hF⟩ : ∃ F, L.find? (sameP i0 n) = F := ⟨_, rfl⟩
      have HF := Lib.hid hF
      have HLt := Lib.hid h.lt
      subst hwa e2
      clear h hF hk hs hp hp2 e1 hm
      go_enter Try.func27, Try.ntmps27
      go_wp2_with fail
      refine HSz.out.mono ?_
      rintro e w2 ⟨rfl, e2⟩
      subst w2
      have hmk := run_make_page
      have HZN := Lib.hid zero_new
      obtain ⟨Z, hZ⟩ : ∃ Z, (pageZ.map cell).toArray = Z := ⟨_, rfl⟩
      rw [hZ] at hmk HZN
      clear hZ
      go_wp2_with fail
      clear l0 l1 l2
      go_loopw [33] (fun i wr => ∃ j : Nat, j ≤ L.length ∧ i = .int .i64 j ∧ Hid (w.grownBy wr none) ∧ Hid ((L.drop j).find? (sameP i0 n) = F)) (fun i _ => L.length - (intOf i).toNat)
      case atStart => exact ⟨0, by omega, rfl, grown_refl _ _, HF.out⟩
      case round =>
        obtain ⟨j, hj, rfl, HGr, HFj⟩ := hrel
        have HRr := Lib.hid (HR.out.grow HGr.out)
        by_cases hlt : j < L.length
        · obtain ⟨y, hy⟩ : ∃ y, L[j]? = some y := ⟨_, List.getElem?_eq_getElem hlt⟩
          obtain ⟨g, o, c', hsl, k0, k1, k2⟩ := pe_cells HRr.out.list hy
          injection hsl with e1 e2 e3
          subst e1 e3
          have hfj := HFj.out
          rw [dropl_at hy] at hfj
          have g2 := World.grownBy_alloc wr (.cells #[.int .i64 y.i, .int .i64 y.n, .slice (some ⟨y.g, 0, none⟩) 4096 y.c] 75) none
          have HYB := Lib.hid (show PeB (wr.alloc (.cells #[.int .i64 y.i, .int .i64 y.n, .slice (some ⟨y.g, 0, none⟩) 4096 y.c] 75)) wr.heap.size y from heap_alloc_new wr _)
          obtain ⟨yi, yn, yg, yc, yb⟩ := y
          simp only at *
          generalize hwB : wr.alloc (.cells #[.int .i64 yi, .int .i64 yn, .slice (some ⟨yg, 0, none⟩) 4096 yc] 75) = wB at *
          have HG2 := Lib.hid (grown_trans HGr.out g2)
          obtain ⟨b0, b1, b2⟩ := HYB.out.at
          have HM := Lib.hid (List.mem_of_getElem? hy)
          clear g2 hy
          by_cases ha : yi = i0
          · subst ha
            by_cases hq : yn = n
            · subst hq
              have hsm : sameP yi yn ⟨yi, yn, yg, yc, yb⟩ = true := by simp [sameP]
              rw [List.find?_cons, hsm] at hfj
              have hpg := pageOf_some (HF.out.trans hfj.symm)
              have hpp := HR.out.pages _ HM.out
              simp only at hpg hpp
              have HPl := Lib.hid hpp.2
              have HPg := Lib.hid hpg
              have ga := World.grownBy_alloc wB (.cells #[] 5 (0, 0)) none
              have HN := Lib.hid (heap_alloc_new wB (.cells #[] 5 (0, 0)))
              have hb2 := ((hpp.1.grow HG2.out).grow ga).src
              rw [HPl.out] at hb2
              have HS := Lib.hid hb2
              have HGa := Lib.hid ga
              have b2a : (wB.alloc (.cells #[] 5 (0, 0))).cell? ⟨wr.heap.size, 2, none⟩ = some (.slice (some ⟨yg, 0, none⟩) 4096 yc) := Lib.cell?_alloc_some _ b2
              clear hsm hfj hpg hpp ga hb2
              go_wp2_with (at_builtin; refine wpList_bytes rfl _ _ rfl wB.heap.size HN.out rfl _ 4096 _ yb rfl HS.out (by omega) ?_; intro g9 c9 w9 hle9 hb9 gr9; have HLE := Lib.hid hle9; have HB9 := Lib.hid hb9; have G9 := Lib.hid gr9; clear hle9 hb9 gr9)
              go_ret
              have hsz := HG2.out.size
              have g29 := grown_trans HG2.out (grown_at HGa.out G9.out (Nat.le_refl _))
              rw [HPg.out]
              exact ⟨_, rfl, fresh_new (Nat.le_refl _) HPl.out HLt.out (by have := HLE.out; omega) (HB9.out.imp fun cur t => ⟨_, t⟩), g29⟩
            · have hsm : sameP yi n ⟨yi, yn, yg, yc, yb⟩ = false := by simp [sameP, hq]
              rw [List.find?_cons, hsm] at hfj
              have HN := Lib.hid hfj
              have hb : (yn == n) = false := by simpa using hq
              clear hsm hfj
              go_wp2_with fail
              go_roundw
              case rel => exact ⟨j + 1, by omega, by go_num, HG2, HN⟩
              case measure => simp [intOf]; omega
          · have hsm : sameP i0 n ⟨yi, yn, yg, yc, yb⟩ = false := by simp [sameP, ha]
            rw [List.find?_cons, hsm] at hfj
            have HN := Lib.hid hfj
            have hb : (yi == i0) = false := by simpa using ha
            clear hsm hfj
            go_wp2_with fail
            go_roundw
            case rel => exact ⟨j + 1, by omega, by go_num, HG2, HN⟩
            case measure => simp [intOf]; omega
        · obtain rfl : j = L.length := by omega
          have hfj := HFj.out
          rw [List.drop_length] at hfj
          have HPg := Lib.hid (pageOf_none (HF.out.trans hfj.symm))
          clear hfj
          go_wp2_with fail
          go_ret
          have hsz := HGr.out.size
          have ga := World.grownBy_alloc wr (.cells Z 5) none
          rw [HPg.out]
          exact ⟨_, rfl, fresh_new (Nat.le_refl _) pageZ_length HLt.out hsz (HZN.out wr), grown_trans HGr.out ga⟩
    · rw [show peekI s i0 n = [] from if_neg hp]
      rw [show sizeI s i0 = (s.size i0, true) from if_pos hs] at HSz
      obtain ⟨m, hm⟩ : ∃ m, s.size i0 = m := ⟨_, rfl⟩
      rw [hm] at HSz
      have hc : n < 0 ∨ (¬ n < 0 ∧ m ≤ n) := by
        have := fun h1 h2 => hp ⟨hs, h1, h2⟩
        by_cases h0 : n < 0
        · exact .inl h0
        · exact .inr ⟨h0, by rw [← hm]; exact Int.not_lt.1 (this (by omega))⟩
      clear h hk hs hp hm
      rcases hc with d0 | ⟨d0, d1⟩
      all_goals
        go_enter Try.func27, Try.ntmps27
        go_wp2_with fail
        refine HSz.out.mono ?_
        rintro e w2 ⟨rfl, e2⟩
        subst w2
        go_wp2_with fail
        go_ret
        exact ⟨_, rfl, Fresh.nil _ _ _ _ _, grown_refl _ _⟩
  · rw [show peekI s i0 n = [] from if_neg fun h => hs h.1]
    rw [show sizeI s i0 = (0, false) from if_neg hs] at HSz
    clear h hk hs
    go_enter Try.func27, Try.ntmps27
    go_wp2_with fail
    refine HSz.out.mono ?_
    rintro e w2 ⟨rfl, e2⟩
    subst w2
    go_wp2_with fail
    go_ret
    exact ⟨_, rfl, Fresh.nil _ _ _ _ _, grown_refl _ _⟩
set_option maxRecDepth 10000 in
set_option maxHeartbeats 2000000 in
theorem ri_read (h : RI w q s vz vl L) (hk : s.Ok) (hl : L.length ≤ 1000000) (i0 n : Int) (hi : okI i0) :
    Calls Try.prog 17 #[.pointer (some ⟨q, 0, none⟩), .int .i64 i0, .int .i64 n] w fun e w' => ∃ u, e = .returned (.tuple #[u, .int .i64 (readI s i0 n).1]) ∧ Fresh w w' (blocksI q vz vl L) u (readI s i0 n).2.1 ∧ RI w' q (readI s i0 n).2.2 vz vl L ∧ w.grownBy w' (some q) := by
  have HSz := Lib.hid (ri_size h hk i0 hi)
  have HFl := Lib.hid (ri_fails h hk)
  have HH := Lib.hid h
  obtain ⟨a, c, a2, c2, e1, e2⟩ := h.form
  by_cases hs : s.has i0
  · by_cases hp : s.page i0 n
    · rw [show sizeI s i0 = (s.size i0, true) from if_pos hs] at HSz
      obtain ⟨m, hm⟩ : ∃ m, s.size i0 = m := ⟨_, rfl⟩
      have hp2 := hp.2
      rw [hm] at HSz hp2
      have d0 : decide (n < 0) = false := decide_eq_false (by omega)
      have d1 : decide (n ≥ m) = false := decide_eq_false (by omega)
      have d2 : decide (m ≤ n) = false := decide_eq_false (by omega)
      have HLt := Lib.hid h.lt
      by_cases h1 : s.left = 1
      · rw [show readI s i0 n = (6, [], failI s) by unfold readI; rw [if_pos hs, if_pos hp, if_pos h1]]
        rw [decide_eq_true h1] at HFl
        clear h hk hs hp hp2 hm h1
        go_enter Try.func17, Try.ntmps17
        go_wp2_with fail
        refine HSz.out.mono ?_
        rintro e w2 ⟨rfl, e3⟩
        subst w2
        go_wp2_with fail
        refine HFl.out.mono ?_
        rintro e w2 ⟨rfl, h2, g2⟩
        have H2 := Lib.hid h2
        have HG := Lib.hid g2
        clear h2 g2
        go_wp2_with fail
        go_ret2
        exact ⟨_, rfl, Fresh.nil _ _ _ _ _, H2.out, HG.out⟩
      rw [show readI s i0 n = (0, pageOf L i0 n, failI s) by unfold readI; rw [if_pos hs, if_pos hp, if_neg h1, h.says i0 n]]
      rw [decide_eq_false h1] at HFl
      obtain ⟨F, hF⟩ : ∃ F, L.find? (sameP i0 n) = F := ⟨_, rfl⟩
      have HF := Lib.hid hF
      subst e2
      clear h hF hk hs hp hp2 e1 hm h1
      go_enter Try.func17, Try.ntmps17
      go_wp2_with fail
      refine HSz.out.mono ?_
      rintro e w2 ⟨rfl, e2⟩
      subst w2
      go_wp2_with fail
      refine HFl.out.mono ?_
      rintro e wa ⟨rfl, h2, g2⟩
      have HR := Lib.hid h2
      have HGq := Lib.hid g2
      obtain ⟨l0, l1, l2⟩ := h2.at
      have hqs := g2.size
      clear h2 g2
      have hmk := run_make_page
      have HZN := Lib.hid zero_new
      obtain ⟨Z, hZ⟩ : ∃ Z, (pageZ.map cell).toArray = Z := ⟨_, rfl⟩
      rw [hZ] at hmk HZN
      clear hZ
      go_wp2_with fail
      clear l0 l1 l2
      go_loopw [37] (fun i wr => ∃ j : Nat, j ≤ L.length ∧ i = .int .i64 j ∧ Hid (wa.grownBy wr none) ∧ Hid ((L.drop j).find? (sameP i0 n) = F)) (fun i _ => L.length - (intOf i).toNat)
      case atStart => exact ⟨0, by omega, rfl, grown_refl _ _, HF.out⟩
      case round =>
        obtain ⟨j, hj, rfl, HGr, HFj⟩ := hrel
        have HRr := Lib.hid (HR.out.grow HGr.out)
        by_cases hlt : j < L.length
        · obtain ⟨y, hy⟩ : ∃ y, L[j]? = some y := ⟨_, List.getElem?_eq_getElem hlt⟩
          obtain ⟨g, o, c', hsl, k0, k1, k2⟩ := pe_cells HRr.out.list hy
          injection hsl with e1 e2 e3
          subst e1 e3
          have hfj := HFj.out
          rw [dropl_at hy] at hfj
          have g2 := World.grownBy_alloc wr (.cells #[.int .i64 y.i, .int .i64 y.n, .slice (some ⟨y.g, 0, none⟩) 4096 y.c] 75) none
          have HYB := Lib.hid (show PeB (wr.alloc (.cells #[.int .i64 y.i, .int .i64 y.n, .slice (some ⟨y.g, 0, none⟩) 4096 y.c] 75)) wr.heap.size y from heap_alloc_new wr _)
          obtain ⟨yi, yn, yg, yc, yb⟩ := y
          simp only at *
          generalize hwB : wr.alloc (.cells #[.int .i64 yi, .int .i64 yn, .slice (some ⟨yg, 0, none⟩) 4096 yc] 75) = wB at *
          have HG2 := Lib.hid (grown_trans HGr.out g2)
          obtain ⟨b0, b1, b2⟩ := HYB.out.at
          have HM := Lib.hid (List.mem_of_getElem? hy)
          clear g2 hy
          by_cases ha : yi = i0
          · subst ha
            by_cases hq : yn = n
            · subst hq
              have hsm : sameP yi yn ⟨yi, yn, yg, yc, yb⟩ = true := by simp [sameP]
              rw [List.find?_cons, hsm] at hfj
              have hpg := pageOf_some (HF.out.trans hfj.symm)
              have hpp := HR.out.pages _ HM.out
              simp only at hpg hpp
              have HPl := Lib.hid hpp.2
              have HPg := Lib.hid hpg
              have ga := World.grownBy_alloc wB (.cells #[] 5 (0, 0)) none
              have HN := Lib.hid (heap_alloc_new wB (.cells #[] 5 (0, 0)))
              have hb2 := ((hpp.1.grow HG2.out).grow ga).src
              rw [HPl.out] at hb2
              have HS := Lib.hid hb2
              have HGa := Lib.hid ga
              have b2a : (wB.alloc (.cells #[] 5 (0, 0))).cell? ⟨wr.heap.size, 2, none⟩ = some (.slice (some ⟨yg, 0, none⟩) 4096 yc) := Lib.cell?_alloc_some _ b2
              clear hsm hfj hpg hpp ga hb2
              go_wp2_with (at_builtin; refine wpList_bytes rfl _ _ rfl wB.heap.size HN.out rfl _ 4096 _ yb rfl HS.out (by omega) ?_; intro g9 c9 w9 hle9 hb9 gr9; have HLE := Lib.hid hle9; have HB9 := Lib.hid hb9; have G9 := Lib.hid gr9; clear hle9 hb9 gr9)
              go_ret2
              have hsz := HG2.out.size
              have g29 := grown_trans HG2.out (grown_at HGa.out G9.out (Nat.le_refl _))
              rw [HPg.out]
              exact ⟨_, rfl, fresh_new hqs HPl.out HLt.out (by have := HLE.out; omega) (HB9.out.imp fun cur t => ⟨_, t⟩), HR.out.grow g29, grown_trans HGq.out (grown_none g29)⟩
            · have hsm : sameP yi n ⟨yi, yn, yg, yc, yb⟩ = false := by simp [sameP, hq]
              rw [List.find?_cons, hsm] at hfj
              have HN := Lib.hid hfj
              have hb : (yn == n) = false := by simpa using hq
              clear hsm hfj
              go_wp2_with fail
              go_roundw
              case rel => exact ⟨j + 1, by omega, by go_num, HG2, HN⟩
              case measure => simp [intOf]; omega
          · have hsm : sameP i0 n ⟨yi, yn, yg, yc, yb⟩ = false := by simp [sameP, ha]
            rw [List.find?_cons, hsm] at hfj
            have HN := Lib.hid hfj
            have hb : (yi == i0) = false := by simpa using ha
            clear hsm hfj
            go_wp2_with fail
            go_roundw
            case rel => exact ⟨j + 1, by omega, by go_num, HG2, HN⟩
            case measure => simp [intOf]; omega
        · obtain rfl : j = L.length := by omega
          have hfj := HFj.out
          rw [List.drop_length] at hfj
          have HPg := Lib.hid (pageOf_none (HF.out.trans hfj.symm))
          clear hfj
          go_wp2_with fail
          go_ret2
          have hsz := HGr.out.size
          have ga := World.grownBy_alloc wr (.cells Z 5) none
          rw [HPg.out]
          exact ⟨_, rfl, fresh_new hqs pageZ_length HLt.out hsz (HZN.out wr), (HR.out.grow HGr.out).grow ga, grown_trans HGq.out (grown_none (grown_trans HGr.out ga))⟩
    · rw [show readI s i0 n = (2, [], s) by unfold readI; rw [if_pos hs, if_neg hp]]
      rw [show sizeI s i0 = (s.size i0, true) from if_pos hs] at HSz
      obtain ⟨m, hm⟩ : ∃ m, s.size i0 = m := ⟨_, rfl⟩
      rw [hm] at HSz
      have hc : n < 0 ∨ (¬ n < 0 ∧ m ≤ n) := by
        have := fun h1 h2 => hp ⟨hs, h1, h2⟩
        by_cases h0 : n < 0
        · exact .inl h0
        · exact .inr ⟨h0, by rw [← hm]; exact Int.not_lt.1 (this (by omega))⟩
      clear h hk hs hp hm
      rcases hc with d0 | ⟨d0, d1⟩
      all_goals
        go_enter Try.func17, Try.ntmps17
        go_wp2_with fail
        refine HSz.out.mono ?_
        rintro e w2 ⟨rfl, e2⟩
        subst w2
        go_wp2_with fail
        go_ret2
        exact ⟨_, rfl, Fresh.nil _ _ _ _ _, HH.out, grown_refl _ _⟩
  · rw [show readI s i0 n = (7, [], s) from if_neg hs]
    rw [show sizeI s i0 = (0, false) from if_neg hs] at HSz
    clear h hk hs
    go_enter Try.func17, Try.ntmps17
    go_wp2_with fail
    refine HSz.out.mono ?_
    rintro e w2 ⟨rfl, e2⟩
    subst w2
    go_wp2_with fail
    go_ret2
    exact ⟨_, rfl, Fresh.nil _ _ _ _ _, HH.out, grown_refl _ _⟩
end
end Go.Proofs.Ytlaniifbfgcfaaa
