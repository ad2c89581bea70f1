/- FilePages, walked out of what package file says. -/
import Derived.Test.YtlaniifbfgcfaaaIPairs
import Derived.Deep.MidRow
namespace Go.Proofs.Ytlaniifbfgcfaaa
open Go.ChangeShapes Go.WideShapes Go.ChangeAt Go.RowKit Go.Deep
open Extern.Stop (cell)
set_option linter.unusedVariables false

theorem pgs_make : makeI newI 6 = (1, 0, ⟨[6], zerosI, 0⟩) := rfl
theorem pgs_page {S : IS} (hz : S.Z = [6]) {c : Int} (h0 : 0 ≤ c) (h1 : c < 6) : S.page 1 c := by
  refine ⟨⟨Int.le_refl _, by rw [hz]; decide⟩, h0, ?_⟩
  unfold IS.size
  rw [hz]
  exact h1
theorem pgs_write {S : IS} (hz : S.Z = [6]) (hl : S.left = 0) {c : Int} (h0 : 0 ≤ c) (h1 : c < 6) {pg : List UInt8} (hp : pg.length = 4096) : writeI S 1 c pg = (0, ⟨S.Z, putI S.P 1 c pg, 0⟩) := by
  have h := pgs_page hz h0 h1
  unfold writeI
  rw [if_pos h.1, if_pos ⟨h, hp⟩, if_neg (by omega), hl]
  rfl
theorem pgs_plan {S : IS} : planI S 1 = (0, ⟨S.Z, S.P, 1⟩) := rfl
theorem pgs_fail {S : IS} (hz : S.Z = [6]) (hl : S.left = 1) : readI S 1 0 = (6, [], failI S) := by
  have h := pgs_page hz (c := 0) (by decide) (by decide)
  unfold readI
  rw [if_pos h.1, if_pos h, if_pos hl]
theorem pgs_no {S : IS} (hz : S.Z = [6]) : ¬ S.page 1 6 := fun h => by
  have := h.2.2
  unfold IS.size at this
  rw [hz] at this
  exact absurd this (by decide)
theorem pgs_bad {S : IS} (hz : S.Z = [6]) : readI S 1 6 = (2, [], S) := by
  have h := pgs_page hz (c := 0) (by decide) (by decide)
  unfold readI
  rw [if_pos h.1, if_neg (pgs_no hz)]
theorem pgs_peek {S : IS} (hz : S.Z = [6]) {c : Int} (h0 : 0 ≤ c) (h1 : c < 6) : peekI S 1 c = S.P 1 c := if_pos (pgs_page hz h0 h1)
theorem pgs_peek6 {S : IS} (hz : S.Z = [6]) : peekI S 1 6 = [] := if_neg (pgs_no hz)
theorem pgs_peek2 {S : IS} (hz : S.Z = [6]) : peekI S 2 0 = [] := if_neg fun h => by
  have := h.1.2
  rw [hz] at this
  exact absurd this (by decide)

/-- The law's files, and what it has noted of them in block B. -/
structure PG (D : World → Nat → IS → List Nat → Nat → Prop) (w wr : World) (p : Nat) (S : IS) (O : List Nat) (k B : Nat) (hv : List UInt8) : Prop where
  lv : LI D w wr p S O k
  z : S.Z = [6]
  left : S.left = 0
  heads : ∀ (n : Nat) v, hv[n]? = some v → (S.P 1 n)[0]? = some v
  len : hv.length = 6
  box : wr.heap[B]? = some (.cells (hv.map cell).toArray 68 (0, 0))
  fresh : w.heap.size ≤ B
  out : B ∉ O
section
variable {D : World → Nat → IS → List Nat → Nat → Prop} {w wr wx w4 : World} {p : Nat} {S : IS} {O : List Nat} {k B : Nat} {hv : List UInt8}
theorem PG.lt (h : PG D w wr p S O k B hv) : B < wr.heap.size := (Array.getElem?_eq_some_iff.1 h.box).1
theorem PG.grow (H : FlOk D) (h : PG D w wr p S O k B hv) (g : wr.grownBy wx none) : PG D w wx p S O k B hv := ⟨h.lv.grow H g, h.z, h.left, h.heads, h.len, (g.block B h.lt (by simp)).trans h.box, h.fresh, h.out⟩
theorem PG.range (h : PG D w wr p S O k B hv) : wr.rangeAt B 0 (hv.map cell) := fun j v hv' => by
  rw [Nat.zero_add, cell_of_row _ _ _ _ _ _ h.box]
  simpa using hv'
/-- One page is written, and noted. -/
theorem PG.step (H : FlOk D) (h : PG D w wx p S O k B hv) {c : Nat} (hc : c < 6) {b : Int} (hb0 : 0 ≤ b) (hb1 : b < 256) {pg : List UInt8} (hp : pg.length = 4096) (hh : pg[0]? = some (b8 b)) (t : IL D wx w4 p O ⟨S.Z, putI S.P 1 c pg, 0⟩ (k + 1)) :
    (∃ O', PG D w (w4.setCell ⟨B, c, none⟩ (.int .u8 b)) p ⟨S.Z, putI S.P 1 c pg, 0⟩ O' (k + 1) B (hv.set c (b8 b))) ∧ (∃ z, w4.cell? ⟨B, c, none⟩ = some z) ∧ w4.frozen? ⟨B, c, none⟩ = false ∧ Turn O wx w4 ∧ w.grownBy w4 none := by
  have hok : IS.Ok ⟨S.Z, putI S.P 1 c pg, 0⟩ := by
    have := h.lv.ok.write (i := 1) (n := c) (bs := pg)
    rw [pgs_write h.z h.left (by omega) (by omega) hp] at this
    exact this
  obtain ⟨O', h4, t4, o4⟩ := h.lv.left t hok
  have hb4 : w4.heap[B]? = some (.cells (hv.map cell).toArray 68 (0, 0)) := (t4.block B h.lt h.out).trans h.box
  have hout : B ∉ O' := fun hm => by
    rcases o4 B hm with h1 | h1
    · exact h.out h1
    · have := h.lt; omega
  have hk : ∀ x, x ≠ B → (w4.setCell ⟨B, c, none⟩ (.int .u8 b)).heap[x]? = w4.heap[x]? := fun x hx => heap_setCell_other w4 ⟨B, c, none⟩ x _ (by first | exact hx | exact hx.symm)
  refine ⟨⟨O', ⟨⟨H.kept h4.d (by simp) fun x hx => hk x fun e => hout (e ▸ hx), h4.own, grown_at h4.grown (grown_set w4 B c _) h.fresh, hok⟩, h.z, rfl, fun n v hn => ?_, by rw [List.length_set]; exact h.len, ?_, h.fresh, hout⟩⟩, ⟨cell (hv[c]'(by rw [h.len]; exact hc)), ?_⟩, frozen_of_row _ _ _ _ _ hb4, t4, h4.grown⟩
  · show (putI S.P 1 c pg 1 n)[0]? = some v
    unfold putI
    by_cases e : n = c
    · subst e
      have hlt : n < hv.length := by rw [h.len]; exact hc
      rw [List.getElem?_set_self hlt] at hn
      rw [if_pos ⟨rfl, rfl⟩, hh]
      exact hn
    · rw [if_neg (by omega)]
      rw [List.getElem?_set_ne (by omega)] at hn
      exact h.heads n v hn
  · rw [heap_setCell_same w4 B c _ _ _ hb4]
    congr 2
    rw [List.map_set, cell_b8 hb0 hb1]
    simp
  · rw [cell_of_row _ _ _ _ _ _ hb4]
    have hlt : c < hv.length := by rw [h.len]; exact hc
    simp [hlt]
end
theorem run_index_six (cs : List Value) (hl : cs.length = 6) {j : Nat} {v : Value} (hv : cs[j]? = some v) (W : World) : (Instr.index 68 (.agg cs.toArray) (.int .i64 (j : Int))).run Try.prog W = .ok v W := by
  match cs, hl with
  | [a, b, c, d, e, f], _ =>
    have hj : j < 6 := (List.getElem?_eq_some_iff.1 hv).1
    rcases (show j = 0 ∨ j = 1 ∨ j = 2 ∨ j = 3 ∨ j = 4 ∨ j = 5 by omega) with rfl | rfl | rfl | rfl | rfl | rfl
    · obtain rfl : v = a := by simpa using hv.symm
      exact (show (Instr.index 68 (.agg #[v, b, c, d, e, f]) (.int .i64 0)).run Try.prog W = .ok v W by kernel_rfl)
    · obtain rfl : v = b := by simpa using hv.symm
      exact (show (Instr.index 68 (.agg #[a, v, c, d, e, f]) (.int .i64 1)).run Try.prog W = .ok v W by kernel_rfl)
    · obtain rfl : v = c := by simpa using hv.symm
      exact (show (Instr.index 68 (.agg #[a, b, v, d, e, f]) (.int .i64 2)).run Try.prog W = .ok v W by kernel_rfl)
    · obtain rfl : v = d := by simpa using hv.symm
      exact (show (Instr.index 68 (.agg #[a, b, c, v, e, f]) (.int .i64 3)).run Try.prog W = .ok v W by kernel_rfl)
    · obtain rfl : v = e := by simpa using hv.symm
      exact (show (Instr.index 68 (.agg #[a, b, c, d, v, f]) (.int .i64 4)).run Try.prog W = .ok v W by kernel_rfl)
    · obtain rfl : v = f := by simpa using hv.symm
      exact (show (Instr.index 68 (.agg #[a, b, c, d, e, v]) (.int .i64 5)).run Try.prog W = .ok v W by kernel_rfl)

set_option maxRecDepth 100000 in
set_option maxHeartbeats 4000000 in
theorem pages_walk10 {D : World → Nat → IS → List Nat → Nat → Prop} (H : FlOk D) (w : World) (s : Option Addr) (l c : Nat) (L : List (Int × Int)) (hL : PairsU w s l L) :
    Calls Try.prog 8 #[.slice s l c] w fun e w' => e = .returned (.bool true) ∧ w.grownBy w' none := by
  have HLv := Lib.hid (fun wx => lives10 H wx)
  have HT := Lib.hid H
  have HP := Lib.hid hL
  by_cases hl : l > 60
  · have hb : decide ((l : Int) > 60) = true := by simp; omega
    clear H hL hl
    go_enter Try.func8, Try.ntmps8
    go_wp2_with fail
    refine (HLv.out _).mono ?_
    rintro e w1 ⟨rfl, g1⟩
    have HG := Lib.hid g1
    clear g1
    go_wp2_with fail
    go_ret
    exact ⟨rfl, HG.out⟩
  · have hb : decide ((l : Int) > 60) = false := by simp; omega
    have hl2 : l ≤ 60 := by omega
    have HN := Lib.hid (H.new w)
    clear H hL hl
    go_enter Try.func8, Try.ntmps8
    go_wp2_with fail
    refine HN.out.mono ?_
    rintro e w1 ⟨p, O, rfl, h1, g1, o1⟩
    have H1 := Lib.hid (show LI D w w1 p newI O 0 from ⟨h1, o1, g1, newI_ok⟩)
    have hk := HT.out.make h1 H1.out.ok 6 (okS (by decide) (by decide))
    have hok := H1.out.ok.make (n := 6)
    rw [pgs_make] at hk hok
    have HK := Lib.hid hk
    have HO := Lib.hid hok
    clear hk h1 g1 o1 HN hok
    go_wp2_with fail
    refine HK.out.mono ?_
    rintro e w2 ⟨rfl, h2⟩
    obtain ⟨O2, h2, -, -⟩ := H1.out.left h2 HO.out
    have ga := World.grownBy_alloc w2 (.cells #[.int .u8 0, .int .u8 0, .int .u8 0, .int .u8 0, .int .u8 0, .int .u8 0] 68 (0, 0)) none
    have HG := Lib.hid (show PG D w (w2.alloc (.cells #[.int .u8 0, .int .u8 0, .int .u8 0, .int .u8 0, .int .u8 0, .int .u8 0] 68 (0, 0))) p ⟨[6], zerosI, 0⟩ O2 0 w2.heap.size (List.replicate 6 0) from
      ⟨h2.grow HT.out ga, rfl, rfl, fun n v hn => by rw [show v = 0 from (List.mem_replicate.1 (List.mem_of_getElem? hn)).2]; exact pageZ_head, rfl, heap_alloc_new w2 _, h2.grown.size, fun hm => absurd (HT.out.lt h2.d _ hm) (Nat.lt_irrefl _)⟩)
    clear h2 ga HK H1 HO
    go_wp2_with fail
    generalize w2.alloc (.cells #[.int .u8 0, .int .u8 0, .int .u8 0, .int .u8 0, .int .u8 0, .int .u8 0] 68 (0, 0)) = w3 at *
    generalize w2.heap.size = B at *
    go_loopw [35] (fun iv wr => ∃ (j : Nat) (S : IS) (O : List Nat) (hv : List UInt8), j ≤ l ∧ iv = .int .i64 j ∧ Hid (PG D w wr p S O j B hv)) (fun iv _ => l - (intOf iv).toNat)
    case atStart => exact ⟨0, _, O2, _, by omega, rfl, HG⟩
    case round =>
      clear HG
      obtain ⟨j, S, O3, hv, hj, rfl, HJ⟩ := hrel
      by_cases hlt : j < l
      · have hjb : decide ((j : Int) < (l : Int)) = true := by simp; omega
        have d3 : decide (l ≤ j) = false := decide_eq_false (by omega)
        obtain ⟨⟨x0, x1⟩, hx⟩ : ∃ x, L[j]? = some x := ⟨_, List.getElem?_eq_getElem (by rw [HP.out.len]; exact hlt)⟩
        obtain ⟨b, o, hs, a0, a1⟩ := HP.out.at HJ.out.lv.grown hx
        have hxo := HP.out.ok _ (List.mem_of_getElem? hx)
        simp only at a0 a1 hxo
        subst hs
        obtain ⟨n, hn⟩ : ∃ n : Nat, x0.tmod 6 = n := Int.eq_ofNat_of_zero_le (by rw [Int.tmod_eq_emod_of_nonneg hxo.1.1]; omega)
        have hn6 : n < 6 := by rw [Int.tmod_eq_emod_of_nonneg hxo.1.1] at hn; omega
        obtain ⟨y, hy⟩ : ∃ y : Int, x1 % 256 = y := ⟨_, rfl⟩
        have hy0 : 0 ≤ y := by omega
        have hy1 : y < 256 := by omega
        have ga := World.grownBy_alloc wr (.cells #[.int .u64 x0, .int .u64 x1] 57 (0, 0)) none
        have ba := heap_alloc_new wr (.cells #[.int .u64 x0, .int .u64 x1] 57 (0, 0))
        have HA := Lib.hid (HJ.out.grow HT.out ga)
        generalize hwA : wr.alloc (.cells #[.int .u64 x0, .int .u64 x1] 57 (0, 0)) = wA at *
        have k0 : wA.cell? ⟨wr.heap.size, 0, none⟩ = some (.int .u64 x0) := by rw [cell_of_row _ _ _ _ _ _ ba]; rfl
        have k1 : wA.cell? ⟨wr.heap.size, 1, none⟩ = some (.int .u64 x1) := by rw [cell_of_row _ _ _ _ _ _ ba]; rfl
        have hXO : wr.heap.size ∉ O3 := fun hm => absurd (HT.out.lt HJ.out.lv.d _ hm) (Nat.lt_irrefl _)
        clear ga ba hx HJ
        generalize hX : wr.heap.size = X at *
        have HQ := Lib.hid (page_ok 2 (two_src wA y j hy0 hy1 (by omega) (by omega)) (by decide))
        have HAa := Lib.hid (HA.out.grow HT.out (World.grownBy_alloc wA (.cells #[.int .u8 y, .int .u8 (j : Int)] 5 (0, 0)) none))
        have q1 : (wA.alloc (.cells #[.int .u8 y, .int .u8 (j : Int)] 5 (0, 0))).cell? ⟨X, 1, none⟩ = some (.int .u64 x1) := Lib.cell?_alloc_some _ k1
        have HX := Lib.hid hXO
        clear hXO
        go_wp2_with fail
        refine HQ.out.mono ?_
        rintro e w5 ⟨g, rfl, hg, hb5, g5⟩
        have H5 := Lib.hid (HAa.out.grow HT.out g5)
        have hsrc := hb5.src
        rw [fillOf_len] at hsrc
        have hk := HT.out.write H5.out.lv.d H5.out.lv.ok (by omega) 1 n (some ⟨g, 0, none⟩) 4096 4096 (fillOf [b8 y, b8 j]) (okS (by decide) (by decide)) (okS (by omega) (by omega)) hsrc (by decide) (fun _ ad e hm => by cases e; have h9 := HT.out.lt HAa.out.lv.d g hm; omega)
        rw [pgs_write H5.out.z H5.out.left (by omega) (by omega) (fillOf_len _)] at hk
        have HK := Lib.hid hk
        have q5 := g5.cell q1 (by simp)
        clear hk hsrc hb5 hg g5 HQ HAa q1 k0 k1 a0 a1
        go_wp2_with fail
        refine HK.out.mono ?_
        rintro e w6 ⟨rfl, h6⟩
        obtain ⟨⟨O6, h7⟩, ⟨z6, y6⟩, f6, t6, g6⟩ := H5.out.step HT.out hn6 hy0 hy1 (fillOf_len _) (fill_head _ _) h6
        have q6 : w6.cell? ⟨X, 1, none⟩ = some (.int .u64 x1) := (World.cell?_of_block (w := w5) (w' := w6) (a := ⟨X, 1, none⟩) (t6.block X (World.block_lt_of_cell? w5 _ q5) HX.out)).trans q5
        have H7 := Lib.hid h7
        clear h6 h7 t6 g6 HK H5
        go_wp2_with fail
        exact ⟨⟨j + 1, _, O6, _, by omega, by simp, H7⟩, by simp [intOf]; omega⟩
      · have hjb : decide ((j : Int) < (l : Int)) = false := by simp; omega
        have hk := HT.out.plan HJ.out.lv.d HJ.out.lv.ok 1 (okS (by decide) (by decide))
        have hok := HJ.out.lv.ok.plan (n := 1) (okS (by decide) (by decide))
        rw [pgs_plan] at hk hok
        have HK := Lib.hid hk
        have HO := Lib.hid hok
        clear hk hok
        go_wp2_with fail
        refine HK.out.mono ?_
        rintro e w5 ⟨rfl, h5⟩
        obtain ⟨O5, h6, t5, -⟩ := HJ.out.lv.left h5 HO.out
        have hb5 : w5.heap[B]? = some (.cells (hv.map cell).toArray 68 (0, 0)) := (t5.block B HJ.out.lt HJ.out.out).trans HJ.out.box
        have H6 := Lib.hid h6
        have HV := Lib.hid (show ∀ (n : Nat) v, hv[n]? = some v → (S.P 1 n)[0]? = some v from HJ.out.heads)
        have hz := HJ.out.z
        have HZ := Lib.hid hz
        have hvl := HJ.out.len
        have hxi : (Try.prog.info? 68).map (·.size) = some (hv.map cell).length := by rw [List.length_map, hvl]; kernel_rfl
        obtain ⟨cs, hcs⟩ : ∃ cs, hv.map cell = cs := ⟨_, rfl⟩
        rw [hcs] at hb5 hxi
        have HR := Lib.hid (show w5.rangeAt B 0 cs from fun j v hj => by
          rw [Nat.zero_add, cell_of_row _ _ _ cs.toArray 68 (0, 0) hb5]
          simpa using hj)
        have HXI := Lib.hid hxi
        have HCS := Lib.hid hcs
        have hcl : cs.length = 6 := by rw [← hcs, List.length_map, hvl]
        clear h5 h6 t5 hb5 hz hxi hcs HK HJ HO
        go_wp2_with (refine wpList_load_mid rfl 68 _ rfl B 0 rfl cs _ HR.out Try.underlying68 rfl HXI.out ?_)
        go_loopw [65] (fun iv wr => ∃ i : Nat, i ≤ 6 ∧ iv = .int .i64 i ∧ Hid (LI D w wr p ⟨S.Z, S.P, 1⟩ O5 j)) (fun iv _ => 6 - (intOf iv).toNat)
        case atStart => exact ⟨0, by omega, rfl, H6⟩
        case round =>
          clear H6
          obtain ⟨i, hi, rfl, HJ⟩ := hrel
          by_cases hlt2 : i < 6
          · have hib : decide ((i : Int) < 6) = true := by simp; omega
            obtain ⟨v, hv1⟩ : ∃ v, hv[i]? = some v := ⟨_, List.getElem?_eq_getElem (by omega)⟩
            have hci : cs[i]? = some (cell v) := by rw [← HCS.out, List.getElem?_map, hv1]; rfl
            have hidx := run_index_six cs hcl hci
            have hh := HV.out i v hv1
            have hk := HT.out.peek HJ.out.d HJ.out.ok (by omega) 1 i (okS (by decide) (by decide)) (okS (by omega) (by omega))
            rw [pgs_peek (S := ⟨S.Z, S.P, 1⟩) HZ.out (by omega) (by omega)] at hk
            have hpl := HJ.out.ok.bytes 1 i
            simp only at hk hpl
            obtain ⟨pg, hpg⟩ : ∃ pg, S.P 1 i = pg := ⟨_, rfl⟩
            rw [hpg] at hk hpl hh
            have HK := Lib.hid hk
            have HPl := Lib.hid hpl
            have HH := Lib.hid hh
            have hcv : cell v = .int .u8 (v.toNat : Int) := rfl
            rw [hcv] at hidx
            clear hk hpl hh hci hv1 hpg hcv
            go_wp2_with fail
            refine HK.out.mono ?_
            rintro e w7 ⟨u, rfl, f7, g7⟩
            obtain ⟨a, cc, rfl, h0 | ⟨g, rfl, hg, -, hb7⟩⟩ := f7
            · rw [HPl.out] at h0; cases h0
            · have kk := (hb7.at HH.out).1
              have H7 := Lib.hid (HJ.out.grow HT.out g7)
              rw [HPl.out]
              clear hb7 g7 hg HK HJ
              go_wp2_with fail
              exact ⟨⟨i + 1, by omega, by simp, H7⟩, by simp [intOf]; omega⟩
          · have hib : decide ((i : Int) < 6) = false := by simp; omega
            have hk := HT.out.read HJ.out.d HJ.out.ok (by omega) 1 0 (okS (by decide) (by decide)) (okS (by decide) (by decide))
            have hok := HJ.out.ok.read (i := 1) (n := 0)
            rw [pgs_fail (S := ⟨S.Z, S.P, 1⟩) HZ.out rfl] at hk hok
            have HK := Lib.hid hk
            have HO := Lib.hid hok
            clear hk hok
            go_wp2_with fail
            refine HK.out.mono ?_
            rintro e w7 ⟨u, O7, rfl, h7, t7, o7, f7⟩
            obtain ⟨O8, h8, -, -⟩ := HJ.out.left ⟨O7, h7, t7, o7⟩ HO.out
            have hk := HT.out.read h8.d h8.ok (by omega) 1 6 (okS (by decide) (by decide)) (okS (by decide) (by decide))
            rw [pgs_bad (S := failI ⟨S.Z, S.P, 1⟩) HZ.out] at hk
            have HK2 := Lib.hid hk
            have H8 := Lib.hid h8
            clear h7 t7 o7 f7 h8 hk HK HJ
            go_wp2_with fail
            refine HK2.out.mono ?_
            rintro e w9 ⟨u9, O9, rfl, h9, t9, o9, f9⟩
            obtain ⟨O10, h10, -, -⟩ := H8.out.left ⟨O9, h9, t9, o9⟩ HO.out
            have hk := HT.out.peek h10.d h10.ok (by omega) 1 6 (okS (by decide) (by decide)) (okS (by decide) (by decide))
            rw [pgs_peek6 (S := failI ⟨S.Z, S.P, 1⟩) HZ.out] at hk
            have HK3 := Lib.hid hk
            have H10 := Lib.hid h10
            clear h9 t9 o9 f9 h10 hk HK2 H8
            go_wp2_with fail
            refine HK3.out.mono ?_
            rintro e w11 ⟨u11, rfl, f11, g11⟩
            obtain ⟨a11, c11, rfl, -⟩ := f11
            have H11 := Lib.hid (H10.out.grow HT.out g11)
            have hk := HT.out.peek H11.out.d H11.out.ok (by omega) 2 0 (okS (by decide) (by decide)) (okS (by decide) (by decide))
            rw [pgs_peek2 (S := failI ⟨S.Z, S.P, 1⟩) HZ.out] at hk
            have HK4 := Lib.hid hk
            clear g11 hk HK3 H10
            go_wp2_with fail
            refine HK4.out.mono ?_
            rintro e w12 ⟨u12, rfl, f12, g12⟩
            obtain ⟨a12, c12, rfl, -⟩ := f12
            have HG12 := Lib.hid (H11.out.grow HT.out g12).grown
            clear g12 HK4 H11
            go_wp2_with fail
            refine (HLv.out _).mono ?_
            rintro e w13 ⟨rfl, g13⟩
            have HG13 := Lib.hid (grown_trans HG12.out g13)
            clear g13
            go_wp2_with fail
            go_ret
            exact ⟨rfl, HG13.out⟩
end Go.Proofs.Ytlaniifbfgcfaaa
