/- The document's anons of layer 12: New, Ids, Get, Sum. -/
import Derived.Test.YtpiemnffbcgbmaaNMem
namespace Go.Proofs.Ytpiemnffbcgbmaa
open Go.ChangeShapes Go.WideShapes Go.ChangeAt Go.RowKit Go.Deep
set_option linter.unusedVariables false

/-- The document's pool: block q, the list's value. -/
structure RN (w : World) (q most : Nat) (v : Value) (L : List AnV) : Prop where
  head : w.heap[q]? = some (.cells #[.int .i64 most, v] 69 (0, 0))
  row : RowOf anCells 3 w v L
  ne : v.ownBlock ≠ some q
  good : GoodN most L
def blkN (p : Nat) (v : Value) : List Nat := p :: v.ownBlock.toList
section
variable {w w' w2 : World} {q most : Nat} {v : Value} {L : List AnV}
theorem RN.qlt (h : RN w q most v L) : q < w.heap.size := (Array.getElem?_eq_some_iff.1 h.head).1
theorem rowAt_lt {size k : Nat} {cs : List Value} {b : Nat} (h : RowAt w size v k cs) (hb : v.ownBlock = some b) : b < w.heap.size := by
  rcases h.2 with ⟨rfl, _⟩ | ⟨g, o, c, rfl, hg, _⟩
  · cases hb
  · have e : g = b := by simpa [Value.ownBlock] using hb
    rw [← e]; exact hg
theorem RN.lt (h : RN w q most v L) : ∀ b, b ∈ blkN q v → b < w.heap.size := fun b hb => by
  unfold blkN at hb
  rcases List.mem_cons.1 hb with rfl | hb
  · exact h.qlt
  · exact rowAt_lt h.row (by simpa using hb)
theorem RN.kept (h : RN w q most v L) (hs : w.heap.size ≤ w'.heap.size) (hb : ∀ b, b ∈ blkN q v → w'.heap[b]? = w.heap[b]?) : RN w' q most v L :=
  ⟨(hb q (by simp [blkN])).trans h.head, RowAt.kept h.row hs fun a l c e => hb a.block (by simp [blkN, e, Value.ownBlock]), h.ne, h.good⟩
theorem RN.grow (h : RN w q most v L) (g : w.grownBy w' none) : RN w' q most v L := h.kept g.size fun b hb => g.block b (h.lt b hb) (by simp)
theorem RN.at (h : RN w q most v L) : w.cell? ⟨q, 0, none⟩ = some (.int .i64 most) ∧ w.cell? ⟨q, 1, none⟩ = some v := ⟨by rw [cell_of_row _ _ _ _ _ _ h.head]; rfl, by rw [cell_of_row _ _ _ _ _ _ h.head]; rfl⟩
theorem RN.frozen (h : RN w q most v L) (o : Nat) : w.frozen? ⟨q, o, none⟩ = false := frozen_of_row _ _ _ _ _ h.head
theorem RN.form (h : RN w q most v L) : ∃ s c, v = .slice s L.length c := RowAt.form h.row
end

theorem anbox_at (w : World) (a b c : Int) (t : TypeId) : (w.alloc (.cells #[.int .i64 a, .int .i64 b, .int .i64 c] t (0, 0))).cell? ⟨w.heap.size, 0, none⟩ = some (.int .i64 a) := by rw [cell_of_row _ _ _ _ _ _ (heap_alloc_new w _)]; rfl
theorem rn_new (n : Nat) (w : World) (hn : n ≤ 4096) : Calls Try.prog 10 #[.int .i64 n] w fun e w' => e = .returned (.pointer (some ⟨w.heap.size, 0, none⟩)) ∧ RN w' w.heap.size n (.slice none 0 0) [] ∧ w.grownBy w' none := by
  have d0 : decide ((n : Int) < 0) = false := decide_eq_false (by omega)
  have d1 : decide ((n : Int) > 4096) = false := decide_eq_false (by omega)
  go_enter Try.func10, Try.ntmps10
  go_wp2_with fail
  go_ret
  exact ⟨rfl, ⟨heap_alloc_new w _, RowAt.nil _ _, (fun e => by cases e), GoodN.new hn⟩, World.grownBy_alloc w _ none⟩
theorem rn_new_no (n : Int) (w : World) (h : ¬ (0 ≤ n ∧ n ≤ 4096)) : Calls Try.prog 10 #[.int .i64 n] w fun e w' => e = .returned (.pointer none) ∧ w.grownBy w' none := by
  rcases (show n < 0 ∨ (¬ n < 0 ∧ n > 4096) by omega) with d0 | ⟨d0, d1⟩
  all_goals
    clear h
    go_enter Try.func10, Try.ntmps10
    go_wp2_with fail
    go_ret
    exact ⟨rfl, grown_refl _ _⟩

section
variable {w w' : World} {q most : Nat} {v : Value} {L : List AnV}
set_option maxHeartbeats 1000000 in
theorem rn_sum (h : RN w q most v L) : Calls Try.prog 24 #[.pointer (some ⟨q, 0, none⟩)] w fun e w' => e = .returned (.int .i64 (sumN L)) ∧ w.grownBy w' none := by
  obtain ⟨s, c, rfl⟩ := h.form
  obtain ⟨c0, c1⟩ := h.at
  have hlen := Nat.le_trans h.good.len h.good.most
  have HR := Lib.hid h
  have HE := Lib.hid h.good.each
  clear h c0
  go_enter Try.func24, Try.ntmps24
  go_wp2_with fail
  go_loopw [3, 11] (fun nv iv wr => ∃ j : Nat, j ≤ L.length ∧ iv = .int .i64 j ∧ (∃ z : Int, nv = .int .i64 z ∧ Hid (z = sumTo L j)) ∧ Hid (w.grownBy wr none)) (fun _ iv _ => L.length - (intOf iv).toNat)
  case atStart => exact ⟨0, by omega, rfl, ⟨0, rfl, rfl⟩, grown_refl _ _⟩
  case round =>
    obtain ⟨j, hj, rfl, ⟨z, rfl, HZ⟩, HG⟩ := hrel
    by_cases hlt : j < L.length
    · obtain ⟨x, hx⟩ : ∃ x, L[j]? = some x := ⟨_, List.getElem?_eq_getElem hlt⟩
      obtain ⟨g, o, c2, hv, k0, k1, k2⟩ := an_cells (HR.out.grow HG.out).row hx
      injection hv with e1 e2 e3
      subst e1 e3
      have hb := sumTo_bounds HE.out j
      have hb2 := sumTo_bounds HE.out (j + 1)
      have HN := Lib.hid (show z + x.re = sumTo L (j + 1) by rw [sumTo_succ hx, HZ.out])
      rw [← HZ.out] at hb
      rw [← HN.out] at hb2
      have HG2 := Lib.hid (grown_trans HG.out (World.grownBy_alloc wr (.cells #[.int .i64 x.re, .int .i64 x.fr, .int .i64 x.sl] 39 (0, 0)) none))
      clear hx c1
      go_wp2_with fail
      go_roundw
      case rel => exact ⟨j + 1, by omega, by go_num, ⟨z + x.re, by go_num, HN⟩, HG2⟩
      case measure => simp [intOf]; omega
    · obtain rfl : j = L.length := by omega
      have HT := Lib.hid (show z = sumN L by rw [HZ.out, sumTo_all])
      go_wp2_with fail
      go_ret
      exact ⟨by rw [← HT.out]; rfl, HG.out⟩

set_option maxHeartbeats 1000000 in
theorem rn_ids (h : RN w q most v L) : Calls Try.prog 22 #[.pointer (some ⟨q, 0, none⟩)] w fun e w' => ∃ u, e = .returned u ∧ RowOf zCells 1 w' u (idsN L) ∧ (∀ b, u.ownBlock = some b → w.heap.size ≤ b) ∧ w.grownBy w' none := by
  obtain ⟨s, c, rfl⟩ := h.form
  obtain ⟨c0, c1⟩ := h.at
  have hlen := Nat.le_trans h.good.len h.good.most
  have HR := Lib.hid h
  have HE := Lib.hid h.good.each
  clear h c0
  go_enter Try.func22, Try.ntmps22
  go_wp2_with fail
  go_loopw [3, 11] (fun uv iv wr => ∃ j : Nat, j ≤ L.length ∧ iv = .int .i64 j ∧ Hid (ZMk w wr uv (idsTo L j))) (fun _ iv _ => L.length - (intOf iv).toNat)
  case atStart => exact ⟨0, by omega, rfl, MkOf.nil w⟩
  case round =>
    obtain ⟨j, hj, rfl, HM⟩ := hrel
    by_cases hlt : j < L.length
    · obtain ⟨x, hx⟩ : ∃ x, L[j]? = some x := ⟨_, List.getElem?_eq_getElem hlt⟩
      obtain ⟨g, o, c2, hv, k0, k1, k2⟩ := an_cells (HR.out.grow HM.out.grown).row hx
      injection hv with e1 e2 e3
      subst e1 e3
      have hx0 := (HE.out x (List.mem_of_getElem? hx)).r0
      have HM2 := Lib.hid (MkOf.grow HM.out (World.grownBy_alloc wr (.cells #[.int .i64 x.re, .int .i64 x.fr, .int .i64 x.sl] 39 (0, 0)) none))
      have hil : (idsTo L j).length ≤ j := by have := ids_free L j; omega
      have hsucc := idsTo_succ L j
      rw [live_some hx] at hsucc
      by_cases h0 : x.re = 0
      · have d0 : decide (x.re > 0) = false := decide_eq_false (by omega)
        rw [if_neg (by simp [h0]), List.append_nil] at hsucc
        rw [← hsucc] at HM2
        clear hx c1 h0 hsucc HM
        go_wp2_with fail
        go_roundw
        case rel => exact ⟨j + 1, by omega, by go_num, HM2⟩
        case measure => simp [intOf]; omega
      · have d0 : decide (x.re > 0) = true := decide_eq_true (by omega)
        rw [if_pos (by simpa using h0)] at hsucc
        have HS := Lib.hid hsucc
        obtain ⟨Z, hZ⟩ : ∃ Z, idsTo L j = Z := ⟨_, rfl⟩
        rw [hZ] at HM2 HS hil
        clear hx c1 h0 hsucc HM hZ
        have b0 := anbox_at wr x.re x.fr x.sl 39
        generalize hwB : wr.alloc (.cells #[.int .i64 x.re, .int .i64 x.fr, .int .i64 x.sl] 39 (0, 0)) = wB at *
        obtain ⟨sa, sc, hu⟩ := OwnOf.form HM2.out.own
        subst hu
        go_wp2_with (at_builtin; refine wpList_zpush wB rfl _ _ rfl w.heap.size (.slice sa Z.length sc) Z ((j : Int) + 1) rfl HM2.out.own wB.heap.size 1 rfl rfl (by omega) HM2.out.grown.size ?_; intro g9 c9 w9 hown9 hgrow9; have HN := Lib.hid (MkOf.app HM2.out hgrow9 hown9); clear hown9 hgrow9)
        go_roundw
        case rel => exact ⟨j + 1, by omega, by go_num, by rw [HS.out]; exact HN⟩
        case measure => simp [intOf]; omega
    · obtain rfl : j = L.length := by omega
      go_wp2_with fail
      go_ret
      exact ⟨_, rfl, HM.out.row, fun b hb => (OwnOf.lt HM.out.own hb).1, HM.out.grown⟩

set_option maxHeartbeats 1000000 in
theorem rn_get (h : RN w q most v L) (id : Int) (hid : okI id) : Calls Try.prog 19 #[.pointer (some ⟨q, 0, none⟩), .int .i64 id] w fun e w' => e = .returned (getVN (getN L id)) ∧ w.grownBy w' none := by
  have ga := World.grownBy_alloc w (.cells #[.int .i64 0, .int .i64 0, .int .i64 0] 39 (0, 0)) none
  have hA := h.grow ga
  have hB := AB.new w 39 zeroN
  unfold zeroN at hB
  simp only at hB
  generalize hwA : w.alloc (.cells #[.int .i64 0, .int .i64 0, .int .i64 0] 39 (0, 0)) = wA at *
  obtain ⟨s, c, rfl⟩ := hA.form
  obtain ⟨c0, c1⟩ := hA.at
  obtain ⟨b0, b1, b2⟩ := hB.at
  have z0 := hB.frozen 0
  have z1 := hB.frozen 1
  have z2 := hB.frozen 2
  have HB := Lib.hid hB
  have HG := Lib.hid ga
  have hlen := Nat.le_trans h.good.len h.good.most
  rcases get_cases L id with ⟨h0, hno⟩ | ⟨i, x, rfl, h1, h2, h3, h4, h5, h6⟩
  · rw [h0]
    unfold getVN anAgg zeroN
    simp only
    by_cases hr : 1 ≤ id ∧ id ≤ L.length
    · obtain ⟨i, rfl⟩ : ∃ i : Nat, id = (i : Int) + 1 := ⟨(id - 1).toNat, by omega⟩
      obtain ⟨x, hx⟩ : ∃ x, L[i]? = some x := ⟨_, List.getElem?_eq_getElem (by omega)⟩
      obtain ⟨g, o, c2, hv, k0, k1, k2⟩ := an_cells hA.row hx
      injection hv with e1 e2 e3
      subst e1 e3
      have hx0 : x.re = 0 := by
        cases hl : liveB L i with
        | true => exact absurd (mem_idsTo.2 ⟨i, by omega, hl, rfl⟩) hno
        | false => rw [live_some hx] at hl; simpa using hl
      rw [hx0] at k0
      have d0 : decide ((i : Int) + 1 < 1) = false := decide_eq_false (by omega)
      have d1 : decide ((i : Int) + 1 > (L.length : Int)) = false := decide_eq_false (by omega)
      have il : i < L.length := by omega
      clear ga hA hB h hx hx0 hno h0 hr hid k1 k2
      go_enter Try.func19, Try.ntmps19
      go_wp2_with fail
      refine bodyPost_ret (results_pair_tmp rfl _ _ w.heap.size _ #[.int .i64 0, .int .i64 0, .int .i64 0] (0, 0) _ rfl (heap_three _ _ _ _ _ _ HB.out) Try.underlying39 (by kernel_rfl) (by kernel_rfl)) rfl ?_
      exact ⟨rfl, grown_at HG.out (grown_three _ _ _ _ _ _) (Nat.le_refl _)⟩
    · have dd : id < 1 ∨ (¬ id < 1 ∧ id > (L.length : Int)) := by omega
      clear ga hA hB h hno h0 hr
      rcases dd with d0 | ⟨d0, d1⟩
      all_goals
        go_enter Try.func19, Try.ntmps19
        go_wp2_with fail
        refine bodyPost_ret (results_pair_tmp rfl _ _ w.heap.size _ #[.int .i64 0, .int .i64 0, .int .i64 0] (0, 0) _ rfl (heap_three _ _ _ _ _ _ HB.out) Try.underlying39 (by kernel_rfl) (by kernel_rfl)) rfl ?_
        exact ⟨rfl, grown_at HG.out (grown_three _ _ _ _ _ _) (Nat.le_refl _)⟩
  · rw [h4]
    obtain ⟨g, o, c2, hv, k0, k1, k2⟩ := an_cells hA.row h2
    injection hv with e1 e2 e3
    subst e1 e3
    obtain ⟨xr, xf, xs⟩ := x
    simp only at *
    unfold getVN anAgg
    simp only
    have d0 : decide ((i : Int) + 1 < 1) = false := decide_eq_false (by omega)
    have d1 : decide ((i : Int) + 1 > (L.length : Int)) = false := decide_eq_false (by omega)
    have d2 : (xr == 0) = false := by simpa using h3
    clear ga hA hB h h2 h3 h4 h5 h6 hid
    go_enter Try.func19, Try.ntmps19
    go_wp2_with fail
    refine bodyPost_ret (results_pair_tmp rfl _ _ w.heap.size _ #[.int .i64 xr, .int .i64 xf, .int .i64 xs] (0, 0) _ rfl (heap_three _ _ _ _ _ _ HB.out) Try.underlying39 (by kernel_rfl) (by kernel_rfl)) rfl ?_
    exact ⟨rfl, grown_at HG.out (grown_three _ _ _ _ _ _) (Nat.le_refl _)⟩
end
end Go.Proofs.Ytpiemnffbcgbmaa
