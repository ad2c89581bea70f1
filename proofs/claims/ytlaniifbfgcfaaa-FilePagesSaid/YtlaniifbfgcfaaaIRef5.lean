/- The document's files of layer 10: Resize, Write. -/
import Derived.Test.YtlaniifbfgcfaaaIRef4
namespace Go.Proofs.Ytlaniifbfgcfaaa
open Go.ChangeShapes Go.WideShapes Go.ChangeAt Go.RowKit Go.Deep
open Extern.Stop (cell)
set_option linter.unusedVariables false

theorem z_flat (xs : List Int) : xs.flatMap zCells = xs.map (Value.int .i64) := by
  induction xs with
  | nil => rfl
  | cons x xs ih => rw [List.flatMap_cons, ih]; rfl
theorem ZOwn.kept {w w' : World} {base : Nat} {v : Value} {xs : List Int} (h : ZOwn w base v xs) (hb : ∀ g, v.ownBlock = some g → w'.heap[g]? = w.heap[g]?) : ZOwn w' base v xs := by
  refine ⟨h.1, ?_⟩
  rcases h.2 with hn | ⟨g, cap, cur, rfl, hb2, hgg, rest⟩
  · exact .inl hn
  · exact .inr ⟨g, cap, cur, rfl, hb2, (hb g rfl).trans hgg, rest⟩
theorem ZOwn.set {w : World} {base g c : Nat} {xs : List Int} {m : Nat} {n : Int} (h : ZOwn w base (.slice (some ⟨g, 0, none⟩) xs.length c) xs) (hm : m < xs.length) :
    RowOf zCells 1 (w.setCell ⟨g, m, none⟩ (.int .i64 n)) (.slice (some ⟨g, 0, none⟩) xs.length c) (xs.set m n) := by
  have hl := flat_len zCells 1 z_len (xs.set m n)
  rw [List.length_set] at hl
  have key : (w.setCell ⟨g, m, none⟩ (.int .i64 n)).ownsRow base 3 1 (.slice (some ⟨g, 0, none⟩) xs.length c) xs.length ((xs.set m n).flatMap zCells) := by
    rcases h.2 with ⟨h0, _⟩ | ⟨g', cap, cur, hsl, hb, hg, h1, h2, h3, ht⟩
    · cases h0
    · cases hsl
      have g1 := heap_setCell_same w g m _ _ (.int .i64 n) hg
      refine ⟨hl, .inr ⟨g, c, _, rfl, hb, g1, h1, h2, by simp [h3], ?_⟩⟩
      rw [Array.toList_setIfInBounds, List.take_set, ht, z_flat, z_flat, List.map_set]
  have := RowAt.own key
  unfold RowOf
  rw [List.length_set]
  exact this
theorem ZOwn.at {w : World} {base g c : Nat} {xs : List Int} {m : Nat} (h : ZOwn w base (.slice (some ⟨g, 0, none⟩) xs.length c) xs) (hm : m < xs.length) : (∃ z, w.cell? ⟨g, m, none⟩ = some (.int .i64 z)) ∧ w.frozen? ⟨g, m, none⟩ = false := by
  rcases h.2 with ⟨h0, _⟩ | ⟨g', cap, cur, hsl, hb, hg, h1, h2, h3, ht⟩
  · cases h0
  · cases hsl
    refine ⟨⟨xs[m], ?_⟩, frozen_of_row _ _ _ _ _ hg⟩
    have hq : (xs.flatMap zCells)[m]? = some (.int .i64 xs[m]) := by rw [z_flat, List.getElem?_map, List.getElem?_eq_getElem hm]; rfl
    rw [← ht, List.getElem?_take_of_lt (by omega), Array.getElem?_toList] at hq
    rw [cell_of_row _ _ _ _ _ _ hg]
    exact hq

section
variable {w w' w8 : World} {q : Nat} {s s' : IS} {vz vl : Value} {L : List PE}
/-- The sizes are a row of their own, in which one is turned. -/
theorem RI.zset (h : RI w q s vz vl L) (g : w.grownBy w8 none) {g8 c8 m : Nat} {n : Int} (ho : ZOwn w8 w.heap.size (.slice (some ⟨g8, 0, none⟩) s.Z.length c8) s.Z) (hm : m < s.Z.length) :
    RI ((w8.setCell ⟨q, 0, none⟩ (.slice (some ⟨g8, 0, none⟩) s.Z.length c8)).setCell ⟨g8, m, none⟩ (.int .i64 n)) q ⟨s.Z.set m n, s.P, s.left⟩ (.slice (some ⟨g8, 0, none⟩) s.Z.length c8) vl L ∧
      Turn [q] w ((w8.setCell ⟨q, 0, none⟩ (.slice (some ⟨g8, 0, none⟩) s.Z.length c8)).setCell ⟨g8, m, none⟩ (.int .i64 n)) ∧ ∀ b, b ∈ blocksI q (.slice (some ⟨g8, 0, none⟩) s.Z.length c8) vl L → b ∈ blocksI q vz vl L ∨ w.heap.size ≤ b := by
  have hg8 := (ho.lt (g := g8) rfl).1
  have hq := h.qlt
  have hne : g8 ≠ q := by omega
  obtain ⟨r1, r2, r3⟩ := h.resize g (vz' := .slice (some ⟨g8, 0, none⟩) s.Z.length c8) (Z' := s.Z) (RowAt.own ho) (fun b hb => by
    have e : g8 = b := by simpa [Value.ownBlock] using hb
    omega)
  have ho9 : ZOwn (w8.setCell ⟨q, 0, none⟩ (.slice (some ⟨g8, 0, none⟩) s.Z.length c8)) w.heap.size (.slice (some ⟨g8, 0, none⟩) s.Z.length c8) s.Z := ho.kept fun b hb => by
    have e : g8 = b := by simpa [Value.ownBlock] using hb
    subst e
    exact heap_setCell_other w8 ⟨q, 0, none⟩ g8 _ (by first | exact hne | exact hne.symm)
  generalize w8.setCell ⟨q, 0, none⟩ (.slice (some ⟨g8, 0, none⟩) s.Z.length c8) = w9 at *
  have hk : ∀ b, b ≠ g8 → (w9.setCell ⟨g8, m, none⟩ (.int .i64 n)).heap[b]? = w9.heap[b]? := fun b hb => heap_setCell_other w9 ⟨g8, m, none⟩ b _ (by first | exact hb | exact hb.symm)
  have hs : w9.heap.size ≤ (w9.setCell ⟨g8, m, none⟩ (.int .i64 n)).heap.size := by simp
  refine ⟨⟨(hk q hne.symm).trans r1.head, ?_, r1.list.kept hs fun a l c e => hk _ fun e2 => ?_, fun x hx => ⟨(r1.pages x hx).1.kept (hk _ fun e => ?_), (r1.pages x hx).2⟩, h.says, r1.nz, r1.nl, r1.ng⟩, r2.trans (O' := [g8]) (Turn.setCell [g8] w9 g8 m _ (by simp)) fun b hb => ?_, r3⟩
  · exact ho9.set hm
  · have := rowOf_lt h.list (b := a.block) (by rw [e]; rfl)
    omega
  · have := (h.pages x hx).1.lt
    omega
  · right
    have : b = g8 := by simpa using hb
    omega

set_option maxHeartbeats 2000000 in
theorem ri_resize (h : RI w q s vz vl L) (hk : s.Ok) (hl : L.length ≤ 900000) (i n : Int) (hi : okI i) :
    Calls Try.prog 15 #[.pointer (some ⟨q, 0, none⟩), .int .i64 i, .int .i64 n] w fun e w' => e = .returned (.int .i64 (resizeI s i n).1) ∧ LeftI w w' q (resizeI s i n).2 (blocksI q vz vl L) L.length := by
  have HSz := Lib.hid (ri_size h hk i hi)
  have hlen := hk.len
  have HH := Lib.hid h
  have HS := Lib.hid h.same
  obtain ⟨B, hB⟩ : ∃ B, blocksI q vz vl L = B := ⟨_, rfl⟩
  have HBl := Lib.hid hB
  rw [hB] at HS ⊢
  clear hB
  by_cases hs : s.has i
  · rw [show sizeI s i = (s.size i, true) from if_pos hs] at HSz
    obtain ⟨sz, hsz⟩ : ∃ sz, s.size i = sz := ⟨_, rfl⟩
    rw [hsz] at HSz
    clear hsz
    by_cases hn : 0 ≤ n ∧ n ≤ 4096
    · rw [show resizeI s i n = (0, ⟨s.Z.set (i - 1).toNat n, cutI s.P i n, s.left⟩) by unfold resizeI; rw [if_pos hs, if_pos hn]]
      have d0 : decide (n < 0) = false := decide_eq_false (by omega)
      have d1 : decide (n > 4096) = false := decide_eq_false (by omega)
      have HW := Lib.hid (ri_withoutT h hl i n)
      have hlt := IS.has_lt hs
      obtain ⟨m, hm⟩ : ∃ m : Nat, i - 1 = m := ⟨(i - 1).toNat, by have := hs.1; omega⟩
      have hm0 : (i - 1).toNat = m := by omega
      rw [hm0] at hlt ⊢
      have hmi : i = m + 1 := by omega
      subst hmi
      have hm1 : (m : Int) + 1 - 1 = m := by omega
      have d3 : decide (s.Z.length ≤ m) = false := decide_eq_false (by omega)
      clear h hk hs hn hm hm0 hi
      go_enter Try.func15, Try.ntmps15
      go_wp2_with fail
      refine HSz.out.mono ?_
      rintro e w2 ⟨rfl, e2⟩
      subst w2
      go_wp2_with fail
      refine HW.out.mono ?_
      rintro e w2 ⟨v2, rfl, o2, g2⟩
      obtain ⟨va, vc, hv2⟩ := o2.form
      obtain ⟨L1, hL1⟩ : ∃ L1, lessP (outP (m + 1) n true) L = L1 := ⟨_, rfl⟩
      obtain ⟨y, hy⟩ : ∃ y : Nat, L1.length = y := ⟨_, rfl⟩
      rw [hL1, hy] at hv2
      rw [hL1] at o2
      have HL1 := Lib.hid hL1
      have h2 := HH.out.grow g2
      have k1 := h2.at.2.1
      have f1 := h2.frozen 1
      obtain ⟨r1, r2, r3⟩ := HH.out.repage g2 (vl' := v2) (L' := L1) (P' := cutI s.P (m + 1) n) (RowAt.own o2) (fun b hb => (o2.lt hb).1) (fun x hx => by
        rw [← HL1.out] at hx
        have hx2 := (List.mem_filter.1 hx).1
        exact ⟨(h2.pages x hx2).1, (h2.pages x hx2).2, .inl hx2⟩) (fun j k => by
        rw [← HL1.out, pageOf_cut]
        unfold cutI
        rw [HH.out.says])
      have HR3 := Lib.hid r1
      have HT3 := Lib.hid r2
      have HB3 := Lib.hid r3
      have HA := Lib.hid (r1.grow (World.grownBy_alloc _ (.cells #[] 3) none))
      obtain ⟨c0, -, -⟩ := r1.at
      have ca : ((w2.setCell ⟨q, 1, none⟩ v2).alloc (.cells #[] 3)).cell? ⟨q, 0, none⟩ = some vz := Lib.cell?_alloc_some _ c0
      have hqlt := HH.out.qlt
      have hsz2 : (w2.setCell ⟨q, 1, none⟩ v2).heap.size = w2.heap.size := by simp
      have HG2 := Lib.hid g2
      obtain ⟨a, c, -, -, e1, -⟩ := HH.out.form
      subst e1
      subst hv2
      clear o2 g2 h2 r1 r2 r3 hL1 hy
      go_wp2_with (at_builtin; refine wpList_zcopy (w2.setCell ⟨q, 1, none⟩ (.slice va y vc)) rfl _ _ rfl _ s.Z w2.heap.size hsz2 rfl rfl HA.out.sizes (by omega) ?_; intro g8 c8 w8 hown8 hg8; have h8 := HR3.out.grow hg8; have k8 := h8.at.1; have f8 := h8.frozen 0; obtain ⟨⟨z8, y8⟩, x8⟩ := hown8.at hlt; have hge := (hown8.lt (g := g8) rfl).1; have hne8 : ¬ g8 = q := (by have := HG2.out.size; omega); have hne9 : ¬ q = g8 := (by have := HG2.out.size; omega); have HO8 := Lib.hid hown8; have HG8 := Lib.hid hg8; clear hown8 hg8 h8)
      go_ret
      obtain ⟨t1, t2, t3⟩ := HR3.out.zset (s := ⟨s.Z, cutI s.P (m + 1) n, s.left⟩) (n := n) HG8.out (by rw [hsz2]; exact HO8.out) hlt
      refine ⟨rfl, _, _, _, t1, by rw [← HL1.out]; exact lessP_len _ _, HT3.out.trans' t2, fun b hb => ?_⟩
      rw [← HBl.out]
      rcases t3 b hb with h1 | h1
      · exact HB3.out b h1
      · right
        have := HT3.out.size
        omega
    · rw [show resizeI s i n = (2, s) by unfold resizeI; rw [if_pos hs, if_neg hn]]
      rcases (show n < 0 ∨ (¬ n < 0 ∧ n > 4096) by omega) with d0 | ⟨d0, d1⟩
      all_goals
        clear h hk hn hs hi
        go_enter Try.func15, Try.ntmps15
        go_wp2_with fail
        refine HSz.out.mono ?_
        rintro e w2 ⟨rfl, e2⟩
        subst w2
        go_wp2_with fail
        go_ret
        exact ⟨rfl, HS.out⟩
  · rw [show resizeI s i n = (7, s) from if_neg hs]
    rw [show sizeI s i = (0, false) from if_neg hs] at HSz
    clear h hk hs hi
    go_enter Try.func15, Try.ntmps15
    go_wp2_with fail
    refine HSz.out.mono ?_
    rintro e w2 ⟨rfl, e2⟩
    subst w2
    go_wp2_with fail
    go_ret
    exact ⟨rfl, HS.out⟩
end
end Go.Proofs.Ytlaniifbfgcfaaa
