/- The document's layer 5: New, Find. -/
import Derived.Test.YtmddflhacamnaaaRows
import Derived.Test.YtmddflhacamnaaaTList
import Derived.WalkKit
import Derived.ProofKit
import Derived.OpenShut
import Derived.WalkLawsBesides
import Derived.WalkSpells
import Derived.BigQuiet
import Derived.WalkArith
import Derived.Deep.QuietTactic
import Derived.Deep.DeepMust
import Derived.Outline
import Derived.Below
namespace Go.Proofs.Ytmddflhacamnaaa
open Go.ChangeShapes Go.WideShapes Go.ChangeAt Go.RowKit
set_option linter.unusedVariables false

/-- The document's table: O, its blocks. -/
structure RT (w : World) (r : Nat) (sz : Int) (xs : List KeptV) (v : Value) : Prop where
  head : w.heap[r]? = some (.cells #[.int .i64 sz, v] 48 (0, 0))
  row : RowOf keptCells 4 w v xs
  ne : v.ownBlock ≠ some r
  sz0 : 0 ≤ sz
  sz1 : sz ≤ 1024
  len : (xs.length : Int) ≤ sz
def RTO (r : Nat) (v : Value) : List Nat := r :: v.ownBlock.toList

section
variable {w w' : World} {r : Nat} {sz : Int} {xs : List KeptV} {v : Value}
theorem RT.rlt (h : RT w r sz xs v) : r < w.heap.size := (Array.getElem?_eq_some_iff.1 h.head).1
theorem RT.lt (h : RT w r sz xs v) : ∀ b, b ∈ RTO r v → b < w.heap.size := by
  intro b hb
  unfold RTO at hb
  rcases List.mem_cons.1 hb with rfl | hb
  · exact h.rlt
  · rcases h.row.2 with ⟨rfl, _⟩ | ⟨g, o, c, rfl, hg, _⟩
    · simp [Value.ownBlock] at hb
    · have : b = g := by simpa [Value.ownBlock] using hb
      omega
theorem RT.kept (h : RT w r sz xs v) (hs : w.heap.size ≤ w'.heap.size) (hb : ∀ b, b ∈ RTO r v → w'.heap[b]? = w.heap[b]?) : RT w' r sz xs v :=
  ⟨(hb r (by simp [RTO])).trans h.head, h.row.kept hs fun a l c hv => hb a.block (by rw [hv]; simp [RTO, Value.ownBlock]), h.ne, h.sz0, h.sz1, h.len⟩
theorem RT.grow (h : RT w r sz xs v) (g : w.grownBy w' none) : RT w' r sz xs v := h.kept g.size fun b hb => g.block b (h.lt b hb) (by simp)
theorem RT.turn {O : List Nat} (h : RT w r sz xs v) (g : Turn O w w') (ho : ∀ b, b ∈ RTO r v → b ∉ O) : RT w' r sz xs v := h.kept g.size fun b hb => g.block b (h.lt b hb) (ho b hb)
theorem RT.at (h : RT w r sz xs v) : w.cell? ⟨r, 0, none⟩ = some (.int .i64 sz) ∧ w.cell? ⟨r, 1, none⟩ = some v := ⟨by rw [cell_of_row _ _ _ _ _ _ h.head]; rfl, by rw [cell_of_row _ _ _ _ _ _ h.head]; rfl⟩
theorem RT.lenN (h : RT w r sz xs v) : xs.length ≤ 1024 := by have h1 := h.len; have h2 := h.sz1; omega
end

theorem ref_new_ok (w : World) (sz : Int) (h0 : 0 ≤ sz) (h1 : sz ≤ 1024) :
    Calls Try.prog 9 #[.int .i64 sz] w fun e w' => e = .returned (.pointer (some ⟨w.heap.size, 0, none⟩)) ∧ RT w' w.heap.size sz [] (.slice none 0 0) ∧ w.grownBy w' none := by
  have d0 : decide (sz < 0) = false := by simpa using h0
  have d1 : decide (sz > 1024) = false := by simpa using h1
  go_enter Try.func9, Try.ntmps9
  go_wp2_with fail
  go_ret
  exact ⟨rfl, ⟨heap_alloc_new w _, RowAt.nil _ _, by simp [Value.ownBlock], h0, h1, h0⟩, World.grownBy_alloc _ _ _⟩
theorem ref_new_no (w : World) (sz : Int) (h : ¬ (0 ≤ sz ∧ sz ≤ 1024)) :
    Calls Try.prog 9 #[.int .i64 sz] w fun e w' => e = .returned (.pointer none) ∧ w = w' := by
  by_cases h0 : sz < 0
  · have d0 : decide (sz < 0) = true := by simpa using h0
    clear h
    go_enter Try.func9, Try.ntmps9
    go_wp2_with fail
    go_ret
    exact ⟨rfl, rfl⟩
  · have d0 : decide (sz < 0) = false := by simpa using h0
    have d1 : decide (sz > 1024) = true := by simp; omega
    clear h
    go_enter Try.func9, Try.ntmps9
    go_wp2_with fail
    go_ret
    exact ⟨rfl, rfl⟩

/-- A kept one, boxed. -/
def KeptB (w : World) (y : Nat) (x : KeptV) : Prop := w.heap[y]? = some (.cells #[.int .i64 x.a, .int .i64 x.v, .int .i64 x.fl, .int .i64 x.pp] 50 (0, 0))
theorem KeptB.at {w : World} {y : Nat} {x : KeptV} (h : KeptB w y x) : w.cell? ⟨y, 0, none⟩ = some (.int .i64 x.a) ∧ w.cell? ⟨y, 1, none⟩ = some (.int .i64 x.v) ∧ w.cell? ⟨y, 2, none⟩ = some (.int .i64 x.fl) ∧ w.cell? ⟨y, 3, none⟩ = some (.int .i64 x.pp) :=
  ⟨by rw [cell_of_row _ _ _ _ _ _ h]; rfl, by rw [cell_of_row _ _ _ _ _ _ h]; rfl, by rw [cell_of_row _ _ _ _ _ _ h]; rfl, by rw [cell_of_row _ _ _ _ _ _ h]; rfl⟩

/-- A kept one of the row, by its cells. -/
theorem kept_cells {w : World} {v : Value} {xs : List KeptV} (h : RowOf keptCells 4 w v xs) {j : Nat} {y : KeptV} (hy : xs[j]? = some y) :
    ∃ g o c, v = .slice (some ⟨g, o, none⟩) xs.length c ∧ w.cell? ⟨g, o + j * 4, none⟩ = some (.int .i64 y.a) ∧ w.cell? ⟨g, o + j * 4 + 1, none⟩ = some (.int .i64 y.v) ∧ w.cell? ⟨g, o + j * 4 + 2, none⟩ = some (.int .i64 y.fl) ∧ w.cell? ⟨g, o + j * 4 + 3, none⟩ = some (.int .i64 y.pp) := by
  obtain ⟨g, o, c, hv, hc⟩ := h.at kept_len hy
  exact ⟨g, o, c, hv, hc 0 _ rfl, by have := hc 1 _ rfl; rwa [← Nat.add_assoc] at this, by have := hc 2 _ rfl; rwa [← Nat.add_assoc] at this, by have := hc 3 _ rfl; rwa [← Nat.add_assoc] at this⟩

set_option maxHeartbeats 2000000 in
theorem ref_find_ok {w : World} {r : Nat} {sz : Int} {xs : List KeptV} {v : Value} (h : RT w r sz xs v) (a q : Int) :
    Calls Try.prog 20 #[.pointer (some ⟨r, 0, none⟩), .agg #[.int .i64 a, .int .i64 q]] w fun e w' => e = .returned (findV xs a q) ∧ w.grownBy w' none := by
  have hg : w.grownBy ((w.alloc (.cells #[.int .i64 a, .int .i64 q] 34)).alloc (.cells #[.int .i64 0, .int .i64 0] 31)) none := grown_trans (World.grownBy_alloc _ _ _) (World.grownBy_alloc _ _ _)
  have HK := Lib.hid ((TwoB.new w 34 (.int .i64 a) (.int .i64 q)).grow (World.grownBy_alloc _ (.cells #[.int .i64 0, .int .i64 0] 31) none))
  have HE := Lib.hid (show TwoB ((w.alloc (.cells #[.int .i64 a, .int .i64 q] 34)).alloc (.cells #[.int .i64 0, .int .i64 0] 31)) (w.heap.size + 1) 31 (.int .i64 0) (.int .i64 0) by
    have := TwoB.new (w.alloc (.cells #[.int .i64 a, .int .i64 q] 34)) 31 (.int .i64 0) (.int .i64 0)
    rwa [World.size_alloc] at this)
  have HR := Lib.hid (h.grow hg)
  have HG := Lib.hid hg
  have hlen := h.lenN
  obtain ⟨s, c, hv⟩ := h.row.form
  subst hv
  generalize hwa : (w.alloc (.cells #[.int .i64 a, .int .i64 q] 34)).alloc (.cells #[.int .i64 0, .int .i64 0] 31) = wa at *
  obtain ⟨r0, r1⟩ := HR.out.at
  obtain ⟨F, hF⟩ : ∃ F, xs.find? (sameK a q) = F := ⟨_, rfl⟩
  have HF := Lib.hid hF
  clear h hg hF
  go_enter Try.func20, Try.ntmps20
  go_wp2_with fail
  clear r0 r1
  go_loopw [13] (fun i wr => ∃ j : Nat, j ≤ xs.length ∧ i = .int .i64 j ∧ Hid (wa.grownBy wr none) ∧ Hid ((xs.drop j).find? (sameK a q) = F)) (fun i _ => xs.length - (intOf i).toNat)
  case atStart => exact ⟨0, by omega, rfl, grown_refl _ _, HF.out⟩
  case round =>
    obtain ⟨j, hj, rfl, HGr, HFj⟩ := hrel
    have HRr := Lib.hid (HR.out.grow HGr.out)
    by_cases hlt : j < xs.length
    · obtain ⟨y, hy⟩ : ∃ y, xs[j]? = some y := ⟨_, List.getElem?_eq_getElem hlt⟩
      obtain ⟨g, o, c', hsl, k0, k1, k2, k3⟩ := kept_cells HRr.out.row hy
      injection hsl with e1 e2 e3
      subst e1 e3
      have hfj := HFj.out
      rw [drop_at hy] at hfj
      have HYB := Lib.hid (show KeptB (wr.alloc (.cells #[.int .i64 y.a, .int .i64 y.v, .int .i64 y.fl, .int .i64 y.pp] 50)) wr.heap.size y from heap_alloc_new wr _)
      have HG2 := Lib.hid (grown_trans HGr.out (World.grownBy_alloc wr (.cells #[.int .i64 y.a, .int .i64 y.v, .int .i64 y.fl, .int .i64 y.pp] 50) none))
      obtain ⟨z0, z1⟩ := (HK.out.grow HG2.out).at
      obtain ⟨e0, e1⟩ := (HE.out.grow HG2.out).at
      obtain ⟨f0, f1⟩ := (HE.out.grow HG2.out).frozen
      obtain ⟨ya, yv, yf, yp⟩ := y
      obtain ⟨b0, b1, b2, b3⟩ := HYB.out.at
      simp only at *
      by_cases ha : ya = a
      · subst ha
        by_cases hq : yv = q
        · subst hq
          have hs : sameK ya yv ⟨ya, yv, yf, yp⟩ = true := by simp [sameK]
          rw [List.find?_cons, hs] at hfj
          have hfv := HF.out.trans hfj.symm
          have HV := Lib.hid (findV_some hfv)
          have HEB := Lib.hid (HE.out.grow HG2.out)
          have HGG := Lib.hid (grown_trans HG.out HG2.out)
          clear hs hfj hfv
          go_wp2_with fail
          refine bodyPost_ret (results_pair_tmp rfl _ _ (w.heap.size + 1) _ #[.int .i64 yf, .int .i64 yp] (0, 0) _ rfl (heap_pair _ _ _ _ _ _ _ HEB.out rfl rfl) Try.underlying31 (by kernel_rfl) (by kernel_rfl)) rfl ?_
          rw [HV.out]
          exact ⟨rfl, grown_pair HGG.out (by omega) _ _⟩
        · have hs : sameK ya q ⟨ya, yv, yf, yp⟩ = false := by simp [sameK, hq]
          rw [List.find?_cons, hs] at hfj
          have HN := Lib.hid hfj
          have hb : (yv == q) = false := by simpa using hq
          clear hs hfj
          go_wp2_with fail
          go_roundw
          case rel => exact ⟨j + 1, by omega, by go_num, HG2, HN⟩
          case measure => simp [intOf]; omega
      · have hs : sameK a q ⟨ya, yv, yf, yp⟩ = false := by simp [sameK, ha]
        rw [List.find?_cons, hs] at hfj
        have HN := Lib.hid hfj
        have hb : (ya == a) = false := by simpa using ha
        clear hs hfj
        go_wp2_with fail
        go_roundw
        case rel => exact ⟨j + 1, by omega, by go_num, HG2, HN⟩
        case measure => simp [intOf]; omega
    · obtain rfl : j = xs.length := by omega
      have hfj := HFj.out
      rw [List.drop_length] at hfj
      have HV := Lib.hid (findV_none (HF.out.trans hfj.symm))
      clear hfj
      have HEB := Lib.hid (HE.out.grow HGr.out)
      have HGG := Lib.hid (grown_trans HG.out HGr.out)
      obtain ⟨e0, e1⟩ := HEB.out.at
      obtain ⟨f0, f1⟩ := HEB.out.frozen
      go_wp2_with fail
      refine bodyPost_ret (results_pair_tmp rfl _ _ (w.heap.size + 1) _ #[.int .i64 0, .int .i64 0] (0, 0) _ rfl (heap_pair _ _ _ _ _ _ _ HEB.out rfl rfl) Try.underlying31 (by kernel_rfl) (by kernel_rfl)) rfl ?_
      rw [HV.out]
      exact ⟨rfl, grown_pair HGG.out (by omega) _ _⟩
end Go.Proofs.Ytmddflhacamnaaa
