/- Package tlb's table: its cells, its map, its row of keys; New, Len, Find. -/
import Derived.Test.YtmddflhacamnaaaTMap
import Derived.Deep.RegionHeld3
import Derived.Lib.SliceRun
namespace Go.Proofs.Ytmddflhacamnaaa
open Go.ChangeShapes Go.WideShapes Go.ChangeAt Go.RowKit Go.Deep
set_option linter.unusedVariables false

/-- Block p is a table of sz places that keeps xs, from the eldest on: its map is M, its row of keys v. -/
structure TabT (w : World) (p : Nat) (sz : Int) (xs : List KeptV) (M : Nat) (v : Value) : Prop where
  block : w.heap[p]? = some (.cells #[.int .i64 sz, .map (some M), v] 57 (0, 0))
  row : w.ownsRow 0 29 2 v xs.length (xs.flatMap keyCells)
  map : MapT w M xs
  keys : Keys xs
  len : (xs.length : Int) ≤ sz
  sz0 : 0 ≤ sz
  sz1 : sz ≤ 1024
def TT (w : World) (p : Nat) (sz : Int) (xs : List KeptV) (O : List Nat) : Prop := ∃ M v, TabT w p sz xs M v ∧ O = p :: M :: v.ownBlock.toList

section
variable {w w' : World} {p M : Nat} {sz : Int} {xs : List KeptV} {v : Value} {O : List Nat}
theorem TabT.at (h : TabT w p sz xs M v) : w.cell? ⟨p, 0, none⟩ = some (.int .i64 sz) ∧ w.cell? ⟨p, 1, none⟩ = some (.map (some M)) ∧ w.cell? ⟨p, 2, none⟩ = some v :=
  ⟨by rw [cell_of_row _ _ _ _ _ _ h.block]; rfl, by rw [cell_of_row _ _ _ _ _ _ h.block]; rfl, by rw [cell_of_row _ _ _ _ _ _ h.block]; rfl⟩
theorem TabT.frozen (h : TabT w p sz xs M v) : w.frozen? ⟨p, 2, none⟩ = false := frozen_of_row w p 2 _ _ h.block
theorem TabT.plt (h : TabT w p sz xs M v) : p < w.heap.size := (Array.getElem?_eq_some_iff.1 h.block).1
theorem TabT.form (h : TabT w p sz xs M v) : ∃ s c, v = .slice s xs.length c := by
  rcases h.row.2 with ⟨rfl, h0⟩ | ⟨g, cap, cur, rfl, _⟩
  · exact ⟨none, 0, by rw [h0]⟩
  · exact ⟨_, _, rfl⟩
theorem TabT.glt (h : TabT w p sz xs M v) {g : Nat} (hg : v.ownBlock = some g) : g < w.heap.size := (h.row.lt g hg).2
theorem TabT.kept (h : TabT w p sz xs M v) (hb : ∀ b, b ∈ p :: M :: v.ownBlock.toList → w'.heap[b]? = w.heap[b]?) : TabT w' p sz xs M v := by
  refine ⟨(hb p (by simp)).trans h.block, ⟨h.row.1, ?_⟩, h.map.kept (hb M (by simp)), h.keys, h.len, h.sz0, h.sz1⟩
  rcases h.row.2 with h0 | ⟨g, cap, cur, rfl, h1, h2, h3⟩
  · exact .inl h0
  · exact .inr ⟨g, cap, cur, rfl, h1, (hb g (by simp [Value.ownBlock])).trans h2, h3⟩
theorem TabT.mem_lt (h : TabT w p sz xs M v) : ∀ b, b ∈ p :: M :: v.ownBlock.toList → b < w.heap.size := by
  intro b hb
  simp only [List.mem_cons, Option.mem_toList] at hb
  rcases hb with rfl | rfl | hb
  · exact h.plt
  · exact h.map.lt
  · exact h.glt hb
theorem TabT.grow (h : TabT w p sz xs M v) (g : w.grownBy w' none) : TabT w' p sz xs M v := h.kept fun b hb => g.block b (h.mem_lt b hb) (by simp)
theorem TT.lt (h : TT w p sz xs O) : ∀ b, b ∈ O → b < w.heap.size := by
  obtain ⟨M, v, h, rfl⟩ := h
  exact h.mem_lt
theorem TT.kept (h : TT w p sz xs O) (hs : w.heap.size ≤ w'.heap.size) (hb : ∀ b, b ∈ O → w'.heap[b]? = w.heap[b]?) : TT w' p sz xs O := by
  obtain ⟨M, v, h, rfl⟩ := h
  exact ⟨M, v, h.kept hb, rfl⟩
/-- The table, its map and its row are three blocks. -/
theorem TabT.apart (h : TabT w p sz xs M v) : M ≠ p ∧ v.ownBlock ≠ some p ∧ v.ownBlock ≠ some M := by
  refine ⟨h.map.ne_cells h.block, fun e => ?_, fun e => ?_⟩
  · rcases h.row.2 with ⟨rfl, _⟩ | ⟨g, cap, cur, rfl, _, h2, _⟩
    · cases e
    · have e2 := Option.some.inj e
      have h1 := h.block
      rw [← e2] at h1
      have h3 := h1.symm.trans h2
      simp at h3
  · rcases h.row.2 with ⟨rfl, _⟩ | ⟨g, cap, cur, rfl, _, h2, _⟩
    · cases e
    · exact (h.map.ne_cells h2) (Option.some.inj e).symm
end

theorem tt_new (w : World) (sz : Int) (h0 : 0 ≤ sz) (h1 : sz ≤ 1024) : Calls Try.prog 8 #[.int .i64 sz] w fun e w' => ∃ p O, e = .returned (.pointer (some ⟨p, 0, none⟩)) ∧ TT w' p sz [] O ∧ w.grownBy w' none ∧ ∀ b, b ∈ O → w.heap.size ≤ b := by
  have hg := World.grownBy_alloc (w.alloc (.map #[] 0)) (.cells #[.int .i64 sz, .map (some w.heap.size), .slice none 0 0] 57) none
  have hall := grown_trans (World.grownBy_alloc w (.map #[] 0) none) hg
  have hm := (MapT.made w).kept (hg.block w.heap.size (by simp) (by simp))
  have hb := heap_alloc_new (w.alloc (.map #[] 0)) (.cells #[.int .i64 sz, .map (some w.heap.size), .slice none 0 0] 57)
  rw [World.size_alloc] at hb
  have HT := Lib.hid (show TT ((w.alloc (.map #[] 0)).alloc (.cells #[.int .i64 sz, .map (some w.heap.size), .slice none 0 0] 57)) (w.heap.size + 1) sz [] [w.heap.size + 1, w.heap.size] from
    ⟨w.heap.size, .slice none 0 0, ⟨hb, World.ownsRow_nil _ _ _ _, hm, ⟨List.Pairwise.nil, by simp⟩, by simpa using h0, h0, h1⟩, rfl⟩)
  have HG := Lib.hid hall
  have hmk : (Instr.makeMap 55 none).run Try.prog w = .ok (.map (some w.heap.size)) (w.alloc (.map #[] 0)) := run_makeMap _ _
  clear hg hall hm hb
  go_enter Try.func8, Try.ntmps8
  go_wp2_with fail
  go_ret
  refine ⟨w.heap.size + 1, _, rfl, HT.out, HG.out, ?_⟩
  intro b hb
  simp at hb
  omega

theorem tt_newNo (w : World) (sz : Int) (h : ¬ (0 ≤ sz ∧ sz ≤ 1024)) : Calls Try.prog 8 #[.int .i64 sz] w fun e w' => e = .returned (.pointer none) ∧ w.grownBy w' none := by
  rcases (show sz < 0 ∨ (¬ sz < 0 ∧ 1024 < sz) by omega) with h1 | ⟨h1, h2⟩
  · go_enter Try.func8, Try.ntmps8
    go_wp2_with fail
    go_ret
    exact ⟨rfl, grown_refl _ _⟩
  · go_enter Try.func8, Try.ntmps8
    go_wp2_with fail
    go_ret
    exact ⟨rfl, grown_refl _ _⟩

section
variable {w : World} {p M : Nat} {sz : Int} {xs : List KeptV} {v : Value} {O : List Nat}

theorem tab_len (h : TabT w p sz xs M v) : Calls Try.prog 22 #[.pointer (some ⟨p, 0, none⟩)] w fun e w' => e = .returned (.int .i64 (xs.length : Int)) ∧ w' = w := by
  obtain ⟨c0, c1, c2⟩ := h.at
  have hq := eql_ptr_nil w ⟨p, 0, none⟩
  obtain ⟨s, c, rfl⟩ := h.form
  clear h
  go_enter Try.func22, Try.ntmps22
  go_wp2_with fail
  go_ret
  exact ⟨rfl, rfl⟩

theorem tabV_form (xs : List KeptV) (a k : Int) : ∃ f q b, findV xs a k = .tuple #[.agg #[.int .i64 f, .int .i64 q], .bool b] ∧ b = (xs.find? (sameK a k)).isSome := by
  cases h : xs.find? (sameK a k) with
  | none => exact ⟨0, 0, false, findV_none h, rfl⟩
  | some x => exact ⟨x.fl, x.pp, true, findV_some h, rfl⟩

theorem grown_drew1 (w : World) : w.grownBy w.drew none := ⟨rfl, rfl, rfl, Nat.le_refl _, fun _ _ _ => rfl⟩

theorem tab_find (h : TabT w p sz xs M v) (a k : Int) (ha : okI a) (hk : okI k) : Calls Try.prog 19 #[.pointer (some ⟨p, 0, none⟩), .agg #[.int .i64 a, .int .i64 k]] w fun e w' => e = .returned (findV xs a k) ∧ w.grownBy w' none := by
  have hq := eql_ptr_nil
  obtain ⟨f, q, b, hf, hb⟩ := tabV_form xs a k
  rw [hf]
  have ga := World.grownBy_alloc w (.cells #[.int .i64 a, .int .i64 k] 29 (0, 0)) none
  have gb := grown_trans ga (World.grownBy_alloc (w.alloc (.cells #[.int .i64 a, .int .i64 k] 29 (0, 0))) (.cells #[.int .i64 0, .int .i64 0] 31 (0, 0)) none)
  have hbk := (TwoB.new w 29 (.int .i64 a) (.int .i64 k)).grow (World.grownBy_alloc _ (.cells #[.int .i64 0, .int .i64 0] 31 (0, 0)) none)
  have hbe := TwoB.new (w.alloc (.cells #[.int .i64 a, .int .i64 k] 29 (0, 0))) 31 (.int .i64 0) (.int .i64 0)
  rw [World.size_alloc] at hbe
  have hsz : ((w.alloc (.cells #[.int .i64 a, .int .i64 k] 29 (0, 0))).alloc (.cells #[.int .i64 0, .int .i64 0] 31 (0, 0))).heap.size = w.heap.size + 1 + 1 := by rw [World.size_alloc, World.size_alloc]
  go_enter Try.func19, Try.ntmps19
  go_wp2_with fail
  generalize (w.alloc (.cells #[.int .i64 a, .int .i64 k] 29 (0, 0))).alloc (.cells #[.int .i64 0, .int .i64 0] 31 (0, 0)) = wB at *
  have HS := Lib.hid (show ∀ W, wB.grownBy W none → W.cell? ⟨p, 1, none⟩ = some (.map (some M)) ∧ (W.cell? ⟨w.heap.size, 0, none⟩ = some (.int .i64 a) ∧ W.cell? ⟨w.heap.size, 1, none⟩ = some (.int .i64 k)) ∧ (Instr.lookup 55 (.map (some M)) (.agg #[.int .i64 a, .int .i64 k]) true).run Try.prog W = .ok (.tuple #[.agg #[.int .i64 f, .int .i64 q], .bool b]) W from
    fun W g => ⟨(h.grow (grown_trans gb g)).at.2.1, (hbk.grow g).at, by have := (h.grow (grown_trans gb g)).map.look h.keys ha hk; rwa [hf] at this⟩)
  have gd := Lib.hid (grown_drew1 wB)
  have gc := Lib.hid (grown_trans gd.out (World.grownBy_alloc wB.drew (.cells #[.int .i64 0, .int .i64 0] 31 (0, 0)) none))
  have gp := Lib.hid (show wB.grownBy (wB.alloc (.cells #[.int .i64 f, .int .i64 q] 31 (0, 0))).drew none from grown_trans (World.grownBy_alloc wB _ none) (grown_drew1 _))
  have HR := Lib.hid (hbe.grow gp.out)
  have HE := Lib.hid (show TwoB (wB.alloc (.cells #[.int .i64 f, .int .i64 q] 31 (0, 0))).drew (w.heap.size + 1 + 1) 31 (.int .i64 f) (.int .i64 q) by
    have : TwoB (wB.alloc (.cells #[.int .i64 f, .int .i64 q] 31 (0, 0))).drew wB.heap.size 31 (.int .i64 f) (.int .i64 q) := TwoB.new wB 31 (.int .i64 f) (.int .i64 q)
    rwa [hsz] at this)
  have HGB := Lib.hid (grown_trans gb gp.out)
  clear hbe hbk ga gb hf hb h
  go_region_held3 (fun W => W.cell? ⟨p, 1, none⟩ = some (.map (some M)) ∧ (W.cell? ⟨w.heap.size, 0, none⟩ = some (.int .i64 a) ∧ W.cell? ⟨w.heap.size, 1, none⟩ = some (.int .i64 k)) ∧ (Instr.lookup 55 (.map (some M)) (.agg #[.int .i64 a, .int .i64 k]) true).run Try.prog W = .ok (.tuple #[.agg #[.int .i64 f, .int .i64 q], .bool b]) W)
    (first | exact HS.out _ gd.out | exact HS.out _ gc.out | exact HS.out _ gp.out) (fail)
  all_goals
    clear HS gd gc gp
    generalize (wB.alloc (.cells #[.int .i64 f, .int .i64 q] 31 (0, 0))).drew = wE at *
    obtain ⟨e0, e1⟩ := HR.out.at
    obtain ⟨f0, f1⟩ := HR.out.frozen
    obtain ⟨k0, k1⟩ := HE.out.at
    go_wp2_with fail
    refine bodyPost_ret (results_pair_tmp rfl _ _ (w.heap.size + 1) _ #[.int .i64 f, .int .i64 q] (0, 0) _ rfl (heap_pair _ _ _ _ _ _ _ HR.out rfl rfl) Try.underlying31 (by kernel_rfl) (by kernel_rfl)) rfl ?_
    exact ⟨rfl, grown_pair HGB.out (by omega) _ _⟩
end
end Go.Proofs.Ytmddflhacamnaaa
