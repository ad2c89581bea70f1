/- The document's layer 6: New, Is, may, Count, Get, set. -/
import Derived.Test.YtabgfjmfhkfbmaaRows
import Derived.Test.YtabgfjmfhkfbmaaFList
import Derived.WalkKit
import Derived.ProofKit
import Derived.OpenShut
import Derived.WalkLawsBesides
import Derived.WalkSpells
import Derived.BigQuiet
import Derived.WalkArith
import Derived.Deep.QuietTactic
import Derived.Deep.DeepMust
import Derived.Outline
import Derived.Below
import Derived.Laws.MakeOwn
import Derived.Deep.AppendLies
import Derived.Deep.RegionHeld3
namespace Go.Proofs.Ytabgfjmfhkfbmaa
open Go.ChangeShapes Go.WideShapes Go.ChangeAt Go.RowKit Go.Deep
set_option linter.unusedVariables false

theorem grown_drew1 (w : World) : w.grownBy w.drew none := ⟨rfl, rfl, rfl, Nat.le_refl _, fun _ _ _ => rfl⟩
theorem grown_set (W : World) (b o : Nat) (v : Value) : W.grownBy (W.setCell ⟨b, o, none⟩ v) (some b) := ⟨rfl, rfl, rfl, by simp, fun k _ hk => heap_setCell_other W _ k v (fun e => hk (by rw [e]))⟩
theorem grown_at {a b e : World} {x : Nat} (h : a.grownBy b none) (g : b.grownBy e (some x)) (hx : a.heap.size ≤ x) : a.grownBy e none :=
  ⟨g.os.trans h.os, g.tape.trans h.tape, g.output.trans h.output, Nat.le_trans h.size g.size, fun k hk _ => (g.block k (Nat.lt_of_lt_of_le hk h.size) (by intro e; have e2 := Option.some.inj e; omega)).trans (h.block k hk (by simp))⟩

/-- Two results, the first one a struct in memory. -/
theorem results_pair_tmp {P : Program} {fn : Func} {p u : Tmp} {ty : TypeId} (h : fn.results = #[.cell p ty, .tmp u]) (tmps : Array Value) (w : World) (g : Nat) (t : TypeId) (cs : Array Value) (fr : Nat × Nat) (d : TypeDesc)
    (hp : tmps.getD p undef = .pointer (some ⟨g, 0, none⟩)) (hg : w.heap[g]? = some (.cells cs t fr))
    (hu : P.underlying ty = some d) (hd : (match d with | .struct _ | .array _ _ => true | _ => false) = true) (hi : (P.info? ty).map (·.size) = some cs.size) :
    (results fn tmps).run P w = .ok (.tuple #[.agg cs, tmps.getD u undef]) w := by
  rw [results_cell_tmp h, hp]
  simp [asAddr, Result.andThen, run_loadVar_row w g t ty cs fr d hg hu hd hi]
/-- Five cells, stored into. -/
theorem heap_five (w : World) (g : Nat) {a b c d e : Value} (a' b' c' d' e' : Int) (t : TypeId) (hg : w.heap[g]? = some (.cells #[a, b, c, d, e] t (0, 0))) :
    (((((w.setCell ⟨g, 0, none⟩ (.int .i64 a')).setCell ⟨g, 1, none⟩ (.int .i64 b')).setCell ⟨g, 2, none⟩ (.int .i64 c')).setCell ⟨g, 3, none⟩ (.int .i64 d')).setCell ⟨g, 4, none⟩ (.int .i64 e')).heap[g]? = some (.cells #[.int .i64 a', .int .i64 b', .int .i64 c', .int .i64 d', .int .i64 e'] t (0, 0)) := by
  have h : w.heap[g]? = some (.cells [a, b, c, d, e].toArray t (0, 0)) := hg
  exact heap_setCells h [.int .i64 a', .int .i64 b', .int .i64 c', .int .i64 d', .int .i64 e'] (by simp) (by intro v hv; simp at hv; rcases hv with rfl | rfl | rfl | rfl | rfl <;> rfl)
theorem grown_five (w : World) (g : Nat) (a b c d e : Value) : w.grownBy (((((w.setCell ⟨g, 0, none⟩ a).setCell ⟨g, 1, none⟩ b).setCell ⟨g, 2, none⟩ c).setCell ⟨g, 3, none⟩ d).setCell ⟨g, 4, none⟩ e) (some g) := by
  have tr : ∀ {x y z : World}, x.grownBy y (some g) → y.grownBy z (some g) → x.grownBy z (some g) := fun h k => ⟨k.os.trans h.os, k.tape.trans h.tape, k.output.trans h.output, Nat.le_trans h.size k.size, fun b hb hne => (k.block b (Nat.lt_of_lt_of_le hb h.size) hne).trans (h.block b hb hne)⟩
  exact tr (tr (tr (tr (grown_set _ g 0 a) (grown_set _ g 1 b)) (grown_set _ g 2 c)) (grown_set _ g 3 d)) (grown_set _ g 4 e)

/-- The document's pool: block r, its row in block g. -/
structure RP (w : World) (r : Nat) (rs : Int) (xs : List FrV) (g c : Nat) : Prop where
  head : w.heap[r]? = some (.cells #[.slice (some ⟨g, 0, none⟩) xs.length c, .int .i64 rs] 60 (0, 0))
  row : w.ownsRow 0 39 5 (.slice (some ⟨g, 0, none⟩) xs.length c) xs.length (xs.flatMap frCells)
  len0 : 1 ≤ xs.length
  len1 : xs.length ≤ 256
  rs0 : 0 ≤ rs
  rs1 : rs ≤ xs.length

section
variable {w w' : World} {r g c : Nat} {rs : Int} {xs : List FrV}
theorem RP.rlt (h : RP w r rs xs g c) : r < w.heap.size := (Array.getElem?_eq_some_iff.1 h.head).1
theorem RP.glt (h : RP w r rs xs g c) : g < w.heap.size := (h.row.lt g rfl).2
theorem RP.cur (h : RP w r rs xs g c) : ∃ cur, w.heap[g]? = some (.cells cur 39 (0, 0)) ∧ xs.length ≤ c ∧ cur.size = c * 5 ∧ cur.toList.take (xs.length * 5) = xs.flatMap frCells := by
  rcases h.row.2 with ⟨e, _⟩ | ⟨g', c', cur, e, _, h2, h3, _, h4, h5⟩
  · cases e
  · simp only [Value.slice.injEq, Option.some.injEq, Addr.mk.injEq] at e
    obtain ⟨⟨rfl, _⟩, _, rfl⟩ := e
    exact ⟨cur, h2, h3, h4, h5⟩
theorem RP.ne (h : RP w r rs xs g c) : g ≠ r := fun e => by
  obtain ⟨cur, h1, _⟩ := h.cur
  have := h.head.symm.trans (e ▸ h1)
  simp at this
theorem RP.kept (h : RP w r rs xs g c) (hb : ∀ b, b ∈ [r, g] → w'.heap[b]? = w.heap[b]?) : RP w' r rs xs g c := by
  refine ⟨(hb r (by simp)).trans h.head, ⟨h.row.1, ?_⟩, h.len0, h.len1, h.rs0, h.rs1⟩
  rcases h.row.2 with ⟨e, _⟩ | ⟨g', c', cur, e, h1, h2, h3⟩
  · cases e
  · refine .inr ⟨g', c', cur, e, h1, (hb g' ?_).trans h2, h3⟩
    simp only [Value.slice.injEq, Option.some.injEq, Addr.mk.injEq] at e
    simp [e.1.1]
theorem RP.lt (h : RP w r rs xs g c) : ∀ b, b ∈ [r, g] → b < w.heap.size := by
  intro b hb
  simp at hb
  rcases hb with rfl | rfl
  · exact h.rlt
  · exact h.glt
theorem RP.grow (h : RP w r rs xs g c) (k : w.grownBy w' none) : RP w' r rs xs g c := h.kept fun b hb => k.block b (h.lt b hb) (by simp)
theorem RP.turn {O : List Nat} (h : RP w r rs xs g c) (k : Turn O w w') (ho : ∀ b, b ∈ [r, g] → b ∉ O) : RP w' r rs xs g c := h.kept fun b hb => k.block b (h.lt b hb) (ho b hb)
theorem RP.at (h : RP w r rs xs g c) : w.cell? ⟨r, 0, none⟩ = some (.slice (some ⟨g, 0, none⟩) xs.length c) ∧ w.cell? ⟨r, 1, none⟩ = some (.int .i64 rs) := ⟨by rw [cell_of_row _ _ _ _ _ _ h.head]; rfl, by rw [cell_of_row _ _ _ _ _ _ h.head]; rfl⟩
/-- The cells of one frame. -/
theorem RP.fr (h : RP w r rs xs g c) {j : Nat} {x : FrV} (hx : xs[j]? = some x) : w.cell? ⟨g, j * 5, none⟩ = some (.int .i64 x.cl) ∧ w.cell? ⟨g, j * 5 + 1, none⟩ = some (.int .i64 x.ow) ∧ w.cell? ⟨g, j * 5 + 2, none⟩ = some (.int .i64 x.ix) ∧ w.cell? ⟨g, j * 5 + 3, none⟩ = some (.int .i64 x.wi) ∧ w.cell? ⟨g, j * 5 + 4, none⟩ = some (.int .i64 x.lo) := by
  have key : ∀ q u, (frCells x)[q]? = some u → w.cell? ⟨g, j * 5 + q, none⟩ = some u := fun q u hq => by
    have h1 := h.row.cells (g := g) rfl _ u (flat_at frCells 5 fr_len xs j x hx q u hq)
    rw [Addr.add_lit, Nat.zero_add] at h1
    exact h1
  exact ⟨key 0 _ rfl, key 1 _ rfl, key 2 _ rfl, key 3 _ rfl, key 4 _ rfl⟩
end

/-- A boxed frame. -/
def FrB (w : World) (y : Nat) (t : TypeId) (x : FrV) : Prop := w.heap[y]? = some (.cells #[.int .i64 x.cl, .int .i64 x.ow, .int .i64 x.ix, .int .i64 x.wi, .int .i64 x.lo] t (0, 0))
section
variable {w w' : World} {y : Nat} {t : TypeId} {x : FrV}
theorem FrB.at (h : FrB w y t x) : w.cell? ⟨y, 0, none⟩ = some (.int .i64 x.cl) ∧ w.cell? ⟨y, 1, none⟩ = some (.int .i64 x.ow) ∧ w.cell? ⟨y, 2, none⟩ = some (.int .i64 x.ix) ∧ w.cell? ⟨y, 3, none⟩ = some (.int .i64 x.wi) ∧ w.cell? ⟨y, 4, none⟩ = some (.int .i64 x.lo) :=
  ⟨by rw [cell_of_row _ _ _ _ _ _ h]; rfl, by rw [cell_of_row _ _ _ _ _ _ h]; rfl, by rw [cell_of_row _ _ _ _ _ _ h]; rfl, by rw [cell_of_row _ _ _ _ _ _ h]; rfl, by rw [cell_of_row _ _ _ _ _ _ h]; rfl⟩
theorem FrB.frozen (h : FrB w y t x) : w.frozen? ⟨y, 0, none⟩ = false ∧ w.frozen? ⟨y, 1, none⟩ = false ∧ w.frozen? ⟨y, 2, none⟩ = false ∧ w.frozen? ⟨y, 3, none⟩ = false ∧ w.frozen? ⟨y, 4, none⟩ = false :=
  ⟨frozen_of_row _ _ _ _ _ h, frozen_of_row _ _ _ _ _ h, frozen_of_row _ _ _ _ _ h, frozen_of_row _ _ _ _ _ h, frozen_of_row _ _ _ _ _ h⟩
theorem FrB.lt (h : FrB w y t x) : y < w.heap.size := (Array.getElem?_eq_some_iff.1 h).1
theorem FrB.grow (h : FrB w y t x) (g : w.grownBy w' none) : FrB w' y t x := (g.block _ h.lt (by simp)).trans h
theorem FrB.turn {O : List Nat} (h : FrB w y t x) (g : Turn O w w') (ho : y ∉ O) : FrB w' y t x := (g.block _ h.lt ho).trans h
theorem FrB.new (w : World) (t : TypeId) (x : FrV) : FrB (w.alloc (.cells #[.int .i64 x.cl, .int .i64 x.ow, .int .i64 x.ix, .int .i64 x.wi, .int .i64 x.lo] t (0, 0))) w.heap.size t x := heap_alloc_new w _
end

theorem info_rfr : (Try.prog.info? 39).map (fun i => (i.zero, i.size, i.bytes)) = some (some (.agg #[.int .i64 0, .int .i64 0, .int .i64 0, .int .i64 0, .int .i64 0]), 5, 40) := by kernel_rfl
def zeroCs : Array Value := #[.int .i64 0, .int .i64 0, .int .i64 0, .int .i64 0, .int .i64 0]
theorem made_zeroF (n : Nat) : (madeCells zeroCs (n * 5)).toList = (List.replicate n zeroF).flatMap frCells := by
  apply List.ext_getElem?
  intro o
  have hs : zeroCs.size = 5 := rfl
  by_cases ho : o < n * 5
  · have e1 : (madeCells zeroCs (n * 5)).toList[o]? = some (.int .i64 0) := by
      unfold madeCells
      rw [Array.getElem?_toList, Array.getElem?_map, Array.getElem?_range, if_pos ho]
      simp only [Option.map_some, hs]
      rcases (show o % 5 = 0 ∨ o % 5 = 1 ∨ o % 5 = 2 ∨ o % 5 = 3 ∨ o % 5 = 4 by omega) with e | e | e | e | e <;> rw [e] <;> rfl
    have hz : (List.replicate n zeroF)[o / 5]? = some zeroF := by rw [List.getElem?_replicate, if_pos (by omega)]
    have key : ∀ q, q < 5 → (frCells zeroF)[q]? = some (.int .i64 0) := fun q hq => by
      rcases (show q = 0 ∨ q = 1 ∨ q = 2 ∨ q = 3 ∨ q = 4 by omega) with rfl | rfl | rfl | rfl | rfl <;> rfl
    have h2 := flat_at frCells 5 fr_len _ (o / 5) zeroF hz (o % 5) _ (key _ (by omega))
    rw [show o / 5 * 5 + o % 5 = o by omega] at h2
    rw [e1, h2]
  · rw [List.getElem?_eq_none (by rw [Array.length_toList]; unfold madeCells; simp; omega), List.getElem?_eq_none (by rw [flat_len frCells 5 fr_len, List.length_replicate]; omega)]

theorem ref_new_ok (n : Nat) (rs : Int) (w : World) (h1 : 1 ≤ n) (h2 : n ≤ 256) (h3 : 0 ≤ rs) (h4 : rs ≤ n) :
    Calls Try.prog 9 #[.int .i64 n, .int .i64 rs] w fun e w' => ∃ r g c, e = .returned (.pointer (some ⟨r, 0, none⟩)) ∧ RP w' r rs (List.replicate n zeroF) g c ∧ w.grownBy w' none ∧ ∀ b, b ∈ [r, g] → w.heap.size ≤ b := by
  have hmk : (Instr.makeSlice 58 (.int .i64 (n : Int)) (.int .i64 (n : Int))).run Try.prog w = .ok (.slice (some ⟨w.heap.size, 0, none⟩) n n) (w.alloc (.cells (madeCells zeroCs (n * 5)) 39)) := by
    obtain ⟨i0, hi, hz0, hz1, hz2⟩ := info_parts info_rfr
    have hr := run_make (P := Try.prog) w 58 39 i0 _ Try.underlying58 hi hz0 .i64 .i64 (n : Int) (n : Int) (by omega) (by omega) (by rw [hz2]; omega) (by omega)
    rw [hr, Int.toNat_natCast, hz1]
    rfl
  obtain ⟨X, hX⟩ : ∃ X, X = madeCells zeroCs (n * 5) := ⟨_, rfl⟩
  have hXl : X.toList = (List.replicate n zeroF).flatMap frCells := by rw [hX]; exact made_zeroF n
  have hXs : X.size = n * 5 := by rw [hX]; unfold madeCells; simp
  rw [← hX] at hmk
  have ga := World.grownBy_alloc w (.cells X 39 (0, 0)) none
  have gb := grown_trans ga (World.grownBy_alloc (w.alloc (.cells X 39 (0, 0))) (.cells #[.slice (some ⟨w.heap.size, 0, none⟩) n n, .int .i64 rs] 60 (0, 0)) none)
  have hb := heap_alloc_new (w.alloc (.cells X 39 (0, 0))) (.cells #[.slice (some ⟨w.heap.size, 0, none⟩) n n, .int .i64 rs] 60 (0, 0))
  rw [World.size_alloc] at hb
  have hg := (World.grownBy_alloc (w.alloc (.cells X 39 (0, 0))) (.cells #[.slice (some ⟨w.heap.size, 0, none⟩) n n, .int .i64 rs] 60 (0, 0)) none).block w.heap.size (by simp) (by simp) |>.trans (heap_alloc_new w _)
  have HP := Lib.hid (show RP _ (w.heap.size + 1) rs (List.replicate n zeroF) w.heap.size n from
    ⟨by rw [List.length_replicate]; exact hb, ⟨by rw [flat_len frCells 5 fr_len], .inr ⟨w.heap.size, n, X, rfl, Nat.zero_le _, hg, by rw [List.length_replicate]; exact Nat.le_refl _, by unfold maxLen; omega, hXs, by rw [List.length_replicate, ← hXl, List.take_of_length_le (by simp [hXs])]⟩⟩, by rw [List.length_replicate]; exact h1, by rw [List.length_replicate]; exact h2, h3, by rw [List.length_replicate]; exact h4⟩)
  have HG := Lib.hid gb
  have d0 : decide ((n : Int) < 1) = false := by simp; omega
  have d1 : decide ((n : Int) > 256) = false := by simp; omega
  have d2 : decide (rs < 0) = false := by simp; omega
  have d3 : decide (rs > (n : Int)) = false := by simp; omega
  clear hX hXl hXs ga gb hb hg
  go_enter Try.func9, Try.ntmps9
  go_wp2_with fail
  go_ret
  exact ⟨w.heap.size + 1, w.heap.size, n, rfl, HP.out, HG.out, by intro b hb; simp at hb; omega⟩

theorem ref_new_no (n rs : Int) (w : World) (h : ¬ (1 ≤ n ∧ n ≤ 256 ∧ 0 ≤ rs ∧ rs ≤ n)) :
    Calls Try.prog 9 #[.int .i64 n, .int .i64 rs] w fun e w' => e = .returned (.pointer none) ∧ w' = w := by
  rcases (show n < 1 ∨ (¬ n < 1 ∧ 256 < n) ∨ (¬ n < 1 ∧ ¬ 256 < n ∧ rs < 0) ∨ (¬ n < 1 ∧ ¬ 256 < n ∧ ¬ rs < 0 ∧ n < rs) by omega) with h1 | ⟨h1, h2⟩ | ⟨h1, h2, h3⟩ | ⟨h1, h2, h3, h4⟩
  all_goals
    clear h
    go_enter Try.func9, Try.ntmps9
    go_wp2_with fail
    go_ret
    exact ⟨rfl, rfl⟩

section
variable {w : World} {r g c : Nat} {rs : Int} {xs : List FrV}

theorem ref_is (h : RP w r rs xs g c) (fr : Int) (b : Bool) (hb : b = decide (0 ≤ fr ∧ fr < xs.length)) : Calls Try.prog 30 #[.pointer (some ⟨r, 0, none⟩), .int .i64 fr] w fun e w' => e = .returned (.bool b) ∧ w' = w := by
  obtain ⟨c0, c1⟩ := h.at
  clear h
  by_cases h0 : 0 ≤ fr
  · by_cases h1 : fr < xs.length
    · rw [decide_eq_true ⟨h0, h1⟩] at hb
      subst hb
      go_enter Try.func30, Try.ntmps30
      go_wp2_with fail
      go_ret
      exact ⟨rfl, rfl⟩
    · rw [decide_eq_false (fun k => h1 k.2)] at hb
      subst hb
      go_enter Try.func30, Try.ntmps30
      go_wp2_with fail
      go_ret
      exact ⟨rfl, rfl⟩
  · rw [decide_eq_false (fun k => h0 k.1)] at hb
    subst hb
    go_enter Try.func30, Try.ntmps30
    go_wp2_with fail
    go_ret
    exact ⟨rfl, rfl⟩

theorem ref_may (n b : Int) (h0 : 0 ≤ n) (h1 : n ≤ 1000000) (d : Bool) (hd : d = decide (mayBy n b)) (w : World) : Calls Try.prog 41 #[.int .i64 n, .int .i64 b] w fun e w' => e = .returned (.bool d) ∧ w' = w := by
  by_cases h2 : -n ≤ b
  · by_cases h3 : b ≤ 1000000 - n
    · rw [decide_eq_true (show mayBy n b from ⟨h2, h3⟩)] at hd
      subst hd
      go_enter Try.func41, Try.ntmps41
      go_wp2_with fail
      go_ret
      exact ⟨rfl, rfl⟩
    · rw [decide_eq_false (fun k : mayBy n b => h3 k.2)] at hd
      subst hd
      go_enter Try.func41, Try.ntmps41
      go_wp2_with fail
      go_ret
      exact ⟨rfl, rfl⟩
  · rw [decide_eq_false (fun k : mayBy n b => h2 k.1)] at hd
    subst hd
    go_enter Try.func41, Try.ntmps41
    go_wp2_with fail
    go_ret
    exact ⟨rfl, rfl⟩

theorem ref_count (h : RP w r rs xs g c) (cl : Int) : Calls Try.prog 14 #[.pointer (some ⟨r, 0, none⟩), .int .i64 cl] w fun e w' => e = .returned (.int .i64 (countF xs cl)) ∧ w.grownBy w' none := by
  obtain ⟨c0, c1⟩ := h.at
  have hl := h.len1
  have HR := Lib.hid h
  clear h
  go_enter Try.func14, Try.ntmps14
  go_wp2_with fail
  go_loopw [5, 7, 13] (fun nv _ iv wr => ∃ (j : Nat) (k : Int), j ≤ xs.length ∧ iv = .int .i64 j ∧ nv = .int .i64 k ∧ 0 ≤ k ∧ k ≤ j ∧ Hid (k = countF (xs.take j) cl) ∧ Hid (w.grownBy wr none)) (fun _ _ iv _ => xs.length - (intOf iv).toNat)
  case atStart => exact ⟨0, 0, by omega, rfl, rfl, by omega, by omega, rfl, grown_refl _ _⟩
  case round =>
    obtain ⟨j, k, hj, rfl, rfl, hk0, hk1, HKj, HG⟩ := hrel
    by_cases hlt : j < xs.length
    · obtain ⟨x, hx⟩ : ∃ x, xs[j]? = some x := ⟨_, List.getElem?_eq_getElem hlt⟩
      obtain ⟨f0, f1, f2, f3, f4⟩ := (HR.out.grow HG.out).fr hx
      have hn := count_take hx cl
      have HG2 := Lib.hid (grown_trans HG.out (World.grownBy_alloc wr (.cells #[.int .i64 x.cl, .int .i64 x.ow, .int .i64 x.ix, .int .i64 x.wi, .int .i64 x.lo] 39 (0, 0)) none))
      obtain ⟨b0, _⟩ := (FrB.new wr 39 x).at
      obtain ⟨xc, xo, xi, xw, xl⟩ := x
      simp only at *
      by_cases hc : xc = cl
      · rw [if_pos hc] at hn
        have hb : (xc == cl) = true := by simpa using hc
        have HN := Lib.hid hn
        clear hn hc hx
        go_wp2_with fail
        go_roundw
        case rel => exact ⟨j + 1, k + 1, by omega, by go_num, rfl, by omega, by omega, by show k + 1 = _; rw [HN.out, ← HKj.out], HG2⟩
        case measure => simp [intOf]; omega
      · rw [if_neg hc, Int.add_zero] at hn
        have hb : (xc == cl) = false := by simpa using hc
        have HN := Lib.hid hn
        clear hn hc hx
        go_wp2_with fail
        go_roundw
        case rel => exact ⟨j + 1, k, by omega, by go_num, rfl, by omega, by omega, by show k = _; rw [HN.out, ← HKj.out], HG2⟩
        case measure => simp [intOf]; omega
    · obtain rfl : j = xs.length := by omega
      have hk := HKj.out
      rw [List.take_of_length_le (Nat.le_refl _)] at hk
      have HK2 := Lib.hid hk
      clear hk
      go_wp2_with fail
      go_ret
      exact ⟨by rw [← HK2.out]; rfl, HG.out⟩

theorem ref_get (h : RP w r rs xs g c) (fr : Int) : Calls Try.prog 17 #[.pointer (some ⟨r, 0, none⟩), .int .i64 fr] w fun e w' => e = .returned (getV (getF xs fr)) ∧ w.grownBy w' none := by
  have ga := World.grownBy_alloc w (.cells #[.int .i64 0, .int .i64 0, .int .i64 0, .int .i64 0, .int .i64 0] 39 (0, 0)) none
  have hA := h.grow ga
  have hB := FrB.new w 39 zeroF
  unfold zeroF at hB
  simp only at hB
  generalize hwA : w.alloc (.cells #[.int .i64 0, .int .i64 0, .int .i64 0, .int .i64 0, .int .i64 0] 39 (0, 0)) = wA at *
  obtain ⟨c0, c1⟩ := hA.at
  obtain ⟨b0, b1, b2, b3, b4⟩ := hB.at
  obtain ⟨z0, z1, z2, z3, z4⟩ := hB.frozen
  have HB := Lib.hid hB
  have HG := Lib.hid ga
  by_cases hc : 0 ≤ fr ∧ fr < xs.length
  · obtain ⟨k, rfl⟩ := Int.eq_ofNat_of_zero_le hc.1
    have hk : k < xs.length := by omega
    obtain ⟨x, hx⟩ : ∃ x, xs[k]? = some x := ⟨_, List.getElem?_eq_getElem hk⟩
    have HI := Lib.hid (ref_is hA k true (by rw [decide_eq_true hc]))
    have hget : getF xs k = some x := by unfold getF; rw [if_pos hc, Int.toNat_natCast]; exact hx
    rw [hget]
    obtain ⟨f0, f1, f2, f3, f4⟩ := hA.fr hx
    clear ga hA hB h hc hget hx
    obtain ⟨xc, xo, xi, xw, xl⟩ := x
    simp only at *
    unfold getV frAgg
    simp only
    go_enter Try.func17, Try.ntmps17
    go_wp2_with fail
    refine HI.out.mono ?_
    rintro e w2 ⟨rfl, rfl⟩
    go_wp2_with fail
    refine bodyPost_ret (results_pair_tmp rfl _ _ w.heap.size _ #[.int .i64 xc, .int .i64 xo, .int .i64 xi, .int .i64 xw, .int .i64 xl] (0, 0) _ rfl (heap_five _ _ _ _ _ _ _ _ HB.out) Try.underlying39 (by kernel_rfl) (by kernel_rfl)) rfl ?_
    exact ⟨rfl, grown_at HG.out (grown_five _ _ _ _ _ _ _) (Nat.le_refl _)⟩
  · have HI := Lib.hid (ref_is hA fr false (by rw [decide_eq_false hc]))
    have hget : getF xs fr = none := by unfold getF; rw [if_neg hc]
    rw [hget]
    clear ga hA hB h hc hget
    unfold getV frAgg zeroF
    simp only
    go_enter Try.func17, Try.ntmps17
    go_wp2_with fail
    refine HI.out.mono ?_
    rintro e w2 ⟨rfl, rfl⟩
    go_wp2_with fail
    refine bodyPost_ret (results_pair_tmp rfl _ _ w.heap.size _ #[.int .i64 0, .int .i64 0, .int .i64 0, .int .i64 0, .int .i64 0] (0, 0) _ rfl (heap_five _ _ _ _ _ _ _ _ HB.out) Try.underlying39 (by kernel_rfl) (by kernel_rfl)) rfl ?_
    exact ⟨rfl, grown_at HG.out (grown_five _ _ _ _ _ _ _) (Nat.le_refl _)⟩
end
end Go.Proofs.Ytabgfjmfhkfbmaa
