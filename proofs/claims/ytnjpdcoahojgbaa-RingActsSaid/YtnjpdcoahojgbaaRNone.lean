/- The law on rows that no call made, walked: it answers true, and nothing that was there has turned. -/
import Derived.Test.YtnjpdcoahojgbaaRBare
import Derived.Deep.RegionHeld3
namespace Go.Proofs.Ytnjpdcoahojgbaa.RInt
open Go.ChangeShapes Go.WideShapes Go.ChangeAt Go.RowKit Go.Deep
set_option linter.unusedVariables false

/-- An act: what is done, in which row, with which number. -/
structure ActV where
  k : Int
  r : Int
  x : Int

structure ActIs (w : World) (A : ActV) (cs : List Value) : Prop where
  cells : cs = [.int .i64 A.k, .int .i64 A.r, .int .i64 A.x]
  k : okK A.k
  r : okK A.r
  x : okK A.x

theorem list3 {α : Type} {l : List α} {a b c : α} (h : l.length = 3) (h0 : l[0]? = some a) (h1 : l[1]? = some b) (h2 : l[2]? = some c) : l = [a, b, c] := by
  match l, h with
  | [_, _, _], _ => simp_all

theorem act_of_trod {H : Type} {enc : TypeId × Value → H} {w : World} {base : Nat} {spare : Nat → Bool} {held : Bool} {fuel : Nat} {cs : List Value} {x : DataW H × List MemPlace}
    (h : DataW.trod enc Try.prog w base spare held fuel 29 cs = some x) : ∃ A, ActIs w A cs := by
  obtain ⟨hlen, m, hf⟩ := struct_cells Try.underlying29 (by kernel_rfl) (by kernel_rfl) h
  obtain ⟨v0, y0, e0, t0⟩ := hf 0 _ rfl
  obtain ⟨v1, y1, e1, t1⟩ := hf 1 _ rfl
  obtain ⟨v2, y2, e2, t2⟩ := hf 2 _ rfl
  obtain ⟨k, rfl, hk⟩ := int_of_trod Try.underlying3 t0
  obtain ⟨a, rfl, ha⟩ := int_of_trod Try.underlying3 t1
  obtain ⟨b, rfl, hb⟩ := int_of_trod Try.underlying3 t2
  exact ⟨⟨k, a, b⟩, list3 hlen e0 e1 e2, hk, ha, hb⟩

/-- The boxed act, and the rows that no call made. -/
structure NoneW (w wr : World) (k r x : Int) : Prop where
  below : Below w.heap.size w wr
  box : wr.heap[w.heap.size]? = some (.cells #[.int .i64 k, .int .i64 r, .int .i64 x] 29 (0, 0))
  mem : wr.heap[w.heap.size + 1]? = some (.cells #[.slice none 0 0, .map none, .int .i64 0] 51 (0, 0))

section
variable {w wr w' : World} {k r x : Int}
theorem NoneW.size (h : NoneW w wr k r x) : w.heap.size + 1 < wr.heap.size := (Array.getElem?_eq_some_iff.1 h.mem).1
theorem NoneW.past (h : NoneW w wr k r x) (b : Below wr.heap.size wr w') : NoneW w w' k r x := by
  have hs := h.size
  exact ⟨h.below.trans (b.mono h.below.size), (b.block _ (by omega)).trans h.box, (b.block _ (by omega)).trans h.mem⟩
theorem NoneW.drew (h : NoneW w wr k r x) : NoneW w wr.drew k r x := ⟨h.below.drew, h.box, h.mem⟩
theorem NoneW.bare (h : NoneW w wr k r x) (p : Option Addr) (hp : p = none ∨ p = some ⟨w.heap.size + 1, 0, none⟩) : Bare wr p := by
  rintro a rfl
  rcases hp with hp | hp
  · cases hp
  · cases hp
    exact ⟨_, rfl, by rw [cell_of_row _ _ _ _ _ _ h.mem]; rfl, by rw [cell_of_row _ _ _ _ _ _ h.mem]; rfl⟩
theorem NoneW.cells (h : NoneW w wr k r x) : wr.cell? ⟨w.heap.size, 1, none⟩ = some (.int .i64 r) ∧ wr.cell? ⟨w.heap.size, 2, none⟩ = some (.int .i64 x) :=
  ⟨by rw [cell_of_row _ _ _ _ _ _ h.box]; rfl, by rw [cell_of_row _ _ _ _ _ _ h.box]; rfl⟩
end

set_option maxRecDepth 100000 in
set_option maxHeartbeats 4000000 in
theorem none_walk (w : World) (k r x : Int) (hx : okK x) :
    Calls Try.prog 7 #[.agg #[.int .i64 k, .int .i64 r, .int .i64 x]] w fun e w' => e = .returned (.bool true) ∧ Below w.heap.size w w' := by
  have hi0 : ∀ W, (Instr.index 52 (.agg #[.pointer none, .pointer (some ⟨w.heap.size + 1, 0, none⟩)]) (.int .i64 0)).run Try.prog W = .ok (.pointer none) W := fun _ => by kernel_rfl
  have hi1 : ∀ W, (Instr.index 52 (.agg #[.pointer none, .pointer (some ⟨w.heap.size + 1, 0, none⟩)]) (.int .i64 1)).run Try.prog W = .ok (.pointer (some ⟨w.heap.size + 1, 0, none⟩)) W := fun _ => by kernel_rfl
  have HX := Lib.hid hx
  have HI : Hid (∀ j : Nat, j < 2 → ∃ P : Option Addr, (P = none ∨ P = some ⟨w.heap.size + 1, 0, none⟩) ∧ ∀ W, (Instr.index 52 (.agg #[.pointer none, .pointer (some ⟨w.heap.size + 1, 0, none⟩)]) (.int .i64 j)).run Try.prog W = .ok (.pointer P) W) := by
    intro j hj
    match j, hj with
    | 0, _ => exact ⟨none, .inl rfl, hi0⟩
    | 1, _ => exact ⟨_, .inr rfl, hi1⟩
  clear hi0 hi1 hx
  go_enter Try.func7, Try.ntmps7
  go_wp2_with fail
  go_loopw [13] (fun q wr => ∃ j : Nat, j ≤ 2 ∧ q = .int .i64 j ∧ Hid (NoneW w wr k r x)) (fun q _ => 2 - (intOf q).toNat)
  case atStart =>
    refine ⟨0, by omega, rfl, (Below.refl _ _).alloc (Nat.le_refl _) _ |>.alloc (by simp) _, ?_, ?_⟩
    · rw [Below.heap_alloc _ _ _ (by simp)]
      exact World.alloc_heap_new w _
    · have := World.alloc_heap_new (w.alloc (.cells #[.int .i64 k, .int .i64 r, .int .i64 x] 29)) (.cells #[.slice none 0 0, .map none, .int .i64 0] 51)
      simpa using this
  case round =>
    obtain ⟨j, hj, rfl, HN⟩ := hrel
    by_cases hlt : j < 2
    · obtain ⟨P, hP, hi⟩ := HI.out j hlt
      have HP := Lib.hid hP
      obtain ⟨c1, c2⟩ := HN.out.cells
      clear hP
      go_wp2_with fail
      refine (bare_first (HN.out.bare P HP.out) r).mono ?_
      rintro e w3 ⟨rfl, rfl⟩
      go_wp2_with fail
      refine (bare_shift (HN.out.bare P HP.out) r).mono ?_
      rintro e w3 ⟨rfl, rfl⟩
      go_wp2_with fail
      refine (bare_where (HN.out.bare P HP.out) HX.out).mono ?_
      rintro e w3 ⟨rfl, hb⟩
      have HN3 := Lib.hid (HN.out.past hb)
      clear hb c1 c2
      have hk := HN3.out.drew.cells
      have HND := Lib.hid HN3.out.drew
      go_wp2_with fail
      go_region_held3 (fun w' => w'.cell? ⟨w.heap.size, 1, none⟩ = some (.int .i64 r) ∧ w'.cell? ⟨w.heap.size, 2, none⟩ = some (.int .i64 x)) (exact hk)
        (first | (go_at_call 13; refine (bare_push (HND.out.bare P HP.out) r HX.out).mono ?_; rintro e w4 ⟨rfl, hb⟩; have HN4 := Lib.hid (HND.out.past hb); have hk := HN4.out.cells; clear hb) | (go_at_call 15; refine (bare_front (HN4.out.bare P HP.out) r HX.out).mono ?_; rintro e w5 ⟨rfl, hb⟩; have HN5 := Lib.hid (HN4.out.past hb); have hk := HN5.out.cells; clear hb) | (go_at_call 19; refine (bare_remove (HN5.out.bare P HP.out) HX.out).mono ?_; rintro e w6 ⟨rfl, hb⟩; have HN6 := Lib.hid (HN5.out.past hb); have hk := HN6.out.cells; clear hb) | (go_at_call 21; refine (bare_turn (HN6.out.bare P HP.out) r).mono ?_; rintro e w7 ⟨rfl, rfl⟩) | (go_at_call 28; first | (refine (bare_len (HN8.out.bare P HP.out) r).mono ?_; rintro e w7 ⟨rfl, rfl⟩) | (refine (bare_len (HN6.out.bare P HP.out) r).mono ?_; rintro e w7 ⟨rfl, rfl⟩)) | (go_at_call 31; first | (refine (bare_rows (HN8.out.bare P HP.out)).mono ?_; rintro e w7 ⟨rfl, rfl⟩) | (refine (bare_rows (HN6.out.bare P HP.out)).mono ?_; rintro e w7 ⟨rfl, rfl⟩)) | (go_at_call 30; refine (bare_list (HN6.out.bare P HP.out) r _).mono ?_; rintro e w8 ⟨v8, rfl, hn8, hb⟩; obtain ⟨a8, c8, rfl⟩ := hn8.form; have HN8 := Lib.hid (HN6.out.past hb); have hk := HN8.out.cells; clear hb hn8))
      all_goals
        go_wp2_with fail
        go_roundw
        case rel => exact ⟨j + 1, by omega, by go_num, HN8⟩
        case measure => simp [intOf]; omega
    · clear hj
      go_wp2_with fail
      refine (lives_ok _).mono ?_
      rintro e w3 ⟨rfl, hb⟩
      have HN3 := Lib.hid (HN.out.past hb)
      clear hb
      go_wp2_with fail
      go_ret
      exact ⟨rfl, HN3.out.below⟩

theorem none_walk2 (w : World) (A : ActV) (cs : Array Value) (h : ActIs w A cs.toList) :
    Calls Try.prog 7 #[.agg cs] w fun e w' => e = .returned (.bool true) ∧ Below w.heap.size w w' := by
  have e : cs = #[.int .i64 A.k, .int .i64 A.r, .int .i64 A.x] := by
    have := h.cells
    cases cs
    simpa using this
  rw [e]
  exact none_walk _ _ _ _ h.x
end Go.Proofs.Ytnjpdcoahojgbaa.RInt
