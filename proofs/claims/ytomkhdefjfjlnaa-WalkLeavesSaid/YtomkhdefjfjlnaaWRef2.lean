/- The document's layer 4: Look, Walk. -/
import Derived.Test.YtomkhdefjfjlnaaWRef1
import Derived.Laws.ResultCell
import Derived.OwnWalk
namespace Go.Proofs.Ytomkhdefjfjlnaa
open Go.ChangeShapes Go.WideShapes Go.RowKit
set_option linter.unusedVariables false

/-- Two results, the first one a struct in memory. -/
theorem results_row_tmp {P : Program} {fn : Func} {p u : Tmp} {ty : TypeId} (h : fn.results = #[.cell p ty, .tmp u]) (tmps : Array Value) (w : World) (g : Nat) (t : TypeId) (cs : Array Value) (fr : Nat × Nat) (d : TypeDesc)
    (hp : tmps.getD p undef = .pointer (some ⟨g, 0, none⟩)) (hg : w.heap[g]? = some (.cells cs t fr))
    (hu : P.underlying ty = some d) (hd : (match d with | .struct _ | .array _ _ => true | _ => false) = true) (hi : (P.info? ty).map (·.size) = some cs.size) :
    (results fn tmps).run P w = .ok (.tuple #[.agg cs, tmps.getD u undef]) w := by
  rw [results_cell_tmp h, hp]
  simp [asAddr, Result.andThen, run_loadVar_row w g t ty cs fr d hg hu hd hi]

/-- A struct of two cells, stored into. -/
theorem heap_two (w : World) (g : Nat) (x y x' y' : Value) (t : TypeId) (hg : w.heap[g]? = some (.cells #[x, y] t (0, 0))) (h1 : x'.oneCell' = true) (h2 : y'.oneCell' = true) :
    ((w.setCell ⟨g, 0, none⟩ x').setCell ⟨g, 1, none⟩ y').heap[g]? = some (.cells #[x', y'] t (0, 0)) := by
  have h : w.heap[g]? = some (.cells [x, y].toArray t (0, 0)) := hg
  exact heap_setCells h [x', y'] (by simp) (by intro v hv; simp at hv; rcases hv with rfl | rfl <;> assumption)
theorem grown_two (w w2 : World) (o : Obj) (x' y' : Value) (h : (w.alloc o).grownBy w2 none) : w.grownBy ((w2.setCell ⟨w.heap.size, 0, none⟩ x').setCell ⟨w.heap.size, 1, none⟩ y') none :=
  grown_alloc_then (grown_trans (grown_none h) (grown_setCells w2 w.heap.size 0 [x', y']))

section
variable {w0 w w' : World} {r f n : Nat} {R : List Nat} {L : List UInt8}

set_option maxHeartbeats 1000000 in
theorem ref_look (h : RS w0 w r f n R L) (root v : Int) :
    Calls Try.prog 16 #[.pointer (some ⟨r, 0, none⟩), .int .i64 root, .int .i64 v] w fun e w' => e = .returned (lookV n L v (placeOf n L root v)) ∧ w.grownBy w' none := by
  have HR := Lib.hid (h.grow (World.grownBy_alloc w (.cells #[.int .i64 0, .int .i64 0] 40) none))
  have HP0 := ref_place HR.out root v
  have HN := Lib.hid (heap_alloc_new w (.cells #[.int .i64 0, .int .i64 0] 40))
  have hlt : w.heap.size < (w.alloc (.cells #[.int .i64 0, .int .i64 0] 40)).heap.size := by simp
  have HL := Lib.hid hlt
  clear h hlt
  cases hD : placeOf n L root v with
  | none =>
    rw [hD] at HP0
    have HP := Lib.hid HP0
    replace HP : Hid (Calls Try.prog 14 #[.pointer (some ⟨r, 0, none⟩), .int .i64 root, .int .i64 v] (w.alloc (.cells #[.int .i64 0, .int .i64 0] 40)) fun e w' => e = .returned (.tuple #[.int .i64 0, .int .i64 0, .bool false]) ∧ (w.alloc (.cells #[.int .i64 0, .int .i64 0] 40)).grownBy w' none) := HP
    clear hD HP0
    go_enter Try.func16, Try.ntmps16
    go_wp2_with fail
    refine HP.out.mono ?_
    rintro e w2 ⟨rfl, h2⟩
    have hb := (h2.block _ HL.out (by simp)).trans HN.out
    have hc0 : w2.cell? ⟨w.heap.size, 0, none⟩ = some (.int .i64 0) := by rw [cell_of_row _ _ _ _ _ _ hb]; rfl
    have hc1 : w2.cell? ⟨w.heap.size, 1, none⟩ = some (.int .i64 0) := by rw [cell_of_row _ _ _ _ _ _ hb]; rfl
    have hf0 := frozen_of_row w2 w.heap.size 0 _ _ hb
    have hf1 := frozen_of_row w2 w.heap.size 1 _ _ hb
    have HB := Lib.hid hb
    have H2 := Lib.hid h2
    clear h2 hb
    go_wp2_with fail
    refine bodyPost_ret (results_row_tmp rfl _ _ w.heap.size _ #[.int .i64 0, .int .i64 0] (0, 0) _ rfl (heap_two _ _ _ _ _ _ _ HB.out rfl rfl) Try.underlying40 (by kernel_rfl) (by kernel_rfl)) rfl ?_
    exact ⟨rfl, grown_two _ _ _ _ _ H2.out⟩
  | some g =>
    rw [hD] at HP0
    have HP := Lib.hid HP0
    replace HP : Hid (Calls Try.prog 14 #[.pointer (some ⟨r, 0, none⟩), .int .i64 root, .int .i64 v] (w.alloc (.cells #[.int .i64 0, .int .i64 0] 40)) fun e w' => e = .returned (.tuple #[.int .i64 g, .int .i64 (indexOf v 0), .bool true]) ∧ (w.alloc (.cells #[.int .i64 0, .int .i64 0] 40)).grownBy w' none) := HP
    have hl : lookV n L v (some g) = .tuple #[.agg #[.int .i64 (flagOf (wordI n L g (indexOf v 0))), .int .i64 (ppnOf (wordI n L g (indexOf v 0)))], .bool true] := rfl
    rw [hl]
    have hx := wordI_ok n L g (indexOf v 0)
    obtain ⟨X, hX⟩ : ∃ X, wordI n L g (indexOf v 0) = X := ⟨_, rfl⟩
    rw [hX] at hx ⊢
    have HDc := Lib.hid (ref_decode_ok X hx)
    have HX := Lib.hid hX
    clear hD HP0 hl hx hX
    generalize flagOf X = A at *
    generalize ppnOf X = B at *
    go_enter Try.func16, Try.ntmps16
    go_wp2_with fail
    refine HP.out.mono ?_
    rintro e w2 ⟨rfl, h2⟩
    have HS2 := Lib.hid (HR.out.grow h2)
    have H1 := Lib.hid h2
    clear h2
    go_wp2_with fail
    refine (rword_at HS2.out _ _).mono ?_
    rintro e w' ⟨rfl, rfl⟩
    rw [HX.out]
    go_wp2_with fail
    refine (HDc.out _).mono ?_
    rintro e w3 ⟨rfl, h3⟩
    have h2 := grown_trans H1.out (grown_of_below' h3)
    have hb := (h2.block _ HL.out (by simp)).trans HN.out
    have hc0 : w3.cell? ⟨w.heap.size, 0, none⟩ = some (.int .i64 0) := by rw [cell_of_row _ _ _ _ _ _ hb]; rfl
    have hc1 : w3.cell? ⟨w.heap.size, 1, none⟩ = some (.int .i64 0) := by rw [cell_of_row _ _ _ _ _ _ hb]; rfl
    have hf0 := frozen_of_row w3 w.heap.size 0 _ _ hb
    have hf1 := frozen_of_row w3 w.heap.size 1 _ _ hb
    have HB := Lib.hid hb
    have H2 := Lib.hid h2
    clear h2 h3 hb
    go_wp2_with fail
    refine bodyPost_ret (results_row_tmp rfl _ _ w.heap.size _ #[.int .i64 A, .int .i64 B] (0, 0) _ rfl (heap_two _ _ _ _ _ _ _ HB.out rfl rfl) Try.underlying40 (by kernel_rfl) (by kernel_rfl)) rfl ?_
    exact ⟨rfl, grown_two _ _ _ _ _ H2.out⟩
end
end Go.Proofs.Ytomkhdefjfjlnaa
