/- The document's counts of layer 11: New, At, Sum, Runs. -/
import Derived.Test.YtfmihbiongnpnaaJMem
namespace Go.Proofs.Ytfmihbiongnpnaa
open Go.ChangeShapes Go.WideShapes Go.ChangeAt Go.RowKit Go.Deep
set_option linter.unusedVariables false

/-- The document's counts: block q, the list in block g. -/
structure RJ (w : World) (q g c : Nat) (L : List Int) : Prop where
  head : w.heap[q]? = some (.cells #[.slice (some ⟨g, 0, none⟩) L.length c] 93 (0, 0))
  row : ZOwn w 0 (.slice (some ⟨g, 0, none⟩) L.length c) L
  ne : g ≠ q
section
variable {w w' : World} {q g c : Nat} {L : List Int}
theorem RJ.qlt (h : RJ w q g c L) : q < w.heap.size := (Array.getElem?_eq_some_iff.1 h.head).1
theorem RJ.glt (h : RJ w q g c L) : g < w.heap.size := (OwnOf.lt h.row (g := g) rfl).2
theorem RJ.lt (h : RJ w q g c L) : ∀ b, b ∈ [q, g] → b < w.heap.size := fun b hb => by
  simp at hb
  rcases hb with rfl | rfl
  · exact h.qlt
  · exact h.glt
theorem RJ.kept (h : RJ w q g c L) (hb : ∀ b, b ∈ [q, g] → w'.heap[b]? = w.heap[b]?) : RJ w' q g c L :=
  ⟨(hb q (by simp)).trans h.head, OwnOf.kept h.row fun b e => hb b (by simp [Value.ownBlock] at e; simp [e]), h.ne⟩
theorem RJ.grow (h : RJ w q g c L) (k : w.grownBy w' none) : RJ w' q g c L := h.kept fun b hb => k.block b (h.lt b hb) (by simp)
theorem RJ.at (h : RJ w q g c L) : w.cell? ⟨q, 0, none⟩ = some (.slice (some ⟨g, 0, none⟩) L.length c) := by rw [cell_of_row _ _ _ _ _ _ h.head]; rfl
theorem RJ.frozen (h : RJ w q g c L) (o : Nat) : w.frozen? ⟨q, o, none⟩ = false := frozen_of_row _ _ _ _ _ h.head
theorem RJ.cap (h : RJ w q g c L) : L.length ≤ c := by
  rcases h.row.2 with ⟨e, _⟩ | ⟨g', c', cur, e, _, _, h3, _⟩
  · cases e
  · cases e; exact h3
theorem RJ.get (h : RJ w q g c L) {j : Nat} {x : Int} (hx : L[j]? = some x) : w.cell? ⟨g, j, none⟩ = some (.int .i64 x) := own_z h.row hx
end
/-- The same, by its blocks. -/
def RS (w : World) (q : Nat) (L : List Int) (O : List Nat) : Prop := ∃ g c, RJ w q g c L ∧ O = [q, g]
def LR (w w' : World) (q : Nat) (O : List Nat) (L' : List Int) : Prop := ∃ O', RS w' q L' O' ∧ Turn O w w' ∧ ∀ b, b ∈ O' → b ∈ O ∨ w.heap.size ≤ b
section
variable {w w' w9 : World} {q g c : Nat} {L : List Int} {O O2 : List Nat}
theorem RS.lt (h : RS w q L O) : ∀ b, b ∈ O → b < w.heap.size := by obtain ⟨g, c, h, rfl⟩ := h; exact h.lt
theorem RS.kept (h : RS w q L O) (hb : ∀ b, b ∈ O → w'.heap[b]? = w.heap[b]?) : RS w' q L O := by obtain ⟨g, c, h, rfl⟩ := h; exact ⟨g, c, h.kept hb, rfl⟩
theorem RS.grow (h : RS w q L O) (k : w.grownBy w' none) : RS w' q L O := h.kept fun b hb => k.block b (h.lt b hb) (by simp)
theorem RS.turn (h : RS w q L O) (k : Turn O2 w w') (ho : ∀ b, b ∈ O → b ∉ O2) : RS w' q L O := h.kept fun b hb => k.block b (h.lt b hb) (ho b hb)
theorem RJ.same (h : RJ w q g c L) (k : w.grownBy w' none) : LR w w' q [q, g] L := ⟨[q, g], ⟨g, c, h.grow k, rfl⟩, Turn.grown k, fun b hb => .inl hb⟩
/-- The list is another row. -/
theorem RJ.other (h : RJ w q g c L) (k : w.grownBy w9 none) {g' c' : Nat} {L' : List Int} (hr : ZOwn w9 w.heap.size (.slice (some ⟨g', 0, none⟩) L'.length c') L') : LR w (w9.setCell ⟨q, 0, none⟩ (.slice (some ⟨g', 0, none⟩) L'.length c')) q [q, g] L' := by
  have h9 := h.grow k
  have hq := h.qlt
  have hg := (OwnOf.lt hr (g := g') rfl).1
  have ho : ∀ b, b ≠ q → (w9.setCell ⟨q, 0, none⟩ (.slice (some ⟨g', 0, none⟩) L'.length c')).heap[b]? = w9.heap[b]? := fun b hb => heap_setCell_other w9 ⟨q, 0, none⟩ b _ (by first | exact hb | exact hb.symm)
  refine ⟨[q, g'], ⟨g', c', ⟨heap_setCell_same w9 q 0 _ _ _ h9.head, OwnOf.lower (OwnOf.kept hr fun b e => ho b ?_) (Nat.zero_le _), by omega⟩, rfl⟩, (Turn.grown k).trans' (Turn.setCell [q, g] w9 q 0 _ (by simp)), fun b hb => ?_⟩
  · simp [Value.ownBlock] at e
    omega
  · simp at hb
    rcases hb with rfl | rfl
    · exact .inl (by simp)
    · exact .inr hg
end

theorem made_zeros (n : Nat) : (madeCells #[.int .i64 0] (n * 1)).toList = (List.replicate n 0).flatMap zCells := by
  rw [z_flat, List.map_replicate]
  apply List.ext_getElem?
  intro o
  unfold madeCells
  rw [Array.getElem?_toList, Array.getElem?_map, List.getElem?_replicate, Nat.mul_one]
  by_cases ho : o < n
  · rw [Array.getElem?_range, if_pos ho, if_pos ho]
    simp [Nat.mod_one]
  · rw [if_neg ho, Array.getElem?_eq_none (by simpa using Nat.le_of_not_lt ho)]
    rfl

theorem rj_new (k : Nat) (w : World) (hk : k ≤ 4096) :
    Calls Try.prog 34 #[.int .i64 k] w fun e w' => ∃ q O, e = .returned (.pointer (some ⟨q, 0, none⟩)) ∧ RS w' q (List.replicate k 0) O ∧ w.grownBy w' none ∧ ∀ b, b ∈ O → w.heap.size ≤ b := by
  have hmk : (Instr.makeSlice 39 (.int .i64 (k : Int)) (.int .i64 (k : Int))).run Try.prog w = .ok (.slice (some ⟨w.heap.size, 0, none⟩) k k) (w.alloc (.cells (madeCells #[.int .i64 0] (k * 1)) 3)) := by
    obtain ⟨i0, hi, hz0, hz1, hz2⟩ := info_parts info_int11
    have hr := run_make (P := Try.prog) w 39 3 i0 _ Try.underlying39 hi hz0 .i64 .i64 (k : Int) (k : Int) (by omega) (by omega) (by rw [hz2]; omega) (by omega)
    rw [hr, Int.toNat_natCast, hz1]
    rfl
  obtain ⟨X, hX⟩ : ∃ X, X = madeCells #[.int .i64 0] (k * 1) := ⟨_, rfl⟩
  have hXl : X.toList = (List.replicate k 0).flatMap zCells := by rw [hX]; exact made_zeros k
  have hXs : X.size = k * 1 := by rw [hX]; unfold madeCells; simp
  rw [← hX] at hmk
  have ga := World.grownBy_alloc w (.cells X 3 (0, 0)) none
  have gb := grown_trans ga (World.grownBy_alloc (w.alloc (.cells X 3 (0, 0))) (.cells #[.slice (some ⟨w.heap.size, 0, none⟩) k k] 93 (0, 0)) none)
  have hb := heap_alloc_new (w.alloc (.cells X 3 (0, 0))) (.cells #[.slice (some ⟨w.heap.size, 0, none⟩) k k] 93 (0, 0))
  rw [World.size_alloc] at hb
  have hg := (World.grownBy_alloc (w.alloc (.cells X 3 (0, 0))) (.cells #[.slice (some ⟨w.heap.size, 0, none⟩) k k] 93 (0, 0)) none).block w.heap.size (by simp) (by simp) |>.trans (heap_alloc_new w _)
  have HP := Lib.hid (show RJ _ (w.heap.size + 1) w.heap.size k (List.replicate k 0) from
    ⟨by rw [List.length_replicate]; exact hb, ⟨by rw [flat_len zCells 1 z_len], .inr ⟨w.heap.size, k, X, by rw [List.length_replicate], Nat.zero_le _, hg, by rw [List.length_replicate]; exact Nat.le_refl _, by unfold maxLen; omega, hXs, by rw [List.length_replicate, ← hXl, List.take_of_length_le (by simp [hXs])]⟩⟩, by omega⟩)
  have HG := Lib.hid gb
  have d0 : decide ((k : Int) < 0) = false := decide_eq_false (by omega)
  have d1 : decide ((k : Int) > 4096) = false := decide_eq_false (by omega)
  clear hX hXl hXs ga gb hb hg
  go_enter Try.func34, Try.ntmps34
  go_wp2_with fail
  go_ret
  exact ⟨w.heap.size + 1, _, rfl, ⟨_, _, HP.out, rfl⟩, HG.out, by intro b hb; simp at hb; omega⟩

theorem rj_new_no (n : Int) (w : World) (h : ¬ (0 ≤ n ∧ n ≤ 4096)) :
    Calls Try.prog 34 #[.int .i64 n] w fun e w' => e = .returned (.pointer none) ∧ w.grownBy w' none := by
  rcases (show n < 0 ∨ (¬ n < 0 ∧ n > 4096) by omega) with d0 | ⟨d0, d1⟩
  all_goals
    clear h
    go_enter Try.func34, Try.ntmps34
    go_wp2_with fail
    go_ret
    exact ⟨rfl, grown_refl _ _⟩

theorem atJ_in {L : List Int} {i : Nat} {x : Int} (hx : L[i]? = some x) : atJ L i = x := by
  have := (List.getElem?_eq_some_iff.1 hx).1
  unfold atJ
  rw [if_pos ⟨by omega, by omega⟩, Int.toNat_natCast, List.getD_eq_getElem?_getD, hx]
  rfl

section
variable {w : World} {q g c : Nat} {L : List Int}
theorem rj_at (h : RJ w q g c L) (hk : JOk L) (i : Int) : Calls Try.prog 39 #[.pointer (some ⟨q, 0, none⟩), .int .i64 i] w fun e w' => e = .returned (.int .i64 (atJ L i)) ∧ w.grownBy w' none := by
  have l0 := h.at
  by_cases h0 : i < 0
  · rw [show atJ L i = -1 from if_neg (by omega)]
    clear h hk
    go_enter Try.func39, Try.ntmps39
    go_wp2_with fail
    go_ret
    exact ⟨rfl, grown_refl _ _⟩
  · obtain ⟨k, rfl⟩ := Int.eq_ofNat_of_zero_le (show 0 ≤ i by omega)
    by_cases h1 : k < L.length
    · obtain ⟨x, hx⟩ : ∃ x, L[k]? = some x := ⟨_, List.getElem?_eq_getElem h1⟩
      have hc := h.get hx
      rw [atJ_in hx]
      have d0 : decide ((k : Int) < 0) = false := decide_eq_false (by omega)
      have d1 : decide ((k : Int) ≥ (L.length : Int)) = false := decide_eq_false (by omega)
      have hlen := hk.len
      clear h hk hx h0
      go_enter Try.func39, Try.ntmps39
      go_wp2_with fail
      go_ret
      exact ⟨rfl, grown_refl _ _⟩
    · rw [show atJ L k = -1 from if_neg (by omega)]
      have d0 : decide ((k : Int) < 0) = false := decide_eq_false (by omega)
      have d1 : decide ((k : Int) ≥ (L.length : Int)) = true := decide_eq_true (by omega)
      clear h hk h0
      go_enter Try.func39, Try.ntmps39
      go_wp2_with fail
      go_ret
      exact ⟨rfl, grown_refl _ _⟩

theorem rj_sum (h : RJ w q g c L) (hk : JOk L) : Calls Try.prog 42 #[.pointer (some ⟨q, 0, none⟩)] w fun e w' => e = .returned (.int .i64 (sumJ L)) ∧ w.grownBy w' none := by
  have l0 := h.at
  have hl := hk.len
  have HR := Lib.hid h
  have HK := Lib.hid hk
  clear h hk
  go_enter Try.func42, Try.ntmps42
  go_wp2_with fail
  go_loopw [3, 5, 11] (fun nv _ iv wr => ∃ (j : Nat) (s : Int), j ≤ L.length ∧ iv = .int .i64 j ∧ nv = .int .i64 s ∧ 0 ≤ s ∧ s ≤ 1000000 * j ∧ Hid (s = sumTo L j) ∧ Hid (w.grownBy wr none)) (fun _ _ iv _ => L.length - (intOf iv).toNat)
  case atStart => exact ⟨0, 0, by omega, rfl, rfl, by omega, by omega, rfl, grown_refl _ _⟩
  case round =>
    obtain ⟨j, s, hj, rfl, rfl, hs0, hs1, HS, HG⟩ := hrel
    by_cases hlt : j < L.length
    · obtain ⟨x, hx⟩ : ∃ x, L[j]? = some x := ⟨_, List.getElem?_eq_getElem hlt⟩
      have hc := (HR.out.grow HG.out).get hx
      have hx0 := HK.out.lo x (List.mem_of_getElem? hx)
      have hx1 := HK.out.hi x (List.mem_of_getElem? hx)
      have HN := Lib.hid (show s + x = sumTo L (j + 1) by rw [sumTo_succ hlt, ← HS.out, List.getD_eq_getElem?_getD, hx]; rfl)
      clear hx
      go_wp2_with fail
      go_roundw
      case rel => exact ⟨j + 1, s + x, by omega, by go_num, by go_num, by omega, by omega, HN, HG⟩
      case measure => simp [intOf]; omega
    · obtain rfl : j = L.length := by omega
      have HT := Lib.hid (show s = sumJ L by rw [HS.out, sumTo_all])
      go_wp2_with fail
      go_ret
      exact ⟨by rw [← HT.out]; rfl, HG.out⟩
end
end Go.Proofs.Ytfmihbiongnpnaa
