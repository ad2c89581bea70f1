/- Acts that come in: a slice of them, opened; one in a box; what an act does to rows and to the numbers that stand in them. -/
import Derived.Test.YtnjpdcoahojgbaaRNone
import Derived.Test.YtnjpdcoahojgbaaRFull
import Derived.Test.YtnjpdcoahojgbaaRSieve
namespace Go.Proofs.Ytnjpdcoahojgbaa.RInt
open Go.ChangeShapes Go.WideShapes Go.ChangeAt Go.RowKit Go.Deep
set_option linter.unusedVariables false

theorem list_of_forall {α : Type} (l : Nat) (P : Nat → α → Prop) (h : ∀ i, i < l → ∃ a, P i a) : ∃ zs : List α, zs.length = l ∧ ∀ i a, zs[i]? = some a → P i a := by
  induction l with
  | zero => exact ⟨[], rfl, by simp⟩
  | succ l ih =>
    obtain ⟨zs, hl, ha⟩ := ih fun i hi => h i (by omega)
    obtain ⟨b, hb⟩ := h l (by omega)
    refine ⟨zs ++ [b], by simp [hl], fun i a hi => ?_⟩
    by_cases hil : i < l
    · rw [List.getElem?_append_left (by omega)] at hi
      exact ha i a hi
    · rw [List.getElem?_append_right (by omega)] at hi
      have h2 : i - zs.length = 0 := by
        have := (List.getElem?_eq_some_iff.1 hi).1
        simp at this
        omega
      rw [h2] at hi
      simp at hi
      subst hi
      have : i = l := by omega
      rw [this]
      exact hb

/-- Three cells in memory are an act. -/
structure ActAt (w : World) (g p : Nat) (A : ActV) : Prop where
  c0 : w.cell? ⟨g, p, none⟩ = some (.int .i64 A.k)
  c1 : w.cell? ⟨g, p + 1, none⟩ = some (.int .i64 A.r)
  c2 : w.cell? ⟨g, p + 2, none⟩ = some (.int .i64 A.x)
  k : okK A.k
  r : okK A.r
  x : okK A.x

/-- A slice of acts. -/
structure ActsAre (w : World) (s : Option Addr) (l : Nat) (As : List ActV) : Prop where
  len : As.length = l
  cells : l = 0 ∨ ∃ g o, s = some ⟨g, o, none⟩ ∧ ∀ i A, As[i]? = some A → ActAt w g (o + i * 3) A

theorem ActAt.below {w w' : World} {g p : Nat} {A : ActV} (h : ActAt w g p A) (b : Below w.heap.size w w') : ActAt w' g p A := by
  have hg : g < w.heap.size := World.block_lt_of_cell? w ⟨g, p, none⟩ h.c0
  have e : ∀ q, w'.cell? ⟨g, q, none⟩ = w.cell? ⟨g, q, none⟩ := fun q => b.cell (p := ⟨g, q, none⟩) hg
  exact ⟨(e _).trans h.c0, (e _).trans h.c1, (e _).trans h.c2, h.k, h.r, h.x⟩

theorem actAt_of {w : World} {A : ActV} {g p : Nat} {cs : List Value} (h : ActIs w A cs) (hc : ∀ j, j < 3 → w.cell? ⟨g, p + j, none⟩ = cs[j]?) : ActAt w g p A := by
  have e := h.cells
  subst e
  exact ⟨hc 0 (by omega), hc 1 (by omega), hc 2 (by omega), h.k, h.r, h.x⟩

theorem acts_of_trod {H : Type} {enc : TypeId × Value → H} {w : World} {base : Nat} {spare : Nat → Bool} {held : Bool} {fuel : Nat} {s : Option Addr} {l c : Nat} {x : DataW H × List MemPlace}
    (h : DataW.trod enc Try.prog w base spare held fuel 22 [.slice s l c] = some x) : ∃ As, ActsAre w s l As := by
  have hC : Try.prog.cellsOf 29 = 3 := by kernel_rfl
  rcases DataW.trod_slice Try.underlying22 h with ⟨hcs, _⟩ | ⟨a, len, cap, elems, rest, m, _, hcs, _, _, _, _, hlen, hel, _⟩
  · simp at hcs
    obtain ⟨rfl, rfl, rfl⟩ := hcs
    exact ⟨[], rfl, .inl rfl⟩
  · simp at hcs
    obtain ⟨rfl, rfl, rfl⟩ := hcs
    by_cases h0 : l = 0
    · subst h0
      exact ⟨[], rfl, .inl rfl⟩
    · have key : ∀ i, i < l → ∃ A cs, ActIs w A cs ∧ ∀ j, j < 3 → w.cell? ((a.add (i * 3)).add j) = cs[j]? := by
        intro i hi
        have h1 := hel i hi
        rw [hC] at h1
        have he : elems[i]? = some (elems[i]'(by omega)) := List.getElem?_eq_getElem (by omega)
        rw [he] at h1
        obtain ⟨cs, hcells, htr⟩ := Option.bind_eq_some_iff.1 h1
        obtain ⟨_, _, hat⟩ := World.cells?_some hcells
        obtain ⟨A, hA⟩ := act_of_trod htr
        exact ⟨A, cs, hA, hat⟩
      obtain ⟨g, o, spot⟩ := a
      have hspot : spot = none := by
        obtain ⟨A, cs, hA, hat⟩ := key 0 (by omega)
        have h1 := hat 0 (by omega)
        rw [hA.cells] at h1
        simpa [Addr.add] using World.cell?_spot (v := .int .i64 A.k) (by simpa [Addr.add] using h1)
      subst hspot
      obtain ⟨As, hl, hAs⟩ := list_of_forall l (fun i A => ActAt w g (o + i * 3) A) fun i hi => by
        obtain ⟨A, cs, hA, hat⟩ := key i hi
        exact ⟨A, actAt_of hA fun j hj => by have := hat j hj; rwa [Addr.add_mid, Addr.add_mid] at this⟩
      exact ⟨As, hl, .inr ⟨g, o, rfl, hAs⟩⟩

/-- The boxed act. -/
def ActBox (wr : World) (x : Nat) (A : ActV) : Prop := wr.heap[x]? = some (.cells #[.int .i64 A.k, .int .i64 A.r, .int .i64 A.x] 29 (0, 0))

theorem ActBox.cells {wr : World} {x : Nat} {A : ActV} (h : ActBox wr x A) : wr.cell? ⟨x, 0, none⟩ = some (.int .i64 A.k) ∧ wr.cell? ⟨x, 1, none⟩ = some (.int .i64 A.r) ∧ wr.cell? ⟨x, 2, none⟩ = some (.int .i64 A.x) := by
  unfold ActBox at h
  exact ⟨by rw [cell_of_row _ _ _ _ _ _ h]; rfl, by rw [cell_of_row _ _ _ _ _ _ h]; rfl, by rw [cell_of_row _ _ _ _ _ _ h]; rfl⟩

/-! ### the numbers that stand, beside the rows -/
/-- The rows and the numbers: each once, the same ones. -/
structure Once (S : List (List Int)) (I : List Int) : Prop where
  rows : S.length = 4
  nodup : I.Nodup
  mem : ∀ y, y ∈ I ↔ y ∈ S.flatten

theorem Once.len {S : List (List Int)} {I : List Int} (h : Once S I) (hS : S.flatten.Nodup) : I.length = S.flatten.length :=
  (List.perm_ext_iff_of_nodup h.nodup hS |>.2 h.mem).length_eq

theorem sieve_nodup {I : List Int} (h : I.Nodup) (x : Int) : (sieve x I).Nodup := h.sublist List.filter_sublist

theorem with_nodup {I : List Int} (h : I.Nodup) (x : Int) : (sieve x I ++ [x]).Nodup := by
  refine List.nodup_append.2 ⟨sieve_nodup h x, by simp, fun a ha b hb => ?_⟩
  simp at hb
  subst hb
  intro e
  subst e
  exact sieve_not _ _ ha

theorem sieve_mem {y x : Int} {I : List Int} : y ∈ sieve x I ↔ y ∈ I ∧ y ≠ x := by unfold sieve; simp
theorem with_mem {y x : Int} {I : List Int} : y ∈ sieve x I ++ [x] ↔ y ∈ I ∨ y = x := by
  rw [List.mem_append, sieve_mem]
  by_cases h : y = x <;> simp [h]

theorem sieve_count {I : List Int} (h : I.Nodup) {x : Int} (hx : x ∈ I) : (sieve x I).length + 1 = I.length := by
  obtain ⟨l1, l2, e⟩ := List.append_of_mem hx
  subst e
  have h1 : x ∉ l1 ∧ x ∉ l2 := by
    have := List.nodup_append.1 h
    exact ⟨fun hm => this.2.2 x hm x (by simp) rfl, (List.nodup_cons.1 this.2.1).1⟩
  unfold sieve
  rw [List.filter_append, List.filter_cons_of_neg (by simp), List.filter_eq_self.2 fun y hy => by simp; rintro rfl; exact h1.1 hy, List.filter_eq_self.2 fun y hy => by simp; rintro rfl; exact h1.2 hy]
  simp
  omega

theorem sieve_absent {I : List Int} {x : Int} (hx : x ∉ I) : sieve x I = I := by
  unfold sieve
  exact List.filter_eq_self.2 fun y hy => by simp; rintro rfl; exact hx hy

/-- Put at either end. -/
theorem Once.put {S : List (List Int)} {I : List Int} (h : Once S I) (hS : S.flatten.Nodup) (hl : I.length ≤ 150) (r : Nat) (hr : r < 4) (x : Int) : Once (pushS (r : Int) x S) (sieve x I ++ [x]) := by
  by_cases hx : x ∈ S.flatten
  · obtain ⟨_, h2, _, h4⟩ := push_old hS (by rw [h.rows]; exact hr) hx
    exact ⟨h2.trans h.rows, with_nodup h.nodup x, fun y => by
      rw [with_mem, h4, h.mem]
      exact ⟨fun q => q.elim id fun e => e ▸ hx, .inl⟩⟩
  · obtain ⟨_, h2, _, h4⟩ := push_fresh (r := r) (by rw [h.rows]; exact hr) hx (by have := h.len hS; omega)
    exact ⟨h2.trans h.rows, with_nodup h.nodup x, fun y => by rw [with_mem, h4, h.mem]⟩

theorem four_of {S : List (List Int)} (h : S.length = 4) : ∃ a b c d, S = [a, b, c, d] := by
  match S, h with
  | [a, b, c, d], _ => exact ⟨a, b, c, d, rfl⟩

theorem front_mem {S : List (List Int)} (hl : S.length = 4) {r : Nat} (hr : r < 4) (x y : Int) : y ∈ (S.modify r (x :: ·)).flatten ↔ y ∈ S.flatten ∨ y = x := by
  obtain ⟨a, b, c, d, rfl⟩ := four_of hl
  have hr4 : r = 0 ∨ r = 1 ∨ r = 2 ∨ r = 3 := by omega
  by_cases h : y = x
  · rcases hr4 with rfl | rfl | rfl | rfl <;> simp [h]
  · rcases hr4 with rfl | rfl | rfl | rfl <;> simp [h]

theorem Once.putF {S : List (List Int)} {I : List Int} (h : Once S I) (hS : S.flatten.Nodup) (hl : I.length ≤ 150) (r : Nat) (hr : r < 4) (x : Int) : Once (frontS (r : Int) x S) (sieve x I ++ [x]) := by
  have hf : fits (r : Int) x S := ⟨by omega, by rw [h.rows]; omega, .inr (by have := h.len hS; omega)⟩
  have hR : (rmv x S).length = 4 := by rw [rmv_length]; exact h.rows
  have e : frontS (r : Int) x S = (rmv x S).modify r (x :: ·) := by unfold frontS; rw [if_pos hf, Int.toNat_natCast]
  rw [e]
  refine ⟨by rw [List.length_modify]; exact hR, with_nodup h.nodup x, fun y => ?_⟩
  rw [with_mem, front_mem hR hr, rmv_mem, h.mem]
  by_cases hy : y = x <;> simp [hy]

theorem Once.out {S : List (List Int)} {I : List Int} (h : Once S I) (x : Int) : Once (rmv x S) (sieve x I) :=
  ⟨by unfold rmv; rw [List.length_map]; exact h.rows, sieve_nodup h.nodup x, fun y => by rw [sieve_mem, rmv_mem, h.mem]⟩

theorem where_row {S : List (List Int)} (hS : S.flatten.Nodup) {r : Nat} {i : Int} {row : List Int} (hr : S[r]? = some row) (hi : i ∈ row) : whereV i S = .tuple #[.int .i64 r, .bool true] := by
  obtain ⟨S1, S2, e, h1⟩ := at_split hr
  subst e h1
  have h2 : (S1 ++ row :: S2).findIdx? (fun l => decide (i ∈ l)) = some S1.length := by
    have e1 : S1.findIdx? (fun l => decide (i ∈ l)) = none := by
      rw [List.findIdx?_eq_none_iff]
      intro l hl
      simp only [decide_eq_false_iff_not]
      intro hm
      rw [List.flatten_append, List.nodup_append] at hS
      exact hS.2.2 i (List.mem_flatten.2 ⟨l, hl, hm⟩) i (by simp [hi]) rfl
    rw [List.findIdx?_append, e1]
    simp [List.findIdx?_cons, hi]
  unfold whereV
  rw [h2]

theorem rowS_of {S : List (List Int)} {r : Nat} {row : List Int} (hr : S[r]? = some row) : rowS (r : Int) S = row := by
  unfold rowS
  rw [if_pos (by omega), Int.toNat_natCast, hr]
  rfl

theorem count_step {S : List (List Int)} {r : Nat} {row : List Int} (hr : S[r]? = some row) : (S.take (r + 1)).flatten.length = (S.take r).flatten.length + row.length := by
  rw [List.take_add_one, hr]
  simp

theorem count_le {S : List (List Int)} (r : Nat) : (S.take r).flatten.length ≤ S.flatten.length := by
  have h := List.take_append_drop r S
  have h2 : S.flatten = (S.take r).flatten ++ (S.drop r).flatten := by rw [← List.flatten_append, h]
  rw [h2, List.length_append]
  omega
end Go.Proofs.Ytnjpdcoahojgbaa.RInt
