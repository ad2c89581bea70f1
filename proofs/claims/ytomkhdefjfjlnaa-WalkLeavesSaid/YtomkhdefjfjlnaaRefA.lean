/- The document's own memory of layer 1: Is, Byte, SetByte, Word, SetWord at rows that its New made. -/
import Derived.Test.YtomkhdefjfjlnaaWBase
namespace Go.Proofs.Ytomkhdefjfjlnaa
open Go.ChangeShapes Go.WideShapes Go.ChangeAt Go.RowKit Go.Deep
open Extern.Stop (cell)
set_option linter.unusedVariables false

/-- Block r is the document's memory: its table lies in block f, row i in block R[i], and holds the bytes of frame i of L. -/
structure RM (w : World) (r f n : Nat) (R : List Nat) (L : List UInt8) : Prop where
  head : ∃ cap : Nat, w.heap[r]? = some (.cells #[.slice (some ⟨f, 0, none⟩) n cap] 83 (0, 0)) ∧ n ≤ cap
  table : ∃ cur : Array Value, w.heap[f]? = some (.cells cur 55 (0, 0)) ∧ ∀ (i p : Nat), R[i]? = some p → cur[i]? = some (.slice (some ⟨p, 0, none⟩) 4096 4096)
  rows : ∀ (i p : Nat), R[i]? = some p → w.heap[p]? = some (.cells ((pageOf L i).map cell).toArray 5 (0, 0))
  num : R.length = n
  len : L.length = n * 4096
  nodup : ∀ (i j p : Nat), R[i]? = some p → R[j]? = some p → i = j
  rf : r ≠ f
  rR : r ∉ R
  fR : f ∉ R
  le : n ≤ 256

/-- .. in blocks that were not there when the law began. -/
structure RS (w0 w : World) (r f n : Nat) (R : List Nat) (L : List UInt8) : Prop where
  mem : RM w r f n R L
  below : Below w0.heap.size w0 w
  rge : w0.heap.size ≤ r
  fge : w0.heap.size ≤ f
  Rge : ∀ p ∈ R, w0.heap.size ≤ p

section
variable {w0 w w' : World} {r f n : Nat} {R : List Nat} {L : List UInt8}

theorem RM.cellR (h : RM w r f n R L) : ∃ cap, w.cell? ⟨r, 0, none⟩ = some (.slice (some ⟨f, 0, none⟩) n cap) ∧ n ≤ cap := by
  obtain ⟨cap, hh, hc⟩ := h.head
  exact ⟨cap, by rw [cell_of_row _ _ _ _ _ _ hh]; rfl, hc⟩

theorem RM.row (h : RM w r f n R L) (i : Nat) (hi : i < n) : ∃ p, R[i]? = some p ∧ w.cell? ⟨f, i, none⟩ = some (.slice (some ⟨p, 0, none⟩) 4096 4096) ∧ w.heap[p]? = some (.cells ((pageOf L i).map cell).toArray 5 (0, 0)) := by
  obtain ⟨cur, hc, ht⟩ := h.table
  have hp : R[i]? = some (R[i]'(by rw [h.num]; exact hi)) := List.getElem?_eq_getElem _
  exact ⟨_, hp, by rw [cell_of_row _ _ _ _ _ _ hc]; exact ht i _ hp, h.rows i _ hp⟩

/-- Nothing of the memory has turned. -/
theorem RM.same (h : RM w r f n R L) (hr : w'.heap[r]? = w.heap[r]?) (hf : w'.heap[f]? = w.heap[f]?) (hR : ∀ p ∈ R, w'.heap[p]? = w.heap[p]?) : RM w' r f n R L := by
  obtain ⟨cap, hh, hc⟩ := h.head
  obtain ⟨cur, hcur, ht⟩ := h.table
  exact ⟨⟨cap, hr.trans hh, hc⟩, ⟨cur, hf.trans hcur, ht⟩, fun i p hi => (hR p (List.mem_of_getElem? hi)).trans (h.rows i p hi), h.num, h.len, h.nodup, h.rf, h.rR, h.fR, h.le⟩

theorem RM.rlt (h : RM w r f n R L) : r < w.heap.size := by obtain ⟨_, hh, _⟩ := h.head; exact (Array.getElem?_eq_some_iff.1 hh).1
theorem RM.flt (h : RM w r f n R L) : f < w.heap.size := by obtain ⟨_, hh, _⟩ := h.table; exact (Array.getElem?_eq_some_iff.1 hh).1
theorem RM.Rlt (h : RM w r f n R L) (p : Nat) (hp : p ∈ R) : p < w.heap.size := by
  obtain ⟨i, hi⟩ := List.getElem?_of_mem hp
  exact (Array.getElem?_eq_some_iff.1 (h.rows i p hi)).1

theorem RS.grow (h : RS w0 w r f n R L) (g : w.grownBy w' none) : RS w0 w' r f n R L :=
  ⟨h.mem.same (g.block r h.mem.rlt (by simp)) (g.block f h.mem.flt (by simp)) fun p hp => g.block p (h.mem.Rlt p hp) (by simp), h.below.grown g h.below.size (by simp), h.rge, h.fge, h.Rge⟩

theorem RS.grow' {x : Nat} (h : RS w0 w r f n R L) (g : w.grownBy w' (some x)) (hx : w0.heap.size ≤ x) (h1 : x ≠ r) (h2 : x ≠ f) (h3 : x ∉ R) : RS w0 w' r f n R L :=
  ⟨h.mem.same (g.block r h.mem.rlt (by simpa using Ne.symm h1)) (g.block f h.mem.flt (by simpa using Ne.symm h2)) fun p hp => g.block p (h.mem.Rlt p hp) (by intro e; have e2 := Option.some.inj e; exact h3 (e2 ▸ hp)),
    h.below.grown g h.below.size (by simpa using hx), h.rge, h.fge, h.Rge⟩

/-- A stretch of a row written over. -/
theorem RS.stored (h : RS w0 w r f n R L) (i o p : Nat) (xs : List UInt8) (hi : i < n) (hp : R[i]? = some p) (ho : o + xs.length ≤ 4096) : RS w0 (w.setCells p o (xs.map cell)) r f n R (splice L (i * 4096 + o) xs) := by
  have g := grown_setCells w p o (xs.map cell)
  have hm : p ∈ R := List.mem_of_getElem? hp
  have hr : p ≠ r := fun e => h.mem.rR (e ▸ hm)
  have hf : p ≠ f := fun e => h.mem.fR (e ▸ hm)
  obtain ⟨cap, hh, hc⟩ := h.mem.head
  obtain ⟨cur, hcur, ht⟩ := h.mem.table
  have hb : i * 4096 + o + xs.length ≤ L.length := by rw [h.mem.len]; omega
  refine ⟨⟨⟨cap, (g.block r h.mem.rlt (by simpa using Ne.symm hr)).trans hh, hc⟩, ⟨cur, (g.block f h.mem.flt (by simpa using Ne.symm hf)).trans hcur, ht⟩, fun j q hq => ?_, h.mem.num, ?_, h.mem.nodup, h.mem.rf, h.mem.rR, h.mem.fR, h.mem.le⟩,
    h.below.grown g h.below.size (by simpa using h.Rge p hm), h.rge, h.fge, h.Rge⟩
  · have hjn : j < n := by rw [← h.mem.num]; exact (List.getElem?_eq_some_iff.1 hq).1
    by_cases hj : i = j
    · subst hj
      obtain rfl : q = p := by rw [hp] at hq; exact (Option.some.inj hq).symm
      have hlen := pageOf_length h.mem.len i hi
      rw [heap_setCells (h.mem.rows i q hp) (xs.map cell) (by simp; omega) (one_cells xs), pageOf_splice_same h.mem.len hi ho, map_splice]
    · have hne : q ≠ p := fun e => hj (h.mem.nodup i j p hp (e ▸ hq))
      rw [g.block q (h.mem.Rlt q (List.mem_of_getElem? hq)) (by simpa using hne), h.mem.rows j q hq, pageOf_splice_other h.mem.len hi hjn hj ho]
  · rw [length_splice _ _ _ hb, h.mem.len]

/-- What was there and is no row has not turned. -/
def Kept (R : List Nat) (w w' : World) : Prop := ∀ g, g < w.heap.size → g ∉ R → w'.heap[g]? = w.heap[g]?
theorem Kept.grown {p : Nat} (hp : p ∈ R) (g : w.grownBy w' (some p)) : Kept R w w' := fun x hx hR => g.block x hx (by intro e; have e2 := Option.some.inj e; exact hR (e2 ▸ hp))
theorem Kept.none (g : w.grownBy w' none) : Kept R w w' := fun x hx _ => g.block x hx (by simp)
theorem Kept.refl : Kept R w w := fun _ _ _ => rfl
theorem Kept.trans {w'' : World} (h : Kept R w w') (k : Kept R w' w'') (hs : w.heap.size ≤ w'.heap.size) : Kept R w w'' := fun x hx hR => (k x (by omega) hR).trans (h x hx hR)

/-- A memory of the program's, past a call of the document's. -/
theorem St.past {m d k : Nat} {M : List UInt8} (h : St w0 w m d k M) (K : Kept R w w') (b : Below w0.heap.size w0 w') (hm : m ∉ R) (hd : d ∉ R) : St w0 w' m d k M :=
  ⟨⟨(K m h.mlt hm).trans h.mem.head, (K d h.dlt hd).trans h.mem.body, h.mem.len, h.mem.ne, h.mem.pos, h.mem.le⟩, b, h.dge, h.mge⟩

theorem is_any (h : RS w0 w r f n R L) (i : Int) (b : Bool) (hb : decide (0 ≤ i ∧ i < n) = b) :
    Calls Try.prog 36 #[.pointer (some ⟨r, 0, none⟩), .int .i64 i] w fun e w' => e = .returned (.bool b) ∧ w = w' := by
  obtain ⟨cap, hc, _⟩ := h.mem.cellR
  have hle := h.mem.le
  clear h
  subst hb
  by_cases h0 : 0 ≤ i
  · by_cases h1 : i < n
    · have d0 : decide (i ≥ 0) = true := by simpa using h0
      go_enter Try.func36, Try.ntmps36
      go_wp2
      go_ret
      exact ⟨by simp [h0, h1], rfl⟩
    · have h2 : n ≤ i := by omega
      have d0 : decide (i ≥ 0) = true := by simpa using h0
      have d1 : decide (i < n) = false := by simpa using h2
      go_enter Try.func36, Try.ntmps36
      go_wp2
      go_ret
      exact ⟨by simp [h1], rfl⟩
  · have d0 : decide (i ≥ 0) = false := by simpa using h0
    have h2 : i < 0 := by omega
    go_enter Try.func36, Try.ntmps36
    go_wp2
    go_ret
    exact ⟨by simp [h0], rfl⟩

end
end Go.Proofs.Ytomkhdefjfjlnaa
