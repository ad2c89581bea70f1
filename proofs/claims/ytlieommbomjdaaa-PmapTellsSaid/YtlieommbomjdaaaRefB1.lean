/- The document's own memory of layer 1: Is, Byte, SetByte, Word, SetWord at rows that its New made. The document's own memory of layer 1: words. The document's own memory of layer 1: Fill, Zero, Page, Copy, Same. The document's own New of layer 1: rows of noughts, each in a block of its own. The program's memory and the document's side by side: what is asked of both is answered alike where their bytes are alike. -/
import Derived.Test.YtlieommbomjdaaaPhysB1
import Derived.RegionTactic
import Derived.BigRegion
import Derived.Deep.RegionLaw
namespace Go.Proofs.Ytlieommbomjdaaa
open Go.ChangeShapes Go.WideShapes Go.ChangeAt Go.RowKit Go.Deep
open Extern.Stop (cell)
set_option linter.unusedVariables false

/-- Block r is the document's memory: its table lies in block f, row i in block R[i], and holds the bytes of frame i of L. -/
structure RM (w : World) (r f n : Nat) (R : List Nat) (L : List UInt8) : Prop where
  head : ∃ cap : Nat, w.heap[r]? = some (.cells #[.slice (some ⟨f, 0, none⟩) n cap] 92 (0, 0)) ∧ n ≤ cap
  table : ∃ cur : Array Value, w.heap[f]? = some (.cells cur 94 (0, 0)) ∧ ∀ (i p : Nat), R[i]? = some p → cur[i]? = some (.slice (some ⟨p, 0, none⟩) 4096 4096)
  rows : ∀ (i p : Nat), R[i]? = some p → w.heap[p]? = some (.cells ((pageOf L i).map cell).toArray 5 (0, 0))
  num : R.length = n
  len : L.length = n * 4096
  nodup : ∀ (i j p : Nat), R[i]? = some p → R[j]? = some p → i = j
  rf : r ≠ f
  rR : r ∉ R
  fR : f ∉ R
  le : n ≤ 256

/-- .. in blocks that were not there when the law began. -/
structure RS (w0 w : World) (r f n : Nat) (R : List Nat) (L : List UInt8) : Prop where
  mem : RM w r f n R L
  below : Below w0.heap.size w0 w
  rge : w0.heap.size ≤ r
  fge : w0.heap.size ≤ f
  Rge : ∀ p ∈ R, w0.heap.size ≤ p

section
variable {w0 w w' : World} {r f n : Nat} {R : List Nat} {L : List UInt8}

theorem RM.cellR (h : RM w r f n R L) : ∃ cap, w.cell? ⟨r, 0, none⟩ = some (.slice (some ⟨f, 0, none⟩) n cap) ∧ n ≤ cap := by
  obtain ⟨cap, hh, hc⟩ := h.head
  exact ⟨cap, by rw [cell_of_row _ _ _ _ _ _ hh]; rfl, hc⟩

theorem RM.row (h : RM w r f n R L) (i : Nat) (hi : i < n) : ∃ p, R[i]? = some p ∧ w.cell? ⟨f, i, none⟩ = some (.slice (some ⟨p, 0, none⟩) 4096 4096) ∧ w.heap[p]? = some (.cells ((pageOf L i).map cell).toArray 5 (0, 0)) := by
  obtain ⟨cur, hc, ht⟩ := h.table
  have hp : R[i]? = some (R[i]'(by rw [h.num]; exact hi)) := List.getElem?_eq_getElem _
  exact ⟨_, hp, by rw [cell_of_row _ _ _ _ _ _ hc]; exact ht i _ hp, h.rows i _ hp⟩

/-- Nothing of the memory has turned. -/
theorem RM.same (h : RM w r f n R L) (hr : w'.heap[r]? = w.heap[r]?) (hf : w'.heap[f]? = w.heap[f]?) (hR : ∀ p ∈ R, w'.heap[p]? = w.heap[p]?) : RM w' r f n R L := by
  obtain ⟨cap, hh, hc⟩ := h.head
  obtain ⟨cur, hcur, ht⟩ := h.table
  exact ⟨⟨cap, hr.trans hh, hc⟩, ⟨cur, hf.trans hcur, ht⟩, fun i p hi => (hR p (List.mem_of_getElem? hi)).trans (h.rows i p hi), h.num, h.len, h.nodup, h.rf, h.rR, h.fR, h.le⟩

theorem RM.rlt (h : RM w r f n R L) : r < w.heap.size := by obtain ⟨_, hh, _⟩ := h.head; exact (Array.getElem?_eq_some_iff.1 hh).1
theorem RM.flt (h : RM w r f n R L) : f < w.heap.size := by obtain ⟨_, hh, _⟩ := h.table; exact (Array.getElem?_eq_some_iff.1 hh).1
theorem RM.Rlt (h : RM w r f n R L) (p : Nat) (hp : p ∈ R) : p < w.heap.size := by
  obtain ⟨i, hi⟩ := List.getElem?_of_mem hp
  exact (Array.getElem?_eq_some_iff.1 (h.rows i p hi)).1

theorem RS.grow (h : RS w0 w r f n R L) (g : w.grownBy w' none) : RS w0 w' r f n R L :=
  ⟨h.mem.same (g.block r h.mem.rlt (by simp)) (g.block f h.mem.flt (by simp)) fun p hp => g.block p (h.mem.Rlt p hp) (by simp), h.below.grown g h.below.size (by simp), h.rge, h.fge, h.Rge⟩

theorem RS.grow' {x : Nat} (h : RS w0 w r f n R L) (g : w.grownBy w' (some x)) (hx : w0.heap.size ≤ x) (h1 : x ≠ r) (h2 : x ≠ f) (h3 : x ∉ R) : RS w0 w' r f n R L :=
  ⟨h.mem.same (g.block r h.mem.rlt (by simpa using Ne.symm h1)) (g.block f h.mem.flt (by simpa using Ne.symm h2)) fun p hp => g.block p (h.mem.Rlt p hp) (by intro e; have e2 := Option.some.inj e; exact h3 (e2 ▸ hp)),
    h.below.grown g h.below.size (by simpa using hx), h.rge, h.fge, h.Rge⟩

/-- A stretch of a row written over. -/
theorem RS.stored (h : RS w0 w r f n R L) (i o p : Nat) (xs : List UInt8) (hi : i < n) (hp : R[i]? = some p) (ho : o + xs.length ≤ 4096) : RS w0 (w.setCells p o (xs.map cell)) r f n R (splice L (i * 4096 + o) xs) := by
  have g := grown_setCells w p o (xs.map cell)
  have hm : p ∈ R := List.mem_of_getElem? hp
  have hr : p ≠ r := fun e => h.mem.rR (e ▸ hm)
  have hf : p ≠ f := fun e => h.mem.fR (e ▸ hm)
  obtain ⟨cap, hh, hc⟩ := h.mem.head
  obtain ⟨cur, hcur, ht⟩ := h.mem.table
  have hb : i * 4096 + o + xs.length ≤ L.length := by rw [h.mem.len]; omega
  refine ⟨⟨⟨cap, (g.block r h.mem.rlt (by simpa using Ne.symm hr)).trans hh, hc⟩, ⟨cur, (g.block f h.mem.flt (by simpa using Ne.symm hf)).trans hcur, ht⟩, fun j q hq => ?_, h.mem.num, ?_, h.mem.nodup, h.mem.rf, h.mem.rR, h.mem.fR, h.mem.le⟩,
    h.below.grown g h.below.size (by simpa using h.Rge p hm), h.rge, h.fge, h.Rge⟩
  · have hjn : j < n := by rw [← h.mem.num]; exact (List.getElem?_eq_some_iff.1 hq).1
    by_cases hj : i = j
    · subst hj
      obtain rfl : q = p := by rw [hp] at hq; exact (Option.some.inj hq).symm
      have hlen := pageOf_length h.mem.len i hi
      rw [heap_setCells (h.mem.rows i q hp) (xs.map cell) (by simp; omega) (one_cells xs), pageOf_splice_same h.mem.len hi ho, map_splice]
    · have hne : q ≠ p := fun e => hj (h.mem.nodup i j p hp (e ▸ hq))
      rw [g.block q (h.mem.Rlt q (List.mem_of_getElem? hq)) (by simpa using hne), h.mem.rows j q hq, pageOf_splice_other h.mem.len hi hjn hj ho]
  · rw [length_splice _ _ _ hb, h.mem.len]

/-- What was there and is no row has not turned. -/
def Kept (R : List Nat) (w w' : World) : Prop := ∀ g, g < w.heap.size → g ∉ R → w'.heap[g]? = w.heap[g]?
theorem Kept.grown {p : Nat} (hp : p ∈ R) (g : w.grownBy w' (some p)) : Kept R w w' := fun x hx hR => g.block x hx (by intro e; have e2 := Option.some.inj e; exact hR (e2 ▸ hp))
theorem Kept.none (g : w.grownBy w' none) : Kept R w w' := fun x hx _ => g.block x hx (by simp)
theorem Kept.refl : Kept R w w := fun _ _ _ => rfl
theorem Kept.trans {w'' : World} (h : Kept R w w') (k : Kept R w' w'') (hs : w.heap.size ≤ w'.heap.size) : Kept R w w'' := fun x hx hR => (k x (by omega) hR).trans (h x hx hR)

/-- A memory of the program's, past a call of the document's. -/
theorem St.past {m d k : Nat} {M : List UInt8} (h : St w0 w m d k M) (K : Kept R w w') (b : Below w0.heap.size w0 w') (hm : m ∉ R) (hd : d ∉ R) : St w0 w' m d k M :=
  ⟨⟨(K m h.mlt hm).trans h.mem.head, (K d h.dlt hd).trans h.mem.body, h.mem.len, h.mem.ne, h.mem.pos, h.mem.le⟩, b, h.dge, h.mge⟩

theorem is_any (h : RS w0 w r f n R L) (i : Int) (b : Bool) (hb : decide (0 ≤ i ∧ i < n) = b) :
    Calls Try.prog 47 #[.pointer (some ⟨r, 0, none⟩), .int .i64 i] w fun e w' => e = .returned (.bool b) ∧ w = w' := by
  obtain ⟨cap, hc, _⟩ := h.mem.cellR
  have hle := h.mem.le
  clear h
  subst hb
  by_cases h0 : 0 ≤ i
  · by_cases h1 : i < n
    · have d0 : decide (i ≥ 0) = true := by simpa using h0
      go_enter Try.func47, Try.ntmps47
      go_wp2
      go_ret
      exact ⟨by simp [h0, h1], rfl⟩
    · have h2 : n ≤ i := by omega
      have d0 : decide (i ≥ 0) = true := by simpa using h0
      have d1 : decide (i < n) = false := by simpa using h2
      go_enter Try.func47, Try.ntmps47
      go_wp2
      go_ret
      exact ⟨by simp [h1], rfl⟩
  · have d0 : decide (i ≥ 0) = false := by simpa using h0
    have h2 : i < 0 := by omega
    go_enter Try.func47, Try.ntmps47
    go_wp2
    go_ret
    exact ⟨by simp [h0], rfl⟩

end
end Go.Proofs.Ytlieommbomjdaaa


namespace Go.Proofs.Ytlieommbomjdaaa
open Go.ChangeShapes Go.WideShapes Go.ChangeAt Go.RowKit Go.Deep
open Extern.Stop (cell)
set_option linter.unusedVariables false

theorem splice_snoc {α : Type} {L xs : List α} {o : Nat} {y : α} (h : o + xs.length + 1 ≤ L.length) : splice (splice L o xs) (o + xs.length) [y] = splice L o (xs ++ [y]) := by
  apply List.ext_getElem?
  intro k
  rw [get_splice _ _ _ (by rw [length_splice _ _ _ (by omega)]; simp; omega), get_splice _ _ _ (by omega), get_splice _ _ _ (by simp; omega)]
  simp only [List.length_append, List.length_singleton]
  by_cases h1 : k < o
  · rw [if_pos (by omega), if_pos h1, if_pos h1]
  · rw [if_neg h1, if_neg h1]
    by_cases h2 : k < o + xs.length
    · rw [if_pos h2, if_pos h2, if_pos (by omega), List.getElem?_append_left (by omega)]
    · rw [if_neg h2, if_neg h2]
      by_cases h3 : k < o + xs.length + 1
      · rw [if_pos h3, if_pos (by omega), List.getElem?_append_right (by omega)]
        congr 1
        omega
      · rw [if_neg h3, if_neg (by omega)]

theorem splice_over {α : Type} {L : List α} {o : Nat} {y z : α} (h : o + 1 ≤ L.length) : splice (splice L o [y]) o [z] = splice L o [z] := by
  apply List.ext_getElem?
  intro k
  rw [get_splice _ _ _ (by rw [length_splice _ _ _ (by simp; omega)]; simp; omega), get_splice _ _ _ (by simp; omega), get_splice _ _ _ (by simp; omega)]
  simp only [List.length_singleton]
  by_cases h1 : k < o
  · rw [if_pos h1, if_pos h1, if_pos h1]
  · rw [if_neg h1, if_neg h1, if_neg h1]
    by_cases h2 : k < o + 1
    · rw [if_pos h2, if_pos h2]
    · rw [if_neg h2, if_neg h2, if_neg h2]

/-- The number of the bytes from q on. -/
def restv (xs : List UInt8) (q : Nat) : Int := (wordOf (xs.drop q) : Nat)
theorem restv_end (xs : List UInt8) (h : xs.length = 8) : restv xs 8 = 0 := by
  rw [restv, List.drop_of_length_le (by omega)]; rfl
theorem restv_zero (xs : List UInt8) : restv xs 0 = (wordOf xs : Nat) := by simp [restv]
theorem restv_step (xs : List UInt8) (t : Nat) (h : xs.length = 8) (ht : t < 8) : IntKind.u64.wrap (IntKind.u64.wrap (restv xs (t + 1) * 256) + ((xs.getD t 0).toNat : Int)) = restv xs t := by
  have hd : xs.drop t = xs.getD t 0 :: xs.drop (t + 1) := by
    rw [List.drop_eq_getElem_cons (by omega)]
    simp [List.getD, List.getElem?_eq_getElem (show t < xs.length by omega)]
  have e : wordOf (xs.drop t) = (xs.getD t 0).toNat + 256 * wordOf (xs.drop (t + 1)) := by rw [hd]; rfl
  have hlt := wordOf_lt (xs.drop t)
  have hl : (xs.drop t).length ≤ 8 := by simp; omega
  have hp : 256 ^ (xs.drop t).length ≤ 256 ^ 8 := Nat.pow_le_pow_right (by omega) hl
  have h64 : (256 : Nat) ^ 8 = 18446744073709551616 := by decide
  rw [h64] at hp
  unfold restv
  rw [e]
  rw [e] at hlt
  generalize (xs.getD t 0).toNat = x at *
  generalize wordOf (xs.drop (t + 1)) = y at *
  generalize 256 ^ (xs.drop t).length = P at *
  simp [IntKind.wrap, IntKind.signed, IntKind.bits]
  omega

section
variable {w0 w w' : World} {r f n : Nat} {R : List Nat} {L : List UInt8}

theorem rword_no (h : RS w0 w r f n R L) (i j : Int) (hij : ¬ ((0 ≤ i ∧ i < n) ∧ (0 ≤ j ∧ j < 512))) :
    Calls Try.prog 48 #[.pointer (some ⟨r, 0, none⟩), .int .i64 i, .int .i64 j] w fun e w' => e = .returned (.tuple #[.int .u64 0, .bool false]) ∧ w = w' := by
  have H := Lib.hid h
  clear h
  by_cases h1 : 0 ≤ i ∧ i < n
  · have HI := Lib.hid (is_any H.out i true (by simpa using h1))
    by_cases h2 : j < 0
    · clear hij h1
      go_enter Try.func48, Try.ntmps48
      go_wp2_with (go_at_call 47; refine (Calls.mono HI.out ?_); rintro e w' ⟨rfl, rfl⟩)
      go_ret2
      exact ⟨rfl, rfl⟩
    · have d0 : decide (j < 0) = false := by simpa using h2
      have h3 : 512 ≤ j := by omega
      clear hij h1
      go_enter Try.func48, Try.ntmps48
      go_wp2_with (go_at_call 47; refine (Calls.mono HI.out ?_); rintro e w' ⟨rfl, rfl⟩)
      go_ret2
      exact ⟨rfl, rfl⟩
  · have HI := Lib.hid (is_any H.out i false (by simpa using h1))
    clear hij h1
    go_enter Try.func48, Try.ntmps48
    go_wp2_with (go_at_call 47; refine (Calls.mono HI.out ?_); rintro e w' ⟨rfl, rfl⟩)
    go_ret2
    exact ⟨rfl, rfl⟩

set_option maxHeartbeats 1000000 in
theorem rword_ok (h : RS w0 w r f n R L) (i j : Nat) (hi : i < n) (hj : j < 512) :
    Calls Try.prog 48 #[.pointer (some ⟨r, 0, none⟩), .int .i64 i, .int .i64 j] w fun e w' => e = .returned (.tuple #[.int .u64 (wordOf ((L.drop (i * 4096 + j * 8)).take 8)), .bool true]) ∧ w = w' := by
  have HI := Lib.hid (is_any h i true (by simp; omega))
  obtain ⟨cap, hc, hcap⟩ := h.mem.cellR
  obtain ⟨p, hp, hpc, hrow⟩ := h.mem.row i hi
  have hle := h.mem.le
  have HC : Hid (∀ t, t < 8 → w.cell? ⟨p, 8 * j + t, none⟩ = some (.int .u8 (((L.drop (i * 4096 + j * 8)).take 8).getD t 0).toNat)) := by
    intro t ht
    rw [cell_of_bytes hrow (8 * j + t) (by rw [pageOf_length h.mem.len i hi]; omega)]
    simp only [List.getD]
    rw [pageOf_get _ _ _ (by omega), List.getElem?_take, if_pos ht, List.getElem?_drop, show i * 4096 + j * 8 + t = i * 4096 + (8 * j + t) by omega]
  have HL : Hid (((L.drop (i * 4096 + j * 8)).take 8).length = 8) := by show _ = _; simp; have := h.mem.len; omega
  generalize (L.drop (i * 4096 + j * 8)).take 8 = xs at *
  have d0 : decide ((j : Int) < 0) = false := by simp
  have d1 : decide ((j : Int) ≥ 512) = false := by simp; omega
  clear h hrow hp
  go_enter Try.func48, Try.ntmps48
  go_wp2_with (go_at_call 47; refine (Calls.mono HI.out ?_); rintro e w' ⟨rfl, rfl⟩)
  go_loop [8, 9] (fun s k => ∃ q : Nat, q ≤ 8 ∧ k = .int .i64 ((q : Int) - 1) ∧ s = .int .u64 (restv xs q)) (fun _ k => (intOf k + 1).toNat)
  case atStart => exact ⟨8, by omega, rfl, by rw [restv_end _ HL.out]⟩
  case round =>
    obtain ⟨q, hq, rfl, rfl⟩ := hrel
    by_cases hlt : 0 < q
    · obtain ⟨t, rfl⟩ : ∃ t, q = t + 1 := ⟨q - 1, by omega⟩
      clear hlt
      have hx := HC.out t (by omega)
      obtain ⟨x, hxx⟩ : ∃ x : Nat, x = (xs.getD t 0).toNat := ⟨_, rfl⟩
      have hx2 : x < 256 := by rw [hxx]; exact (xs.getD t 0).toNat_lt
      rw [← hxx] at hx
      have HX := Lib.hid hxx
      clear hxx
      go_wp2
      go_round
      case rel =>
        refine ⟨t, by omega, by go_num, ?_⟩
        rw [← restv_step xs t HL.out (by omega), HX.out]
      case measure => simp [intOf]
    · obtain rfl : q = 0 := by omega
      have HZ := Lib.hid (restv_zero xs)
      go_wp2
      go_ret2
      refine ⟨?_, rfl⟩
      rw [← HZ.out]
      rfl

end
end Go.Proofs.Ytlieommbomjdaaa

namespace Go.Proofs.Ytlieommbomjdaaa
open Go.ChangeShapes Go.WideShapes Go.ChangeAt Go.RowKit Go.Deep
open Extern.Stop (cell)
set_option linter.unusedVariables false

/-- Bytes that lie in no row read the same past a call of the document's. -/
theorem Src.past {w w' : World} {R : List Nat} {s : Option Addr} {l : Nat} {bs : List UInt8} (h : Src w s l bs) (K : Kept R w w') (hs : l ≠ 0 → ∀ a, s = some a → a.block ∉ R) : Src w' s l bs := by
  refine ⟨h.1, ?_⟩
  by_cases hl : l = 0
  · exact .inl hl
  · rcases h.2 with h0 | ⟨g, o, rfl, hr⟩
    · exact absurd h0 hl
    · refine .inr ⟨g, o, rfl, range_kept hr (K g ?_ (hs hl _ rfl))⟩
      obtain ⟨x, hx⟩ : ∃ x, (bs.map Extern.Stop.cell)[0]? = some x := by
        cases bs with
        | nil => simp [← h.1] at hl
        | cons x r => exact ⟨_, rfl⟩
      exact World.block_lt_of_cell? w _ (hr 0 x hx)

section
variable {w0 w w' : World} {r f n : Nat} {R : List Nat} {L : List UInt8}

theorem RS.alike (h : RS w0 w r f n R L) (e1 : w'.heap = w.heap) (e2 : w'.os = w.os) (e3 : w'.tape = w.tape) (e4 : w'.output = w.output) : RS w0 w' r f n R L :=
  ⟨h.mem.same (by rw [e1]) (by rw [e1]) fun p _ => by rw [e1], ⟨e2.trans h.below.os, e3.trans h.below.tape, e4.trans h.below.output, by rw [e1]; exact h.below.size, fun k hk => by rw [e1]; exact h.below.block k hk⟩, h.rge, h.fge, h.Rge⟩
theorem Kept.alike {w'' : World} (h : Kept R w w') (e : w''.heap = w'.heap) : Kept R w w'' := fun g hg hR => by rw [e]; exact h g hg hR

theorem rfill_no (h : RS w0 w r f n R L) (i : Int) (s : Option Addr) (l c : Nat) (hi : ¬ (0 ≤ i ∧ i < n)) :
    Calls Try.prog 53 #[.pointer (some ⟨r, 0, none⟩), .int .i64 i, .slice s l c] w fun e w' => e = .returned (.bool false) ∧ w = w' := by
  have HI := Lib.hid (is_any h i false (by simpa using hi))
  clear h hi
  go_enter Try.func53, Try.ntmps53
  go_wp2_with (go_at_call 47; refine (Calls.mono HI.out ?_); rintro e w' ⟨rfl, rfl⟩)
  go_ret
  exact ⟨rfl, rfl⟩

set_option maxHeartbeats 1000000 in
set_option maxRecDepth 100000 in
theorem rfill_ok (h : RS w0 w r f n R L) (i : Nat) (hi : i < n) (s : Option Addr) (l c : Nat) (bs : List UInt8) (hs : Src w s l bs) (hl63 : l ≤ 9223372036854775807) (hsep : l ≠ 0 → ∀ a, s = some a → a.block ∉ R) :
    Calls Try.prog 53 #[.pointer (some ⟨r, 0, none⟩), .int .i64 i, .slice s l c] w fun e w' =>
      e = .returned (.bool true) ∧ RS w0 w' r f n R (splice L (i * 4096) (fillOf bs)) ∧ Kept R w w' := by
  have HI := Lib.hid (is_any h i true (by simp; omega))
  have H := Lib.hid h
  have HL := Lib.hid h.mem.len
  have hle := h.mem.le
  have HS0 := Lib.hid hs
  have HSEP := Lib.hid hsep
  clear h hs hsep hl63
  go_enter Try.func53, Try.ntmps53
  go_wp2_with (go_at_call 47; refine (Calls.mono HI.out ?_); rintro e w' ⟨rfl, rfl⟩)
  go_loopw [7] (fun k wr => ∃ q : Nat, q ≤ 4096 ∧ k = .int .i64 q ∧ RS w0 wr r f n R (splice L (i * 4096) ((fillOf bs).take q)) ∧ Kept R w wr ∧ w.heap.size ≤ wr.heap.size) (fun k _ => 4096 - (intOf k).toNat)
  case atStart => exact ⟨0, by omega, rfl, by rw [List.take_zero, splice_nil]; exact H.out, Kept.refl, Nat.le_refl _⟩
  case round =>
    obtain ⟨q, hq, rfl, hS, hK, hsz⟩ := hrel
    have HS := Lib.hid hS
    have HK := Lib.hid hK
    by_cases hlt : q < 4096
    · obtain ⟨cap, hc, hcap⟩ := hS.mem.cellR
      obtain ⟨p, hp, hpc, hrow⟩ := hS.mem.row i hi
      have hcx := cell_of_bytes hrow q (by rw [pageOf_length hS.mem.len i hi]; omega)
      have hf := frozen_of_row wr p q _ _ hrow
      have hlen : ((fillOf bs).take q).length = q := by simp [fillOf_length]; omega
      have hpm : p ∈ R := List.mem_of_getElem? hp
      have hpr : p ≠ r := fun e => hS.mem.rR (e ▸ hpm)
      have hpf : p ≠ f := fun e => hS.mem.fR (e ▸ hpm)
      have key : ∀ y : UInt8, y = (fillOf bs).getD q 0 → RS w0 (wr.setCells p q [cell y]) r f n R (splice L (i * 4096) ((fillOf bs).take (q + 1))) ∧ Kept R w (wr.setCells p q [cell y]) ∧ w.heap.size ≤ (wr.setCells p q [cell y]).heap.size := by
        intro y hy
        have h1 := hS.stored i q p [y] hi hp (by simp; omega)
        have hs : (fillOf bs).take (q + 1) = (fillOf bs).take q ++ [y] := by
          rw [List.take_add_one, List.getElem?_eq_getElem (by rw [fillOf_length]; omega), hy]
          simp [List.getD, List.getElem?_eq_getElem (show q < (fillOf bs).length by rw [fillOf_length]; omega)]
        have e2 := splice_snoc (L := L) (xs := (fillOf bs).take q) (o := i * 4096) (y := y) (by rw [hlen, HL.out]; omega)
        rw [hlen] at e2
        rw [e2, ← hs] at h1
        exact ⟨h1, hK.trans (Kept.grown hpm (grown_setCells _ _ _ _)) hsz, by rw [size_setCells]; exact hsz⟩
      by_cases hin : q < l
      · have hget : (fillOf bs).getD q 0 = bs.getD q 0 := fillOf_getD_in bs q (by rw [HS0.out.1]; exact hin) hlt
        have hb : s ≠ none := by
          rintro rfl
          rcases HS0.out.2 with h0 | ⟨g, o, h0, _⟩
          · omega
          · simp at h0
        obtain ⟨g, o, rfl, hc1⟩ := (HS0.out.past HK.out HSEP.out).cell q hin
        have hgR := HSEP.out (by omega) _ rfl
        have hgp : g ≠ p := fun e => hgR (e ▸ hpm)
        have G := grown_setCells wr p q [.int .u8 0]
        have hw5 : ∃ w5, w5 = wr.setCell ⟨p, q, none⟩ (.int .u8 0) := ⟨_, rfl⟩
        obtain ⟨w5, hw5⟩ := hw5
        have h5 : wr.setCells p q [.int .u8 0] = w5 := hw5.symm
        rw [h5] at G
        have hother : ∀ b o, b ≠ p → w5.cell? ⟨b, o, none⟩ = wr.cell? ⟨b, o, none⟩ := fun b o hb => by rw [hw5]; exact World.cell?_setCell_other _ _ _ _ (by simp [hb])
        have HC5 : Hid (w5.cell? ⟨r, 0, none⟩ = some (.slice (some ⟨f, 0, none⟩) n cap) ∧ w5.cell? ⟨f, i, none⟩ = some (.slice (some ⟨p, 0, none⟩) 4096 4096) ∧ w5.cell? ⟨g, o + q, none⟩ = some (.int .u8 (bs.getD q 0).toNat) ∧ w5.cell? ⟨p, q, none⟩ = some (.int .u8 0) ∧ w5.frozen? ⟨p, q, none⟩ = false) :=
          ⟨(hother _ _ (Ne.symm hpr)).trans hc, (hother _ _ (Ne.symm hpf)).trans hpc, (hother _ _ hgp).trans hc1, by rw [hw5]; exact World.cell?_setCell_same _ _ _ hcx, by rw [hw5, World.frozen?_setCell]; exact hf⟩
        have hfin : ∀ w6, w6.heap = ((w5.setCell ⟨p, q, none⟩ (.int .u8 (bs.getD q 0).toNat))).heap → w6.os = w5.os → w6.tape = w5.tape → w6.output = w5.output → RS w0 w6 r f n R (splice L (i * 4096) ((fillOf bs).take (q + 1))) ∧ Kept R w w6 ∧ w.heap.size ≤ w6.heap.size := by
          intro w6 e1 e2 e3 e4
          have h1 := hS.stored i q p [0] hi hp (by simp; omega)
          have h2 := h1.stored i q p [bs.getD q 0] hi hp (by simp; omega)
          have hb2 : i * 4096 + q + 1 ≤ (splice L (i * 4096) ((fillOf bs).take q)).length := by rw [hS.mem.len]; omega
          rw [splice_over hb2] at h2
          have hs : (fillOf bs).take (q + 1) = (fillOf bs).take q ++ [bs.getD q 0] := by
            rw [List.take_add_one, List.getElem?_eq_getElem (by rw [fillOf_length]; omega), ← hget]
            simp [List.getD, List.getElem?_eq_getElem (show q < (fillOf bs).length by rw [fillOf_length]; omega)]
          have e5 := splice_snoc (L := L) (xs := (fillOf bs).take q) (o := i * 4096) (y := bs.getD q 0) (by rw [hlen, HL.out]; omega)
          rw [hlen] at e5
          rw [e5, ← hs] at h2
          have e6 : (wr.setCells p q ([0].map cell)).setCells p q ([bs.getD q 0].map cell) = w5.setCell ⟨p, q, none⟩ (.int .u8 (bs.getD q 0).toNat) := by rw [hw5]; rfl
          rw [e6] at h2
          have G6 := grown_setCells w5 p q [.int .u8 (bs.getD q 0).toNat]
          have K6 : Kept R w (w5.setCell ⟨p, q, none⟩ (.int .u8 (bs.getD q 0).toNat)) := (hK.trans (Kept.grown hpm G) hsz).trans (Kept.grown hpm G6) (by have := G.size; omega)
          refine ⟨h2.alike e1 (e2.trans G6.os.symm) (e3.trans G6.tape.symm) (e4.trans G6.output.symm), K6.alike e1, ?_⟩
          rw [e1]
          have := G.size
          have := G6.size
          show w.heap.size ≤ (w5.setCells p q [.int .u8 (bs.getD q 0).toNat]).heap.size
          omega
        have HFIN := Lib.hid hfin
        have HW5 := Lib.hid hw5
        obtain ⟨k1, k2, k3, k4, k5⟩ := HC5.out
        generalize (bs.getD q 0).toNat = y at *
        generalize (((pageOf (splice L (i * 4096) ((fillOf bs).take q)) i).getD q 0).toNat : Int) = z at *
        clear hS hK hrow hp hlen key hget hother hfin hw5 h5 G
        go_wp2_with fail
        rw [← HW5.out]
        go_region
        go_wp2_with fail
        go_roundw
        case rel =>
          have hh := HFIN.out (w5.setCell ⟨p, q, none⟩ (.int .u8 y)).drew rfl rfl rfl rfl
          exact ⟨q + 1, by omega, by go_num, hh.1, hh.2.1, hh.2.2⟩
        case measure => simp [intOf]; omega
      · have hget : (fillOf bs).getD q 0 = 0 := fillOf_getD_out bs q (by rw [HS0.out.1]; omega)
        have HF := Lib.hid (key 0 hget.symm)
        have hout : l ≤ q := by omega
        generalize (((pageOf (splice L (i * 4096) ((fillOf bs).take q)) i).getD q 0).toNat : Int) = z at *
        clear hS hK hrow hp hlen key hget
        go_wp2
        go_roundw
        case rel => exact ⟨q + 1, by omega, by go_num, HF.out.1, HF.out.2.1, HF.out.2.2⟩
        case measure => simp [intOf]; omega
    · have hx : (fillOf bs).take q = fillOf bs := List.take_of_length_le (by rw [fillOf_length]; omega)
      rw [hx] at HS
      clear hS hK hx
      go_wp2
      go_ret
      exact ⟨rfl, HS.out, HK.out⟩

theorem fillOf_nil : fillOf [] = zeroPage := rfl

theorem grown_alloc_then {w w2 : World} {o : Obj} (h : (w.alloc o).grownBy w2 (some w.heap.size)) : w.grownBy w2 none := by
  refine ⟨h.os, h.tape, h.output, by have := h.size; simp at this; omega, fun k hk _ => ?_⟩
  rw [h.block k (by simp; omega) (by simp; omega)]
  exact heap_alloc_old w o hk

end
end Go.Proofs.Ytlieommbomjdaaa

namespace Go.Proofs.Ytlieommbomjdaaa
open Go.ChangeShapes Go.WideShapes Go.ChangeAt Go.RowKit Go.Deep
open Extern.Stop (cell)
set_option linter.unusedVariables false

/-- A row's slice. -/
def sl (p : Nat) : Value := .slice (some ⟨p, 0, none⟩) 4096 4096

theorem made_bytes (N : Nat) : madeCells #[Value.int .u8 0] N = ((List.replicate N (0 : UInt8)).map cell).toArray := by
  apply Array.ext
  · simp [madeCells]
  · intro i h1 h2
    simp [madeCells, cell, Nat.mod_one]

theorem run_make_page (W : World) : (Instr.makeSlice 94 (.int .i64 4096) (.int .i64 4096)).run Try.prog W = .ok (.slice (some ⟨W.heap.size, 0, none⟩) 4096 4096) (W.alloc (.cells (zeroPage.map cell).toArray 5)) := by
  obtain ⟨i0, hi, hz0, hz1, hz2⟩ := info_parts (show (Try.prog.info? 5).map (fun i => (i.zero, i.size, i.bytes)) = some (some (.int .u8 0), 1, 1) by kernel_rfl)
  have hr := run_make (P := Try.prog) W 94 5 i0 _ Try.underlying94 hi hz0 .i64 .i64 4096 4096 (by omega) (by omega) (by rw [hz2]; omega) (by omega)
  rw [hr, hz1]
  have e : Int.toNat 4096 = 4096 := rfl
  rw [e, Nat.mul_one]
  simp only [Value.cells]
  rw [made_bytes]
  rfl

/-- append(table, row) as one step of a region that draws. -/
theorem step_append_tab {ops : Array Oper} {o : Oper} {a : Act} {w : World} {K : Act → World → Prop} {Q : Exit → Act → World → Prop} {E : Prop}
    (hg : o.guard = none) (s x : Operand) (hop : o.op = Op.call { callee := Callee.builtin Builtin.append, args := #[s, x], argTypes := #[90, 90] })
    (base : Nat) (v : Value) (q : Nat) (xs : List Value) (hs : a.eval s = v) (hown : w.ownsRow base 94 1 v q xs)
    (ad : Addr) (c : Nat) (p : Nat) (hx : a.eval x = .slice (some ad) 1 c) (hc : w.cell? ad = some (sl p)) (b1 : q ≤ 256) (hbase : base ≤ w.heap.size)
    (hK : ∀ f cap w', base ≤ f → w'.ownsRow base 94 1 (.slice (some ⟨f, 0, none⟩) (q + 1) cap) (q + 1) (xs ++ [sl p]) → w.grownBy w' v.ownBlock → K (a.put o.dst (.slice (some ⟨f, 0, none⟩) (q + 1) cap)) w') :
    if Region.wanted o (yielded ops a.tmps) = true then Oper.wp Try.prog o a w K Q else E := by
  have hw : Region.wanted o (yielded ops a.tmps) = true := by simp [Region.wanted, hg]
  rw [if_pos hw]
  obtain ⟨i0, hi, hz0, hz1, hz2⟩ := info_parts (show (Try.prog.info? 94).map (fun i => (i.zero, i.size, i.bytes)) = some (some (.slice none 0 0), 1, 24) by kernel_rfl)
  obtain ⟨v', w', hrun, hown', hgr, hnil⟩ := run_append_own (P := Try.prog) w base 90 o.type 94 i0 (.slice none 0 0) 1 24 Try.underlying90 hi hz0 hz1 hz2 rfl (by omega) v q xs hown ad 1 c [sl p]
    (by simp) (fun j u hu => by
      cases j with
      | zero => simp at hu; subst hu; simpa [Addr.add] using hc
      | succ j => simp at hu) (by simp [sl, Value.oneCell']) (by unfold maxLen; omega) (by omega) hbase
  obtain ⟨hlen, hor⟩ := hown'
  rcases hor with ⟨hn, h0⟩ | ⟨f, cap, cur, rfl, hbf, hcell, hle, hcm, hsz, htk⟩
  · omega
  · have hfin := hK f cap w' hbf ⟨hlen, .inr ⟨f, cap, cur, rfl, hbf, hcell, hle, hcm, hsz, htk⟩⟩ hgr
    unfold Oper.wp
    simp [execOp, hop, resolve, invoke, builtin, hs, hx, hrun, Result.andThen]
    exact hfin

/-- The world in New's loop: q rows are there. -/
structure NewW (w wr : World) (r q : Nat) (R : List Nat) (v : Value) : Prop where
  below : Below w.heap.size w wr
  rge : w.heap.size ≤ r
  head : wr.heap[r]? = some (.cells #[v] 92 (0, 0))
  own : wr.ownsRow (r + 1) 94 1 v q (R.map sl)
  rows : ∀ p ∈ R, wr.heap[p]? = some (.cells (zeroPage.map cell).toArray 5 (0, 0))
  nodup : R.Nodup
  Rge : ∀ p ∈ R, w.heap.size ≤ p

theorem own_ne {w : World} {r q : Nat} {v : Value} {b : Nat} {cs : Array Value} {t : TypeId} {xs : List Value} (h : w.ownsRow r 94 1 v q xs) (hb : w.heap[b]? = some (.cells cs t (0, 0))) (ht : t ≠ 94) : v.ownBlock ≠ some b := by
  rcases h.2 with ⟨rfl, _⟩ | ⟨g, cap, cur, rfl, _, hg, _⟩
  · simp [Value.ownBlock]
  · intro e
    simp only [Value.ownBlock, Option.some.injEq] at e
    subst e
    rw [hg] at hb
    simp only [Option.some.injEq, Obj.cells.injEq] at hb
    exact ht hb.2.1.symm

theorem NewW.step {w wr w2 : World} {r q p f cap : Nat} {R : List Nat} {v : Value} (h : NewW w wr r q R v) (hp : wr.heap.size ≤ p)
    (g1 : wr.grownBy w2 v.ownBlock) (hprow : w2.heap[p]? = some (.cells (zeroPage.map cell).toArray 5 (0, 0)))
    (ho : w2.ownsRow (r + 1) 94 1 (.slice (some ⟨f, 0, none⟩) (q + 1) cap) (q + 1) (R.map sl ++ [sl p])) :
    NewW w (w2.setCell ⟨r, 0, none⟩ (.slice (some ⟨f, 0, none⟩) (q + 1) cap)) r (q + 1) (R ++ [p]) (.slice (some ⟨f, 0, none⟩) (q + 1) cap) := by
  have hrlt := (Array.getElem?_eq_some_iff.1 h.head).1
  have hvr : some r ≠ v.ownBlock := Ne.symm (own_ne h.own h.head (by decide))
  have hhead2 : w2.heap[r]? = some (.cells #[v] 92 (0, 0)) := (g1.block r hrlt hvr).trans h.head
  have hf := own_ne ho hhead2 (by decide)
  have hvb : ∀ k, v.ownBlock = some k → w.heap.size ≤ k := fun k hk => by have := (h.own.lt k hk).1; have := h.rge; omega
  have hrow : ∀ x ∈ R, x ≠ r ∧ x < wr.heap.size := by
    intro x hx
    have h3 := h.rows x hx
    refine ⟨fun e => ?_, (Array.getElem?_eq_some_iff.1 h3).1⟩
    rw [e, h.head] at h3
    simp at h3
  refine ⟨(h.below.grown g1 h.below.size hvb).setCell h.rge _, h.rge, heap_setCell_same w2 r 0 _ _ _ hhead2, ?_, ?_, ?_, ?_⟩
  · rw [List.map_append, List.map_singleton]
    refine ⟨ho.1, ?_⟩
    rcases ho.2 with ⟨hn, _⟩ | ⟨g, cap', cur, hv, hb, hg, rest⟩
    · cases hn
    · refine .inr ⟨g, cap', cur, hv, hb, ?_, rest⟩
      rw [heap_setCell_other _ _ _ _ (by simp only; intro e; subst e; rw [hv] at hf; exact hf rfl)]
      exact hg
  · intro x hx
    rw [List.mem_append, List.mem_singleton] at hx
    rcases hx with hx | rfl
    · rw [heap_setCell_other _ _ _ _ (by simpa using (hrow x hx).1), g1.block x (hrow x hx).2 (Ne.symm (own_ne h.own (h.rows x hx) (by decide)))]
      exact h.rows x hx
    · rw [heap_setCell_other _ _ _ _ (by simp only; omega)]
      exact hprow
  · rw [List.nodup_append]
    refine ⟨h.nodup, by simp, fun x hx y hy e => ?_⟩
    simp at hy
    subst hy e
    have := (hrow x hx).2
    omega
  · intro x hx
    rw [List.mem_append, List.mem_singleton] at hx
    rcases hx with hx | rfl
    · exact h.Rge x hx
    · have := h.below.size
      omega

set_option maxHeartbeats 1000000 in
theorem rnew_ok (n : Nat) (w : World) (h1 : 1 ≤ n) (h2 : n ≤ 256) :
    Calls Try.prog 52 #[.int .i64 n] w fun e w' => e = .returned (.pointer (some ⟨w.heap.size, 0, none⟩)) ∧ ∃ R v, NewW w w' w.heap.size n R v := by
  have hmk := run_make_page
  have d0 : decide ((n : Int) < 1) = false := by simp; omega
  have d1 : decide ((n : Int) > 256) = false := by simp; omega
  go_enter Try.func52, Try.ntmps52
  go_wp2_with fail
  go_loopw [4] (fun k wr => ∃ (q : Nat) (R : List Nat) (v : Value), q ≤ n ∧ k = .int .i64 q ∧ NewW w wr w.heap.size q R v) (fun k _ => n - (intOf k).toNat)
  case atStart => exact ⟨0, [], .slice none 0 0, by omega, rfl, ⟨(Below.refl _ _).alloc (Nat.le_refl _) _, Nat.le_refl _, heap_alloc_new w _, World.ownsRow_nil _ _ _ _, by simp, by simp, by simp⟩⟩
  case round =>
    obtain ⟨q, R, v, hq, rfl, hN⟩ := hrel
    have HN := Lib.hid hN
    by_cases hlt : q < n
    · have hc : wr.cell? ⟨w.heap.size, 0, none⟩ = some v := by rw [cell_of_row _ _ _ _ _ _ hN.head]; rfl
      have hcA : ∀ o, (wr.alloc o).cell? ⟨w.heap.size, 0, none⟩ = some v := fun o => Lib.cell?_alloc_some o hc
      have hcB : ∀ o o', ((wr.alloc o).alloc o').cell? ⟨w.heap.size, 0, none⟩ = some v := fun o o' => Lib.cell?_alloc_some o' (hcA o)
      have HV : Hid (∀ k, v.ownBlock = some k → k < wr.heap.size) := fun k hk => (hN.own.lt k hk).2
      have HR : Hid (w.heap.size < wr.heap.size) := (Array.getElem?_eq_some_iff.1 hN.head).1
      have HVR : Hid (v.ownBlock ≠ some w.heap.size) := own_ne hN.own hN.head (by decide)
      have HO : Hid (∀ o o', ((wr.alloc o).alloc o').drew.ownsRow (w.heap.size + 1) 94 1 v q (R.map sl)) := fun o o' => ((hN.own.alloc o).alloc o').drew
      have HF : Hid (∀ o o' w2, ((wr.alloc o).alloc o').drew.grownBy w2 v.ownBlock → wr.grownBy w2 v.ownBlock) := fun o o' w2 g =>
        grown_trans (grown_none (World.grownBy_alloc wr o none)) (grown_trans (grown_none (World.grownBy_alloc _ o' none)) (grown_trans (grown_drewN _ 1 _) g))
      have HPR : Hid (∀ o', ((wr.alloc (.cells (zeroPage.map cell).toArray 5)).alloc o').drew.heap[wr.heap.size]? = some (.cells (zeroPage.map cell).toArray 5 (0, 0))) := fun o' => by
        show ((wr.alloc (.cells (zeroPage.map cell).toArray 5)).alloc o').heap[wr.heap.size]? = _
        exact heap_alloc2_old wr _ o'
      have HCELL : Hid (∀ o, ((wr.alloc o).alloc (.cells #[sl wr.heap.size] 94)).drew.cell? ⟨wr.heap.size + 1, 0, none⟩ = some (sl wr.heap.size)) := fun o => by
        show ((wr.alloc o).alloc (.cells #[sl wr.heap.size] 94)).cell? ⟨wr.heap.size + 1, 0, none⟩ = _
        rw [cell_of_row _ _ _ _ _ _ (heap_alloc2_new wr o _)]
        rfl
      clear hN
      go_wp2_with fail
      go_region_law (refine step_append_tab rfl _ _ rfl (w.heap.size + 1) v q (R.map sl) rfl (HO.out _ _) ⟨wr.heap.size + 1, 0, none⟩ _ wr.heap.size rfl (HCELL.out _) (by omega) (by have := HR.out; simp; omega) ?_; intro f cap w2 hbf hown hG; have hg1 := HF.out _ _ _ hG; have hp2 := blk_kept (HPR.out _) hG (by intro e; have := HV.out _ e; omega); have hh2 := blk_kept HN.out.head hg1 HVR.out; have hc2 : w2.cell? ⟨w.heap.size, 0, none⟩ = some v := (by rw [cell_of_row _ _ _ _ _ _ hh2]; rfl); have hf2 := frozen_of_row w2 w.heap.size 0 _ _ hh2; have HST := Lib.hid (HN.out.step (Nat.le_refl _) hg1 hp2 hown); clear hG hg1 hp2 hh2 hown)
      all_goals
        go_wp2_with fail
        go_roundw
        case rel => exact ⟨q + 1, _, _, by omega, by go_num, HST.out⟩
        case measure => simp [intOf]; omega
    · obtain rfl : q = n := by omega
      clear hN
      go_wp2_with fail
      go_ret
      exact ⟨rfl, R, v, HN.out⟩

theorem rnew_no (n : Int) (w : World) (h : ¬ (1 ≤ n ∧ n ≤ 256)) :
    Calls Try.prog 52 #[.int .i64 n] w fun e w' => e = .returned (.pointer none) ∧ w = w' := by
  by_cases h0 : n < 1
  · go_enter Try.func52, Try.ntmps52
    go_wp2
    go_ret
    exact ⟨rfl, rfl⟩
  · have hd : decide (n < 1) = false := by simpa using h0
    have hd2 : 256 < n := by omega
    clear h
    go_enter Try.func52, Try.ntmps52
    go_wp2
    go_ret
    exact ⟨rfl, rfl⟩
end Go.Proofs.Ytlieommbomjdaaa

namespace Go.Proofs.Ytlieommbomjdaaa
open Go.ChangeShapes Go.WideShapes Go.ChangeAt Go.RowKit Go.Deep
open Extern.Stop (cell)
set_option linter.unusedVariables false

theorem pageOf_noughts (n i : Nat) (hi : i < n) : pageOf (List.replicate (n * 4096) (0 : UInt8)) i = zeroPage := by
  unfold pageOf zeroPage
  rw [List.drop_replicate, List.take_replicate]
  congr 1
  omega

theorem nodup_idx {R : List Nat} (h : R.Nodup) (i j p : Nat) (hi : R[i]? = some p) (hj : R[j]? = some p) : i = j := by
  exact (List.getElem?_inj (List.getElem?_eq_some_iff.1 hi).1 h).1 (hi.trans hj.symm)

theorem NewW.rs {w0 w w' : World} {r n : Nat} {R : List Nat} {v : Value} (h : NewW w w' r n R v) (hb : Below w0.heap.size w0 w) (h1 : 1 ≤ n) (h2 : n ≤ 256) : ∃ f, RS w0 w' r f n R (List.replicate (n * 4096) 0) := by
  have hw := hb.size
  have hr := h.rge
  have hown := h.own
  have hlen := hown.1
  rcases hown.2 with ⟨_, h0⟩ | ⟨f, cap, cur, rfl, hbf, hf, hle, _, hsz, htk⟩
  · omega
  · have hfR : f ∉ R := fun e => by
      have := h.rows f e
      rw [hf] at this
      simp only [Option.some.injEq, Obj.cells.injEq] at this
      exact absurd this.2.1 (by decide)
    have hrR : r ∉ R := fun e => by
      have := h.rows r e
      rw [h.head] at this
      simp only [Option.some.injEq, Obj.cells.injEq] at this
      exact absurd this.2.1 (by decide)
    refine ⟨f, ⟨⟨⟨cap, h.head, hle⟩, ⟨cur, hf, fun i p hi => ?_⟩, fun i p hi => ?_, by simpa using hlen, by simp, nodup_idx h.nodup, by omega, hrR, hfR, h2⟩, hb.trans (h.below.mono hw), by omega, by omega, fun p hp => by have := h.Rge p hp; omega⟩⟩
    · have h3 := congrArg (fun z => z[i]?) htk
      have hin : i < n := by
        have := (List.getElem?_eq_some_iff.1 hi).1
        have := hlen
        simp at this
        omega
      rw [List.getElem?_take, if_pos (by omega), List.getElem?_map, hi, Array.getElem?_toList] at h3
      exact h3
    · have hin : i < n := by
        have := (List.getElem?_eq_some_iff.1 hi).1
        have := hlen
        simp at this
        omega
      rw [h.rows p (List.mem_of_getElem? hi), pageOf_noughts n i hin]

/-- Both memories: the program's bytes are L, the document's M. -/
structure Two (w0 w : World) (m d r f n : Nat) (R : List Nat) (L M : List UInt8) : Prop where
  st : St w0 w m d n L
  rs : RS w0 w r f n R M
  dR : d ∉ R
  mR : m ∉ R
  dr : d ≠ r
  df : d ≠ f

section
variable {w0 w w' : World} {m d r f n : Nat} {R : List Nat} {L M : List UInt8}

theorem Two.grow (h : Two w0 w m d r f n R L M) (g : w.grownBy w' none) : Two w0 w' m d r f n R L M := ⟨h.st.grow g, h.rs.grow g, h.dR, h.mR, h.dr, h.df⟩

theorem Two.grow' {x : Nat} (h : Two w0 w m d r f n R L M) (g : w.grownBy w' (some x)) (hx : w0.heap.size ≤ x) (h1 : x ≠ m) (h2 : x ≠ d) (h3 : x ≠ r) (h4 : x ≠ f) (h5 : x ∉ R) : Two w0 w' m d r f n R L M :=
  ⟨h.st.grow' g hx h1 h2, h.rs.grow' g hx h3 h4 h5, h.dR, h.mR, h.dr, h.df⟩

/-- What Byte tells. -/
def byteV (n : Nat) (L : List UInt8) (i j : Int) : Nat × Bool := if (0 ≤ i ∧ i < n) ∧ (0 ≤ j ∧ j < 4096) then ((L.getD (i.toNat * 4096 + j.toNat) 0).toNat, true) else (0, false)
/-- What Word tells. -/
def wordV (n : Nat) (L : List UInt8) (i j : Int) : Nat × Bool := if (0 ≤ i ∧ i < n) ∧ (0 ≤ j ∧ j < 512) then (wordOf ((L.drop (i.toNat * 4096 + j.toNat * 8)).take 8), true) else (0, false)
/-- What Same tells. -/
def sameV (n : Nat) (L : List UInt8) (i j : Int) : Bool := if (0 ≤ i ∧ i < n) ∧ (0 ≤ j ∧ j < n) then pageOf L i.toNat == pageOf L j.toNat else false
/-- How long what Page tells is. -/
def pageN (n : Nat) (i : Int) : Nat := if 0 ≤ i ∧ i < n then 4096 else 0

theorem word_any (h : St w0 w m d n L) (i j : Int) : Calls Try.prog 25 #[.pointer (some ⟨m, 0, none⟩), .int .i64 i, .int .i64 j] w fun e w' => e = .returned (.tuple #[.int .u64 (wordV n L i j).1, .bool (wordV n L i j).2]) ∧ w = w' := by
  unfold wordV
  by_cases hin : (0 ≤ i ∧ i < n) ∧ (0 ≤ j ∧ j < 512)
  · rw [if_pos hin]
    exact wordE h i j i.toNat j.toNat _ (by omega) (by omega) (by omega) (by omega) rfl
  · rw [if_neg hin]
    exact word_no _ i j _ (h.noWord i j hin)

theorem rword_any (h : RS w0 w r f n R M) (i j : Int) : Calls Try.prog 48 #[.pointer (some ⟨r, 0, none⟩), .int .i64 i, .int .i64 j] w fun e w' => e = .returned (.tuple #[.int .u64 (wordV n M i j).1, .bool (wordV n M i j).2]) ∧ w = w' := by
  unfold wordV
  by_cases hin : (0 ≤ i ∧ i < n) ∧ (0 ≤ j ∧ j < 512)
  · rw [if_pos hin]
    obtain ⟨a, rfl⟩ := Int.eq_ofNat_of_zero_le hin.1.1
    obtain ⟨b, rfl⟩ := Int.eq_ofNat_of_zero_le hin.2.1
    exact rword_ok h a b (by omega) (by omega)
  · rw [if_neg hin]
    exact rword_no h i j hin

/-- A page, or nothing, of that length, in new memory. -/
def Len (w : World) (l : Nat) (e : Ending) (w' : World) : Prop := ∃ s c, e = .returned (.slice s l c) ∧ w.grownBy w' none

theorem page_any (h : St w0 w m d n L) (i : Int) : Calls Try.prog 54 #[.pointer (some ⟨m, 0, none⟩), .int .i64 i] w (Len w (pageN n i)) := by
  unfold pageN
  by_cases h1 : 0 ≤ i ∧ i < n
  · rw [if_pos h1]
    exact (pageE h i i.toNat (by omega) (by omega)).mono fun e w' ⟨he, _, hg, _⟩ => ⟨_, _, he, hg⟩
  · rw [if_neg h1]
    exact (page_no _ i _ (find_out h.mem i h1)).mono fun e w' ⟨he, hw⟩ => ⟨_, _, he, hw ▸ grown_refl _ _⟩

end
end Go.Proofs.Ytlieommbomjdaaa
