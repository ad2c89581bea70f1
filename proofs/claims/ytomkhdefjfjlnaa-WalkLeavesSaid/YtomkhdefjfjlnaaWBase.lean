/- Small laws on memories that a law has made, over any seat that reaches package phys: words and their bytes, frames that are none. -/
import Derived.Test.YtomkhdefjfjlnaaPhysE
import Derived.Test.YtomkhdefjfjlnaaOpen
import Derived.Laws.BytesArg
import Derived.Laws.OwnMore
import Derived.Laws.AppendOwnNone
namespace Go.Proofs.Ytomkhdefjfjlnaa
open Go.ChangeShapes Go.WideShapes Go.ChangeAt Go.RowKit
open Extern.Stop (cell)
set_option linter.unusedVariables false

theorem wordOf_bytes (n v : Nat) : wordOf ((List.range n).map fun k => UInt8.ofNat (v / 256 ^ k)) = v % 256 ^ n := by
  induction n with
  | zero => simp [wordOf, Nat.mod_one]
  | succ n ih =>
    rw [List.range_succ, List.map_append, List.map_singleton, wordOf_snoc, ih, List.length_map, List.length_range, Nat.pow_succ]
    have e : (UInt8.ofNat (v / 256 ^ n)).toNat = v / 256 ^ n % 256 := by simp
    rw [e, Nat.mod_mul]

theorem wordOf_bytesOf (v : Nat) (hv : v < 18446744073709551616) : wordOf (bytesOf v) = v := by
  rw [bytesOf, wordOf_bytes, Nat.mod_eq_of_lt (by simpa using hv)]

theorem take_splice {α : Type} {L xs : List α} {o : Nat} (h : o + xs.length ≤ L.length) : ((splice L o xs).drop o).take xs.length = xs := by
  apply List.ext_getElem?
  intro k
  rw [List.getElem?_take]
  split
  · rw [List.getElem?_drop, get_splice _ _ _ h, if_neg (by omega), if_pos (by omega)]
    congr 1
    omega
  · rw [List.getElem?_eq_none (by omega)]

theorem bytesOf_getD (v q : Nat) (hq : q < 8) : (bytesOf v).getD q 0 = UInt8.ofNat (v / 256 ^ q) := by
  rw [List.getD, bytesOf_get v q hq]; rfl

theorem run_str {w : World} {s : Option Addr} {l : Nat} {bs : List UInt8} (h : Src w s l bs) (c : Nat) : (convert 55 9 (.slice s l c)).run Try.prog w = .ok (.string ⟨bs.toArray⟩) w := by
  by_cases hl : l = 0
  · have hb : bs = [] := by have := h.1; cases bs <;> simp_all
    subst hl hb
    cases s with
    | none =>
      rw [run_convert_bytes_nil w 55 5 Try.underlying55 Try.underlying5 0 c _ Try.underlying9]
      rfl
    | some a =>
      rw [run_convert_bytes_string w _ _ 5 _ _ _ Try.underlying55 Try.underlying5 Try.underlying9,
        run_bytesToString w a 0 c [] (by simpa using run_loadCells_list (P := Try.prog) w a [] (by simp))]
      rfl
  · rcases h.2 with h0 | ⟨b, o, rfl, hr⟩
    · exact absurd h0 hl
    · rw [run_convert_bytes_arg w 55 5 Try.underlying55 Try.underlying5 b o l c (bs.map fun x => (x.toNat : Int)) (by simpa using h.1)
        (fun i hi => by
          have hi' : i < bs.length := by rw [h.1]; exact hi
          rw [hr i (cell bs[i]) (by simp [List.getElem?_eq_getElem hi'])]
          simp [List.getD, List.getElem?_eq_getElem hi', cell]) _ Try.underlying9]
      simp [strOfNums, Function.comp_def]

theorem bytesEq {w : World} {s s' : Option Addr} {l l' : Nat} {bs bs' : List UInt8} (h : Src w s l bs) (h' : Src w s' l' bs') (c c' : Nat) (b : Bool) (hb : (bs == bs') = b) :
    Calls Try.prog 25 #[.slice s l c, .slice s' l' c'] w fun e w' => e = .returned (.bool b) ∧ w = w' := by
  have h1 := run_str h c
  have h2 := run_str h' c'
  have HB := Lib.hid hb
  clear h h' hb
  go_enter Try.func25, Try.ntmps25
  go_wp2
  go_ret
  refine ⟨?_, rfl⟩
  rw [← HB.out]
  rfl

theorem St.mlt {w0 w : World} {m d n : Nat} {L : List UInt8} (h : St w0 w m d n L) : m < w.heap.size := (Array.getElem?_eq_some_iff.1 h.mem.head).1
theorem St.dlt {w0 w : World} {m d n : Nat} {L : List UInt8} (h : St w0 w m d n L) : d < w.heap.size := (Array.getElem?_eq_some_iff.1 h.mem.body).1

theorem St.noFrame {w0 w : World} {m d n : Nat} {L : List UInt8} (h : St w0 w m d n L) (i : Int) (hi : ¬ (0 ≤ i ∧ i < n)) : NoFrame w (some ⟨m, 0, none⟩) i := find_out h.mem i hi

theorem St.finds {w0 w : World} {m d n : Nat} {L : List UInt8} (h : St w0 w m d n L) (i : Int) : ∃ x, Finds w (some ⟨m, 0, none⟩) i x ∧ (¬ (0 ≤ i ∧ i < n) → x = none) := by
  by_cases hi : 0 ≤ i ∧ i < n
  · obtain ⟨a, rfl⟩ := Int.eq_ofNat_of_zero_le hi.1
    exact ⟨_, find_ok h.mem a (by omega), fun h => absurd hi h⟩
  · exact ⟨none, find_out h.mem i hi, fun _ => rfl⟩

theorem St.noWord {w0 w : World} {m d n : Nat} {L : List UInt8} (h : St w0 w m d n L) (i j : Int) (hi : ¬ ((0 ≤ i ∧ i < n) ∧ (0 ≤ j ∧ j < 512))) : NoWord w (some ⟨m, 0, none⟩) i j := by
  by_cases h1 : 0 ≤ i ∧ i < n
  · obtain ⟨a, rfl⟩ := Int.eq_ofNat_of_zero_le h1.1
    exact findWord_out h.mem a j (by omega) (by omega)
  · exact findWord_no _ i j _ (find_out h.mem i h1)

theorem blk_kept {w w' : World} {g : Nat} {o : Obj} {r : Option Nat} (h : w.heap[g]? = some o) (G : w.grownBy w' r) (hr : r ≠ some g) : w'.heap[g]? = some o :=
  (G.block g (Array.getElem?_eq_some_iff.1 h).1 (Ne.symm hr)).trans h

end Go.Proofs.Ytomkhdefjfjlnaa
