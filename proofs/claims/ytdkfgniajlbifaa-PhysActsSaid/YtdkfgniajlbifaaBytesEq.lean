/- Bytes: the very same bytes or not; it changes nothing. -/
import Derived.Test.YtdkfgniajlbifaaPhysE
import Derived.Laws.BytesArg
namespace Go.Proofs.Ytdkfgniajlbifaa
open Go.ChangeShapes Go.WideShapes Go.ChangeAt Go.RowKit
open Extern.Stop (cell)
set_option linter.unusedVariables false

/-- Bytes as a string. -/
theorem run_str {w : World} {s : Option Addr} {l : Nat} {bs : List UInt8} (h : Src w s l bs) (c : Nat) : (convert 31 9 (.slice s l c)).run Try.prog w = .ok (.string ⟨bs.toArray⟩) w := by
  by_cases hl : l = 0
  · have hb : bs = [] := by have := h.1; cases bs <;> simp_all
    subst hl hb
    cases s with
    | none =>
      rw [run_convert_bytes_nil w 31 5 Try.underlying31 Try.underlying5 0 c _ Try.underlying9]
      rfl
    | some a =>
      rw [run_convert_bytes_string w _ _ 5 _ _ _ Try.underlying31 Try.underlying5 Try.underlying9,
        run_bytesToString w a 0 c [] (by simpa using run_loadCells_list (P := Try.prog) w a [] (by simp))]
      rfl
  · rcases h.2 with h0 | ⟨b, o, rfl, hr⟩
    · exact absurd h0 hl
    · rw [run_convert_bytes_arg w 31 5 Try.underlying31 Try.underlying5 b o l c (bs.map fun x => (x.toNat : Int)) (by simpa using h.1)
        (fun i hi => by
          have hi' : i < bs.length := by rw [h.1]; exact hi
          rw [hr i (cell bs[i]) (by simp [List.getElem?_eq_getElem hi'])]
          simp [List.getD, List.getElem?_eq_getElem hi', cell]) _ Try.underlying9]
      simp [strOfNums, Function.comp_def]

theorem bytesEq {w : World} {s s' : Option Addr} {l l' : Nat} {bs bs' : List UInt8} (h : Src w s l bs) (h' : Src w s' l' bs') (c c' : Nat) (b : Bool) (hb : (bs == bs') = b) :
    Calls Try.prog 22 #[.slice s l c, .slice s' l' c'] w fun e w' => e = .returned (.bool b) ∧ w = w' := by
  have h1 := run_str h c
  have h2 := run_str h' c'
  have HB := Lib.hid hb
  clear h h' hb
  go_enter Try.func22, Try.ntmps22
  go_wp2
  go_ret
  refine ⟨?_, rfl⟩
  rw [← HB.out]
  rfl

theorem blk_kept {w w' : World} {g : Nat} {o : Obj} {r : Option Nat} (h : w.heap[g]? = some o) (G : w.grownBy w' r) (hr : r ≠ some g) : w'.heap[g]? = some o :=
  (G.block g (Array.getElem?_eq_some_iff.1 h).1 (Ne.symm hr)).trans h

theorem St.mlt {w0 w : World} {m d n : Nat} {L : List UInt8} (h : St w0 w m d n L) : m < w.heap.size := (Array.getElem?_eq_some_iff.1 h.mem.head).1
theorem St.dlt {w0 w : World} {m d n : Nat} {L : List UInt8} (h : St w0 w m d n L) : d < w.heap.size := (Array.getElem?_eq_some_iff.1 h.mem.body).1

theorem setByteOutE {w0 w : World} {m d n : Nat} {L : List UInt8} (h : St w0 w m d n L) (I J x : Int) (i : Nat) (hI : I = i) (hi : i < n) (hj : ¬ (0 ≤ J ∧ J < 4096)) :
    Calls Try.prog 27 #[.pointer (some ⟨m, 0, none⟩), .int .i64 I, .int .i64 J, .int .u8 x] w fun e w' => e = .returned (.bool false) ∧ w = w' := by
  subst hI
  exact setByte_out h.mem i J x hi hj

theorem setByteNoE {w0 w : World} {m d n : Nat} {L : List UInt8} (h : St w0 w m d n L) (I J x : Int) (hi : ¬ (0 ≤ I ∧ I < n)) :
    Calls Try.prog 27 #[.pointer (some ⟨m, 0, none⟩), .int .i64 I, .int .i64 J, .int .u8 x] w fun e w' => e = .returned (.bool false) ∧ w = w' :=
  setByte_no _ _ _ _ _ (find_out h.mem I hi)

/-- A byte stored into a row of bytes. -/
theorem row_set {w : World} {g : Nat} {P : List UInt8} {t : TypeId} (h : w.heap[g]? = some (.cells (P.map cell).toArray t (0, 0))) (k : Nat) (x : Int) (hk : k < P.length) (h0 : 0 ≤ x) (h1 : x < 256) :
    (w.setCell ⟨g, k, none⟩ (.int .u8 x)).heap[g]? = some (.cells ((splice P k [b8 x]).map cell).toArray t (0, 0)) := by
  have e := heap_setCells (o := k) h ([b8 x].map cell) (by simp; omega) (one_cells _)
  rw [map_splice, ← e, List.map_singleton, cell_b8 h0 h1]
  rfl
end Go.Proofs.Ytdkfgniajlbifaa
