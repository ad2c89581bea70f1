/- Calls of package phys at a frame that is none: each finds nothing, answers false, and changes nothing. The one condition of each: that find tells nil there. Calls of package phys at a memory that New made: bytes. Calls of package phys at a memory that New made: words. Calls of package phys at a memory that New made: whole frames. Calls of package phys: Fill, Same, New. Calls of package phys, as a law meets them: the state of one memory handed on from call to call. What the arguments of a law read as: bytes, and structs of one-cell fields, opened; over any program. Small laws on memories that a law has made, over any seat that reaches package phys: words and their bytes, frames that are none. -/
import Derived.Test.YtlieommbomjdaaaRows
import Derived.WalkKit
import Derived.ProofKit
import Derived.OpenShut
import Derived.WalkLawsBesides
import Derived.WalkSpells
import Derived.BigQuiet
import Derived.Deep.QuietTactic
import Derived.Deep.DeepMust
import Derived.Outline
import Derived.Below
import Derived.Lib.Hide
import Derived.Lib.SliceRun
import Derived.Test.YtlieommbomjdaaaGen
import Derived.Laws.BitsAllLaws
import Derived.OwnWalk
import Derived.Laws.MakeOwn
import Derived.ChangeOld
import Derived.ChangeSame
import Derived.Deep.Fields
import Derived.Lib.SmallJoins
import Derived.Laws.BytesArg
import Derived.Laws.OwnMore
import Derived.Laws.AppendOwnNone
namespace Go.Proofs.Ytlieommbomjdaaa
open Go.ChangeShapes Go.WideShapes Go.ChangeAt Go.RowKit
set_option linter.unusedVariables false

/-- A slice of bytes held against nil. -/
@[go_sem] theorem eqNil31 (a : Option Addr) (n c : Nat) (w : World) : (binOp .eql 94 (.slice a n c) (.slice none 0 0)).run Try.prog w = .ok (.bool a.isNone) w := Lib.run_eql_slice_nil w 94 5 a n c 0 0 Try.underlying94

/-- A pointer to no memory, or to one without frames. -/
def Bare (w : World) (p : Option Addr) : Prop := ∀ a, p = some a → w.cell? a = some (.slice none 0 0)

theorem frames_bare (p : Option Addr) (w : World) (h : Bare w p) : Calls Try.prog 30 #[.pointer p] w fun e w' => e = .returned (.int .i64 0) ∧ w = w' := by
  cases p with
  | none =>
    clear h
    go_enter Try.func30, Try.ntmps30
    go_wp2
    go_ret
    exact ⟨rfl, rfl⟩
  | some a =>
    have hc := h a rfl
    clear h
    go_enter Try.func30, Try.ntmps30
    go_wp2
    go_ret
    exact ⟨rfl, rfl⟩

theorem find_bare (p : Option Addr) (i : Int) (w : World) (h : Bare w p) : Calls Try.prog 59 #[.pointer p, .int .i64 i] w fun e w' => e = .returned (.pointer none) ∧ w = w' := by
  have H := Lib.hid h
  clear h
  by_cases hi : i < 0
  · go_enter Try.func59, Try.ntmps59
    go_wp2_with (go_at_call 30; refine (frames_bare _ _ H.out).mono ?_; rintro e w' ⟨rfl, rfl⟩)
    go_ret
    exact ⟨rfl, rfl⟩
  · have hd : decide (i < 0) = false := by simpa using hi
    have h0 : 0 ≤ i := by omega
    go_enter Try.func59, Try.ntmps59
    go_wp2_with (go_at_call 30; refine (frames_bare _ _ H.out).mono ?_; rintro e w' ⟨rfl, rfl⟩)
    go_ret
    exact ⟨rfl, rfl⟩

/-- There is no such frame: find tells nil, and leaves the world. -/
def NoFrame (w : World) (p : Option Addr) (i : Int) : Prop := Calls Try.prog 59 #[.pointer p, .int .i64 i] w fun e w' => e = .returned (.pointer none) ∧ w = w'

/-- findWord tells nil. -/
def NoWord (w : World) (p : Option Addr) (i j : Int) : Prop := Calls Try.prog 55 #[.pointer p, .int .i64 i, .int .i64 j] w fun e w' => e = .returned (.slice none 0 0) ∧ w = w'

theorem findWord_no (p : Option Addr) (i j : Int) (w : World) (h : NoFrame w p i) : NoWord w p i j := by
  unfold NoWord
  have H := Lib.hid h
  clear h
  go_enter Try.func55, Try.ntmps55
  go_wp2_with (go_at_call 59; refine (Calls.mono H.out ?_); rintro e w' ⟨rfl, rfl⟩)
  go_ret
  exact ⟨rfl, rfl⟩

theorem word_no (p : Option Addr) (i j : Int) (w : World) (h : NoWord w p i j) : Calls Try.prog 25 #[.pointer p, .int .i64 i, .int .i64 j] w fun e w' => e = .returned (.tuple #[.int .u64 0, .bool false]) ∧ w = w' := by
  have H := Lib.hid h
  clear h
  go_enter Try.func25, Try.ntmps25
  go_wp2_with (go_at_call 55; refine (Calls.mono H.out ?_); rintro e w' ⟨rfl, rfl⟩)
  go_ret2
  exact ⟨rfl, rfl⟩

theorem setWord_no (p : Option Addr) (i j v : Int) (w : World) (h : NoWord w p i j) : Calls Try.prog 26 #[.pointer p, .int .i64 i, .int .i64 j, .int .u64 v] w fun e w' => e = .returned (.bool false) ∧ w = w' := by
  have H := Lib.hid h
  clear h
  go_enter Try.func26, Try.ntmps26
  go_wp2_with (go_at_call 55; refine (Calls.mono H.out ?_); rintro e w' ⟨rfl, rfl⟩)
  go_ret
  exact ⟨rfl, rfl⟩

theorem zero_no (p : Option Addr) (i : Int) (w : World) (h : NoFrame w p i) : Calls Try.prog 32 #[.pointer p, .int .i64 i] w fun e w' => e = .returned (.bool false) ∧ w = w' := by
  have H := Lib.hid h
  clear h
  go_enter Try.func32, Try.ntmps32
  go_wp2_with (go_at_call 59; refine (Calls.mono H.out ?_); rintro e w' ⟨rfl, rfl⟩)
  go_ret
  exact ⟨rfl, rfl⟩

theorem page_no (p : Option Addr) (i : Int) (w : World) (h : NoFrame w p i) : Calls Try.prog 54 #[.pointer p, .int .i64 i] w fun e w' => e = .returned (.slice none 0 0) ∧ w = w' := by
  have H := Lib.hid h
  clear h
  go_enter Try.func54, Try.ntmps54
  go_wp2_with (go_at_call 59; refine (Calls.mono H.out ?_); rintro e w' ⟨rfl, rfl⟩)
  go_ret
  exact ⟨rfl, rfl⟩

/-- find tells an address or nil. -/
def Finds (w : World) (p : Option Addr) (i : Int) (x : Option Addr) : Prop := Calls Try.prog 59 #[.pointer p, .int .i64 i] w fun e w' => e = .returned (.pointer x) ∧ w = w'

end Go.Proofs.Ytlieommbomjdaaa

namespace Go.Proofs.Ytlieommbomjdaaa
open Go.ChangeShapes Go.WideShapes Go.ChangeAt Go.RowKit
open Extern.Stop (cell)
set_option linter.unusedVariables false

/-- Block m is a Memory of n frames whose bytes, one frame behind the other, are L; they lie in block d. -/
structure Mem (w : World) (m d n : Nat) (L : List UInt8) : Prop where
  head : w.heap[m]? = some (.cells #[.slice (some ⟨d, 0, none⟩) n n] 71 (0, 0))
  body : w.heap[d]? = some (.cells (L.map cell).toArray 104 (0, 0))
  len : L.length = n * 4096
  ne : m ≠ d
  pos : 1 ≤ n
  le : n ≤ 256

theorem Mem.cellM {w : World} {m d n : Nat} {L : List UInt8} (h : Mem w m d n L) : w.cell? ⟨m, 0, none⟩ = some (.slice (some ⟨d, 0, none⟩) n n) := by
  rw [cell_of_row w m 0 _ _ (0, 0) h.head]; rfl

theorem Mem.kept {w w' : World} {m d n : Nat} {L : List UInt8} {r : Option Nat} (h : Mem w m d n L) (g : w.grownBy w' r) (hm : r ≠ some m) (hd : r ≠ some d) : Mem w' m d n L :=
  ⟨(g.block m (Array.getElem?_eq_some_iff.1 h.head).1 (Ne.symm hm)).trans h.head, (g.block d (Array.getElem?_eq_some_iff.1 h.body).1 (Ne.symm hd)).trans h.body, h.len, h.ne, h.pos, h.le⟩

theorem Mem.keptNone {w w' : World} {m d n : Nat} {L : List UInt8} (h : Mem w m d n L) (g : w.grownBy w' none) : Mem w' m d n L := h.kept g (by simp) (by simp)

theorem Mem.same {w w' : World} {m d n : Nat} {L : List UInt8} (h : Mem w m d n L) (e : w = w') : Mem w' m d n L := e ▸ h

/-- A stretch of a memory's bytes written over. -/
theorem Mem.stored {w : World} {m d n : Nat} {L : List UInt8} (h : Mem w m d n L) (o : Nat) (xs : List UInt8) (ho : o + xs.length ≤ n * 4096) : Mem (w.setCells d o (xs.map cell)) m d n (splice L o xs) := by
  have g := grown_setCells w d o (xs.map cell)
  refine ⟨(g.block m (Array.getElem?_eq_some_iff.1 h.head).1 (by simpa using h.ne)).trans h.head, ?_, ?_, h.ne, h.pos, h.le⟩
  · rw [heap_setCells (cs := L.map cell) (by simpa using h.body) (xs.map cell) (by simp; have := h.len; omega) (one_cells xs), map_splice]
  · rw [length_splice _ _ _ (by have := h.len; omega), h.len]

theorem frames_ok {w : World} {m d n : Nat} {L : List UInt8} (h : Mem w m d n L) :
    Calls Try.prog 30 #[.pointer (some ⟨m, 0, none⟩)] w fun e w' => e = .returned (.int .i64 n) ∧ w = w' := by
  have hm := h.cellM
  clear h
  go_enter Try.func30, Try.ntmps30
  go_wp2
  go_ret
  exact ⟨rfl, rfl⟩

theorem find_ok {w : World} {m d n : Nat} {L : List UInt8} (h : Mem w m d n L) (i : Nat) (hi : i < n) :
    Finds w (some ⟨m, 0, none⟩) i (some ⟨d, i * 4096, none⟩) := by
  have hm := h.cellM
  have hle := h.le
  have H := Lib.hid h
  clear h
  have hd : decide ((i : Int) < 0) = false := by simp
  have hd2 : decide ((i : Int) ≥ (n : Int)) = false := by simp; omega
  unfold Finds
  go_enter Try.func59, Try.ntmps59
  go_wp2_with (go_at_call 30; refine (frames_ok H.out).mono ?_; rintro e w' ⟨rfl, rfl⟩)
  go_ret
  exact ⟨rfl, rfl⟩

theorem find_out {w : World} {m d n : Nat} {L : List UInt8} (h : Mem w m d n L) (i : Int) (hi : ¬ (0 ≤ i ∧ i < n)) :
    NoFrame w (some ⟨m, 0, none⟩) i := by
  have H := Lib.hid h
  unfold NoFrame
  by_cases h0 : i < 0
  · clear h
    go_enter Try.func59, Try.ntmps59
    go_wp2_with (go_at_call 30; refine (frames_ok H.out).mono ?_; rintro e w' ⟨rfl, rfl⟩)
    go_ret
    exact ⟨rfl, rfl⟩
  · have hd : decide (i < 0) = false := by simpa using h0
    have hd2 : (n : Int) ≤ i := by omega
    clear h
    go_enter Try.func59, Try.ntmps59
    go_wp2_with (go_at_call 30; refine (frames_ok H.out).mono ?_; rintro e w' ⟨rfl, rfl⟩)
    go_ret
    exact ⟨rfl, rfl⟩

set_option maxRecDepth 100000 in
theorem findWord_ok {w : World} {m d n : Nat} {L : List UInt8} (h : Mem w m d n L) (i j : Nat) (hi : i < n) (hj : j < 512) :
    ∃ c : Nat, 8 ≤ c ∧ Calls Try.prog 55 #[.pointer (some ⟨m, 0, none⟩), .int .i64 i, .int .i64 j] w fun e w' => e = .returned (.slice (some ⟨d, i * 4096 + j * 8, none⟩) 8 c) ∧ w = w' := by
  have HF := Lib.hid (find_ok h i hi)
  have hd : decide ((j : Int) < 0) = false := by simp
  have hd2 : decide ((j : Int) ≥ 512) = false := by simp; omega
  have hs : ∀ W, (Instr.sliceAt 104 (.pointer (some ⟨d, i * 4096, none⟩)) (some (.int .i64 ((j : Int) * 8))) (some (.int .i64 (((j : Int) + 1) * 8))) none).run Try.prog W = .ok (.slice (some ⟨d, i * 4096 + j * 8, none⟩) 8 (4096 - j * 8)) W := by
    intro W
    rw [run_sliceAt_mid W 104 5 4096 Try.underlying104 (by kernel_rfl) d (i * 4096) _ _ (by omega) (by omega) (by omega)]
    have e1 : ((j : Int) * 8).toNat = j * 8 := by omega
    have e2 : (((j : Int) + 1) * 8).toNat = j * 8 + 8 := by omega
    rw [e1, e2, if_neg (by omega)]
    congr 2
    omega
  clear h
  refine ⟨4096 - j * 8, by omega, ?_⟩
  go_enter Try.func55, Try.ntmps55
  go_wp2_with (go_at_call 59; refine (Calls.mono HF.out ?_); rintro e w' ⟨rfl, rfl⟩)
  go_ret
  exact ⟨rfl, rfl⟩

theorem findWord_out {w : World} {m d n : Nat} {L : List UInt8} (h : Mem w m d n L) (i : Nat) (j : Int) (hi : i < n) (hj : ¬ (0 ≤ j ∧ j < 512)) : NoWord w (some ⟨m, 0, none⟩) i j := by
  have HF := Lib.hid (find_ok h i hi)
  clear h
  unfold NoWord
  by_cases h0 : j < 0
  · go_enter Try.func55, Try.ntmps55
    go_wp2_with (go_at_call 59; refine (Calls.mono HF.out ?_); rintro e w' ⟨rfl, rfl⟩)
    go_ret
    exact ⟨rfl, rfl⟩
  · have hd : decide (j < 0) = false := by simpa using h0
    have hd2 : 512 ≤ j := by omega
    clear hj
    go_enter Try.func55, Try.ntmps55
    go_wp2_with (go_at_call 59; refine (Calls.mono HF.out ?_); rintro e w' ⟨rfl, rfl⟩)
    go_ret
    exact ⟨rfl, rfl⟩
end Go.Proofs.Ytlieommbomjdaaa

namespace Go.Proofs.Ytlieommbomjdaaa
open Go.ChangeShapes Go.WideShapes Go.ChangeAt Go.RowKit
open Extern.Stop (cell)
set_option linter.unusedVariables false

/-- The number of some bytes, the lowest first. -/
def wordOf : List UInt8 → Nat
  | [] => 0
  | b :: r => b.toNat + 256 * wordOf r

theorem wordOf_lt : ∀ xs : List UInt8, wordOf xs < 256 ^ xs.length
  | [] => by simp [wordOf]
  | b :: r => by
    have h := wordOf_lt r
    have hb := b.toNat_lt
    simp only [wordOf, List.length_cons, Nat.pow_succ]
    omega

theorem wordOf_snoc (b : UInt8) : ∀ xs : List UInt8, wordOf (xs ++ [b]) = wordOf xs + 256 ^ xs.length * b.toNat
  | [] => by simp [wordOf]
  | c :: r => by
    simp only [List.cons_append, wordOf, wordOf_snoc b r, List.length_cons, Nat.pow_succ]
    rw [Nat.mul_add, ← Nat.mul_assoc, Nat.mul_comm 256 (256 ^ r.length)]
    omega

theorem pow256 (q : Nat) : 256 ^ q = 2 ^ (8 * q) := by rw [Nat.pow_mul]

theorem or_word (a B q : Nat) (ha : a < 256 ^ q) (hB : B < 256) (hq : q < 8) : bits BinOp.or IntKind.u64 (a : Int) (IntKind.u64.wrap ((B : Int) * 2 ^ (8 * q))) = ((a + 256 ^ q * B : Nat) : Int) := by
  have hp : 256 ^ q * 256 ≤ 18446744073709551616 := by
    rw [← Nat.pow_succ, show 18446744073709551616 = 256 ^ 8 from rfl]
    exact Nat.pow_le_pow_right (by omega) (by omega)
  have hm : 256 ^ q * B + 256 ^ q ≤ 256 ^ q * 256 := by
    rw [← Nat.mul_succ]
    exact Nat.mul_le_mul_left _ hB
  have hlt : 256 ^ q * B < 18446744073709551616 := by
    have : 0 < 256 ^ q := Nat.pow_pos (by omega)
    omega
  have e1 : IntKind.u64.wrap ((B : Int) * 2 ^ (8 * q)) = ((256 ^ q * B : Nat) : Int) := by
    have e2 : (B : Int) * 2 ^ (8 * q) = ((256 ^ q * B : Nat) : Int) := by
      rw [pow256, Nat.mul_comm]
      simp [Int.mul_comm]
    rw [e2]
    generalize 256 ^ q * B = z at *
    simp [IntKind.wrap, IntKind.signed, IntKind.bits]
    omega
  rw [e1, u64_or_nat _ _ (by omega) hlt, Nat.or_comm]
  congr 1
  rw [Nat.add_comm, pow256, Nat.two_pow_add_eq_or_of_lt (by rw [← pow256]; exact ha)]

theorem word_ok {w : World} {m d n : Nat} {L : List UInt8} (h : Mem w m d n L) (i j : Nat) (hi : i < n) (hj : j < 512) :
    Calls Try.prog 25 #[.pointer (some ⟨m, 0, none⟩), .int .i64 i, .int .i64 j] w fun e w' => e = .returned (.tuple #[.int .u64 (wordOf ((L.drop (i * 4096 + j * 8)).take 8)), .bool true]) ∧ w = w' := by
  obtain ⟨c, hc8, hF⟩ := findWord_ok h i j hi hj
  have HF := Lib.hid hF
  have hcs : ∀ k, k < 8 → w.cell? ⟨d, i * 4096 + j * 8 + k, none⟩ = some (.int .u8 (((L.drop (i * 4096 + j * 8)).take 8).getD k 0).toNat) := by
    intro k hk
    have := cell_of_bytes h.body (i * 4096 + j * 8 + k) (by have := h.len; omega)
    rw [this]
    simp [List.getD, hk, List.getElem?_drop]
  have hl : ((L.drop (i * 4096 + j * 8)).take 8).length = 8 := by simp; have := h.len; omega
  generalize (L.drop (i * 4096 + j * 8)).take 8 = xs at *
  generalize i * 4096 + j * 8 = o at *
  have HC := Lib.hid hcs
  have HL := Lib.hid hl
  clear h hF hcs hl
  go_enter Try.func25, Try.ntmps25
  go_wp2_with (go_at_call 55; refine (Calls.mono HF.out ?_); rintro e w' ⟨rfl, rfl⟩)
  go_loop [9, 20] (fun t k => ∃ q : Nat, q ≤ 8 ∧ k = .int .i64 q ∧ t = .int .u64 (wordOf (xs.take q))) (fun _ k => 8 - (intOf k).toNat)
  case atStart => exact ⟨0, by omega, rfl, rfl⟩
  case round =>
    obtain ⟨q, hq, rfl, rfl⟩ := hrel
    by_cases hlt : q < 8
    · have hc := HC.out q hlt
      have hb := (xs.getD q 0).toNat_lt
      generalize hB : (xs.getD q 0).toNat = B at *
      have HB := Lib.hid hB
      clear hB
      go_wp2
      go_round
      case rel =>
        refine ⟨q + 1, by omega, by go_num, ?_⟩
        have hlen : (xs.take q).length = q := by simp; have := HL.out; omega
        have hlt2 := wordOf_lt (xs.take q)
        rw [hlen] at hlt2
        have hs : xs.take (q + 1) = xs.take q ++ [xs.getD q 0] := by
          rw [List.take_succ_eq_append_getElem (by rw [HL.out]; exact hlt)]
          simp [List.getD, List.getElem?_eq_getElem (show q < xs.length by rw [HL.out]; exact hlt)]
        rw [or_word _ B q hlt2 hb hlt, hs, wordOf_snoc, hlen, HB.out]
      case measure => simp [intOf]; omega
    · have hq8 : q = 8 := by omega
      have hx : xs.take q = xs := List.take_of_length_le (by rw [HL.out]; omega)
      have HX := Lib.hid hx
      clear hx hq8
      go_wp2
      go_ret2
      refine ⟨?_, rfl⟩
      simp only [HX.out]
      rfl

/-- The eight bytes of a number, the lowest first. -/
def bytesOf (v : Nat) : List UInt8 := (List.range 8).map fun k => UInt8.ofNat (v / 256 ^ k)

theorem shr_byte (v q : Nat) : Value.int .u8 ((v : Int) / 2 ^ (8 * q) % 256) = cell (UInt8.ofNat (v / 256 ^ q)) := by
  have e : (v : Int) / 2 ^ (8 * q) = ((v / 256 ^ q : Nat) : Int) := by rw [pow256]; simp
  rw [e, cell]
  simp

theorem bytesOf_get (v q : Nat) (hq : q < 8) : (bytesOf v)[q]? = some (UInt8.ofNat (v / 256 ^ q)) := by
  simp [bytesOf, hq]
theorem bytesOf_length (v : Nat) : (bytesOf v).length = 8 := by simp [bytesOf]

theorem setWord_ok {w : World} {m d n : Nat} {L : List UInt8} (h : Mem w m d n L) (i j : Nat) (v : Nat) (hi : i < n) (hj : j < 512) (hv : v < 18446744073709551616) :
    Calls Try.prog 26 #[.pointer (some ⟨m, 0, none⟩), .int .i64 i, .int .i64 j, .int .u64 v] w fun e w' =>
      e = .returned (.bool true) ∧ w' = w.setCells d (i * 4096 + j * 8) ((bytesOf v).map cell) := by
  obtain ⟨c, hc8, hF⟩ := findWord_ok h i j hi hj
  have HF := Lib.hid hF
  have ht : w.there d (i * 4096 + j * 8) 8 := there_of_bytes h.body _ _ (by have := h.len; omega)
  generalize i * 4096 + j * 8 = o at *
  have HT := Lib.hid ht
  have HV := Lib.hid hv
  clear h hF ht hv
  go_enter Try.func26, Try.ntmps26
  go_wp2_with (go_at_call 55; refine (Calls.mono HF.out ?_); rintro e w' ⟨rfl, rfl⟩)
  go_loopw [19] (fun k wr => ∃ q : Nat, q ≤ 8 ∧ k = .int .i64 q ∧ wr = w.setCells d o (((bytesOf v).take q).map cell)) (fun k wr => 8 - (intOf k).toNat)
  case atStart => exact ⟨0, by omega, rfl, rfl⟩
  case round =>
    obtain ⟨q, hq, rfl, hw⟩ := hrel
    by_cases hlt : q < 8
    · have ht2 := World.there_setCells HT.out d o (((bytesOf v).take q).map cell)
      rw [← hw] at ht2
      have ht3 := ht2 q hlt
      obtain ⟨u, hc⟩ := Option.isSome_iff_exists.1 ht3.1
      have hf := ht3.2
      have HW := Lib.hid hw
      clear ht2 ht3 hw
      go_wp2
      go_roundw
      case rel =>
        refine ⟨q + 1, by omega, by go_num, ?_⟩
        have hs : (bytesOf v).take (q + 1) = (bytesOf v).take q ++ [UInt8.ofNat (v / 256 ^ q)] := by
          rw [List.take_add_one, bytesOf_get v q hlt]; rfl
        have hlen : (((bytesOf v).take q).map cell).length = q := by simp [bytesOf_length]; omega
        rw [hs, List.map_append, List.map_singleton, setCells_snoc, hlen, ← HW.out, shr_byte]
      case measure => simp [intOf]; omega
    · have hx : (bytesOf v).take q = bytesOf v := List.take_of_length_le (by rw [bytesOf_length]; omega)
      rw [hx] at hw
      have HW := Lib.hid hw
      clear hw hx
      go_wp2
      go_ret
      exact ⟨rfl, HW.out⟩
end Go.Proofs.Ytlieommbomjdaaa

namespace Go.Proofs.Ytlieommbomjdaaa
open Go.ChangeShapes Go.WideShapes Go.ChangeAt Go.RowKit
open Extern.Stop (cell)
set_option linter.unusedVariables false

/-- A page of noughts. -/
def zeroPage : List UInt8 := List.replicate 4096 0
theorem zeroPage_length : zeroPage.length = 4096 := List.length_replicate
/-- One frame's bytes. -/
def pageOf (L : List UInt8) (i : Nat) : List UInt8 := (L.drop (i * 4096)).take 4096
theorem pageOf_length {L : List UInt8} {n : Nat} (hl : L.length = n * 4096) (i : Nat) (hi : i < n) : (pageOf L i).length = 4096 := by
  simp [pageOf]; omega

theorem info_page : (Try.prog.info? 104).map (·.size) = some 4096 := by kernel_rfl
theorem run_zero_page (W : World) : (zeroValue 104).run Try.prog W = .ok (.agg (zeroPage.map cell).toArray) W := by kernel_rfl

theorem one_cellsA (xs : List UInt8) : (xs.map cell).toArray.all (·.oneCell') = true := all_oneCell_toArray (one_cells xs)

theorem zero_ok {w : World} {m d n : Nat} {L : List UInt8} (h : Mem w m d n L) (i : Nat) (hi : i < n) :
    Calls Try.prog 32 #[.pointer (some ⟨m, 0, none⟩), .int .i64 i] w fun e w' =>
      e = .returned (.bool true) ∧ w' = w.setCells d (i * 4096) (zeroPage.map cell) := by
  have HF := Lib.hid (find_ok h i hi)
  have hb := run_zero_page
  have ht : w.there d (i * 4096) 4096 := there_of_bytes h.body _ _ (by have := h.len; omega)
  have HT := Lib.hid (show w.there d (i * 4096) (zeroPage.map cell).toArray.size by rw [List.size_toArray, List.length_map, zeroPage_length]; exact ht)
  have HS := Lib.hid (show (Try.prog.info? 104).map (·.size) = some (zeroPage.map cell).toArray.size by rw [List.size_toArray, List.length_map, zeroPage_length]; exact info_page)
  clear h ht
  go_enter Try.func32, Try.ntmps32
  go_wp2_with (first | (go_at_call 59; refine (Calls.mono HF.out ?_); rintro e w' ⟨rfl, rfl⟩) | (refine wpList_store_mid rfl 104 _ _ rfl d (i * 4096) (zeroPage.map cell).toArray rfl rfl HT.out HS.out (one_cellsA zeroPage) ?_))
  go_ret
  exact ⟨rfl, rfl⟩

theorem info_pageL {xs : List UInt8} (h : xs.length = 4096) : (Try.prog.info? 104).map (·.size) = some (xs.map cell).toArray.size := by rw [List.size_toArray, List.length_map, h]; exact info_page
theorem info_pageM {xs : List UInt8} (h : xs.length = 4096) : (Try.prog.info? 104).map (·.size) = some (xs.map cell).length := by rw [List.length_map, h]; exact info_page
theorem thereL {w : World} {d o : Nat} {xs : List UInt8} (h : w.there d o 4096) (hl : xs.length = 4096) : w.there d o (xs.map cell).toArray.size := by rw [List.size_toArray, List.length_map, hl]; exact h

theorem page_ok {w : World} {m d n : Nat} {L : List UInt8} (h : Mem w m d n L) (i : Nat) (hi : i < n) :
    Calls Try.prog 54 #[.pointer (some ⟨m, 0, none⟩), .int .i64 i] w fun e w' =>
      e = .returned (.slice (some ⟨w.heap.size, 0, none⟩) 4096 4096) ∧ w.grownBy w' none ∧ w'.heap.size = w.heap.size + 1 ∧ w'.heap[w.heap.size]? = some (.cells ((pageOf L i).map cell).toArray 104 (0, 0)) := by
  have HF := Lib.hid (find_ok h i hi)
  have hl := pageOf_length h.len i hi
  have HR := Lib.hid (range_of_bytes h.body (i * 4096) 4096 (by have := h.len; omega))
  have HS := Lib.hid (info_pageL hl)
  have HM := Lib.hid (info_pageM hl)
  clear h
  rw [show (L.drop (i * 4096)).take 4096 = pageOf L i from rfl] at HR
  generalize pageOf L i = xs at *
  have hz := run_zero_page
  have hnew : (w.alloc (.cells (zeroPage.map cell).toArray 104)).heap[w.heap.size]? = some (.cells (zeroPage.map cell).toArray 104 (0, 0)) := heap_alloc_new w _
  have HT := Lib.hid (thereL (there_of_bytes hnew 0 4096 (by rw [zeroPage_length]; omega)) hl)
  have HN := Lib.hid hnew
  have HL := Lib.hid hl
  clear hl hnew
  go_enter Try.func54, Try.ntmps54
  go_wp2_with (first | (go_at_call 59; refine (Calls.mono HF.out ?_); rintro e w' ⟨rfl, rfl⟩) | (refine wpList_load_mid rfl 104 _ rfl d (i * 4096) rfl (xs.map cell) _ HR.out Try.underlying104 rfl HM.out ?_) | (refine wpList_store_mid rfl 104 _ _ rfl w.heap.size 0 (xs.map cell).toArray rfl rfl HT.out HS.out (one_cellsA xs) ?_))
  go_ret
  refine ⟨rfl, ?_, ?_, ?_⟩
  · exact grown_alloc_setCells _ _ _ _
  · rw [size_setCells]; simp
  · have e := heap_setCells (o := 0) (cs := zeroPage.map cell) HN.out (xs.map cell) (by simp [zeroPage_length, HL.out]) (one_cells xs)
    rw [e]
    have e2 : splice (zeroPage.map cell) 0 (xs.map cell) = xs.map cell := by
      simp [splice, HL.out, zeroPage_length]
    rw [e2]
end Go.Proofs.Ytlieommbomjdaaa

namespace Go.Proofs.Ytlieommbomjdaaa
open Go.ChangeShapes Go.WideShapes Go.ChangeAt Go.RowKit
open Extern.Stop (cell)
set_option linter.unusedVariables false

theorem info_frame : (Try.prog.info? 104).map (fun i => (i.zero, i.size, i.bytes)) = some (some (.agg (zeroPage.map cell).toArray), 4096, 4096) := by kernel_rfl

theorem zeroPage_get : ∀ i (h : i < zeroPage.length), zeroPage[i] = 0 := by
  unfold zeroPage
  intro i h
  exact List.getElem_replicate h

theorem made_zero (N : Nat) : madeCells (zeroPage.map cell).toArray N = ((List.replicate N (0 : UInt8)).map cell).toArray := by
  have hl := zeroPage_length
  have hg := zeroPage_get
  generalize zeroPage = Z at *
  apply Array.ext
  · simp [madeCells]
  · intro i h1 h2
    have hlt : i % (Z.map cell).toArray.size < (Z.map cell).toArray.size := Nat.mod_lt _ (by rw [List.size_toArray, List.length_map, hl]; omega)
    simp only [madeCells, Array.getElem_map, Array.getElem_range]
    rw [getElem!_pos (Z.map cell).toArray _ hlt]
    simp [hg]

theorem new_ok (n : Nat) (w : World) (h1 : 1 ≤ n) (h2 : n ≤ 256) :
    Calls Try.prog 10 #[.int .i64 n] w fun e w' =>
      e = .returned (.pointer (some ⟨w.heap.size + 1, 0, none⟩)) ∧ Mem w' (w.heap.size + 1) w.heap.size n (List.replicate (n * 4096) 0) ∧ w.grownBy w' none ∧ w'.heap.size = w.heap.size + 2 := by
  have hmk : (Instr.makeSlice 69 (.int .i64 (n : Int)) (.int .i64 (n : Int))).run Try.prog w = .ok (.slice (some ⟨w.heap.size, 0, none⟩) n n) (w.alloc (.cells ((List.replicate (n * 4096) (0 : UInt8)).map cell).toArray 104)) := by
    obtain ⟨i0, hi, hz0, hz1, hz2⟩ := info_parts info_frame
    have hr := run_make (P := Try.prog) w 69 104 i0 _ Try.underlying69 hi hz0 .i64 .i64 (n : Int) (n : Int) (by omega) (by omega) (by rw [hz2]; omega) (by omega)
    rw [hr, Int.toNat_natCast, hz1]
    simp only [Value.cells]
    rw [made_zero]
  obtain ⟨X, hX⟩ : ∃ X, X = ((List.replicate (n * 4096) (0 : UInt8)).map cell).toArray := ⟨_, rfl⟩
  rw [← hX] at hmk
  have hd : decide ((n : Int) < 1) = false := by simp; omega
  have hd2 : decide ((n : Int) > 256) = false := by simp; omega
  have HX := Lib.hid hX
  clear hX
  go_enter Try.func10, Try.ntmps10
  go_wp2
  go_ret
  refine ⟨rfl, ⟨?_, ?_, by simp, by omega, h1, h2⟩, (World.grownBy_alloc w _ none |> grown_trans <| World.grownBy_alloc _ _ none), by simp⟩
  · have := heap_alloc_new (w.alloc (.cells X 104)) (.cells #[.slice (some ⟨w.heap.size, 0, none⟩) n n] 71)
    simpa using this
  · rw [← HX.out]
    exact heap_alloc2_old w _ _

theorem new_no (n : Int) (w : World) (h : ¬ (1 ≤ n ∧ n ≤ 256)) :
    Calls Try.prog 10 #[.int .i64 n] w fun e w' => e = .returned (.pointer none) ∧ w = w' := by
  by_cases h0 : n < 1
  · go_enter Try.func10, Try.ntmps10
    go_wp2
    go_ret
    exact ⟨rfl, rfl⟩
  · have hd : decide (n < 1) = false := by simpa using h0
    have hd2 : 256 < n := by omega
    clear h
    go_enter Try.func10, Try.ntmps10
    go_wp2
    go_ret
    exact ⟨rfl, rfl⟩
end Go.Proofs.Ytlieommbomjdaaa

namespace Go.Proofs.Ytlieommbomjdaaa
open Go.ChangeShapes Go.WideShapes Go.ChangeAt Go.RowKit
open Extern.Stop (cell)
set_option linter.unusedVariables false

theorem getD_splice_out {L xs : List UInt8} {o j : Nat} (h : o + xs.length ≤ L.length) (h1 : j < o ∨ o + xs.length ≤ j) : (splice L o xs).getD j 0 = L.getD j 0 := by
  simp only [List.getD]
  rw [get_splice L o xs h]
  rcases h1 with h1 | h1
  · rw [if_pos h1]
  · rw [if_neg (by omega), if_neg (by omega)]

theorem pageOf_get (L : List UInt8) (i k : Nat) (hk : k < 4096) : (pageOf L i)[k]? = L[i * 4096 + k]? := by
  simp [pageOf, hk, List.getElem?_drop]

theorem pageOf_splice_other {L xs : List UInt8} {n i j o : Nat} (hl : L.length = n * 4096) (hi : i < n) (hj : j < n) (hij : i ≠ j) (ho : o + xs.length ≤ 4096) : pageOf (splice L (i * 4096 + o) xs) j = pageOf L j := by
  have hb : i * 4096 + o + xs.length ≤ L.length := by omega
  apply List.ext_getElem?
  intro k
  by_cases hk : k < 4096
  · rw [pageOf_get _ _ _ hk, pageOf_get _ _ _ hk, get_splice _ _ _ hb]
    rcases Nat.lt_or_gt_of_ne hij with h | h
    · rw [if_neg (by omega), if_neg (by omega)]
    · rw [if_pos (by omega)]
  · rw [List.getElem?_eq_none (by simp [pageOf]; omega), List.getElem?_eq_none (by simp [pageOf]; omega)]

theorem pageOf_splice_same {L xs : List UInt8} {n i o : Nat} (hl : L.length = n * 4096) (hi : i < n) (ho : o + xs.length ≤ 4096) : pageOf (splice L (i * 4096 + o) xs) i = splice (pageOf L i) o xs := by
  have hb : i * 4096 + o + xs.length ≤ L.length := by omega
  have hp := pageOf_length hl i hi
  apply List.ext_getElem?
  intro k
  by_cases hk : k < 4096
  · rw [pageOf_get _ _ _ hk, get_splice _ _ _ hb, get_splice _ _ _ (by omega), pageOf_get _ _ _ hk]
    by_cases h1 : k < o
    · rw [if_pos (by omega), if_pos h1]
    · rw [if_neg (by omega), if_neg h1]
      by_cases h2 : k < o + xs.length
      · rw [if_pos (by omega), if_pos h2]
        congr 1
        omega
      · rw [if_neg (by omega), if_neg h2]
  · rw [List.getElem?_eq_none (by simp [pageOf]; omega), List.getElem?_eq_none (by rw [length_splice _ _ _ (by omega)]; omega)]

theorem splice_all {α : Type} {L xs : List α} (h : xs.length = L.length) : splice L 0 xs = xs := by
  simp [splice, h]

theorem pageOf_whole {L xs : List UInt8} {n i : Nat} (hl : L.length = n * 4096) (hi : i < n) (ho : xs.length = 4096) : pageOf (splice L (i * 4096) xs) i = xs := by
  have := pageOf_splice_same (xs := xs) (o := 0) hl hi (by omega)
  rw [Nat.add_zero] at this
  rw [this, splice_all (by rw [ho, pageOf_length hl i hi])]

theorem pageOf_whole_other {L xs : List UInt8} {n i j : Nat} (hl : L.length = n * 4096) (hi : i < n) (hj : j < n) (hij : i ≠ j) (ho : xs.length = 4096) : pageOf (splice L (i * 4096) xs) j = pageOf L j := by
  have := pageOf_splice_other (xs := xs) (o := 0) hl hi hj hij (by omega)
  rwa [Nat.add_zero] at this

/-- The state of a memory that a law made: it lies in blocks that were not there when the law began (w0), and what was there has not turned. -/
structure St (w0 w : World) (m d n : Nat) (L : List UInt8) : Prop where
  mem : Mem w m d n L
  below : Below w0.heap.size w0 w
  dge : w0.heap.size ≤ d
  mge : w0.heap.size ≤ m

theorem St.len {w0 w : World} {m d n : Nat} {L : List UInt8} (h : St w0 w m d n L) : L.length = n * 4096 := h.mem.len

theorem St.grow {w0 w w' : World} {m d n : Nat} {L : List UInt8} (h : St w0 w m d n L) (g : w.grownBy w' none) : St w0 w' m d n L :=
  ⟨h.mem.keptNone g, h.below.grown g h.below.size (by simp), h.dge, h.mge⟩

theorem St.grow' {w0 w w' : World} {m d n : Nat} {L : List UInt8} {r : Nat} (h : St w0 w m d n L) (g : w.grownBy w' (some r)) (hr : w0.heap.size ≤ r) (h1 : r ≠ m) (h2 : r ≠ d) : St w0 w' m d n L :=
  ⟨h.mem.kept g (by simpa using h1) (by simpa using h2), h.below.grown g h.below.size (by simpa using hr), h.dge, h.mge⟩

theorem St.stored {w0 w : World} {m d n : Nat} {L : List UInt8} (h : St w0 w m d n L) (o : Nat) (xs : List UInt8) (ho : o + xs.length ≤ n * 4096) : St w0 (w.setCells d o (xs.map cell)) m d n (splice L o xs) :=
  ⟨h.mem.stored o xs ho, h.below.grown (grown_setCells w d o _) h.below.size (by simpa using h.dge), h.dge, h.mge⟩

theorem grown_drewN (w : World) (k : Nat) (r : Option Nat) : w.grownBy (w.drewN k) r := ⟨rfl, rfl, rfl, Nat.le_refl _, fun _ _ _ => rfl⟩

section
variable {w0 w : World} {m d n : Nat} {L : List UInt8}

theorem newE (w0 : World) {w : World} (hb : Below w0.heap.size w0 w) (N : Int) (n : Nat) (hN : N = n) (h1 : 1 ≤ n) (h2 : n ≤ 256) :
    Calls Try.prog 10 #[.int .i64 N] w fun e w' => e = .returned (.pointer (some ⟨w.heap.size + 1, 0, none⟩)) ∧ St w0 w' (w.heap.size + 1) w.heap.size n (List.replicate (n * 4096) 0) ∧ w.grownBy w' none := by
  subst hN
  exact (new_ok n w h1 h2).mono fun e w' ⟨he, hM, hG, hz⟩ => ⟨he, ⟨hM, hb.grown hG hb.size (by simp), hb.size, by have := hb.size; omega⟩, hG⟩

theorem framesE (h : St w0 w m d n L) : Calls Try.prog 30 #[.pointer (some ⟨m, 0, none⟩)] w fun e w' => e = .returned (.int .i64 n) ∧ w = w' := frames_ok h.mem

theorem wordE (h : St w0 w m d n L) (I J : Int) (i j : Nat) (x : Int) (hI : I = i) (hJ : J = j) (hi : i < n) (hj : j < 512) (hx : ((wordOf ((L.drop (i * 4096 + j * 8)).take 8) : Nat) : Int) = x) :
    Calls Try.prog 25 #[.pointer (some ⟨m, 0, none⟩), .int .i64 I, .int .i64 J] w fun e w' => e = .returned (.tuple #[.int .u64 x, .bool true]) ∧ w = w' := by
  subst hI hJ hx
  exact word_ok h.mem i j hi hj

theorem setWordE (h : St w0 w m d n L) (I J V : Int) (i j v : Nat) (hI : I = i) (hJ : J = j) (hV : V = v) (hi : i < n) (hj : j < 512) (hv : v < 18446744073709551616) :
    Calls Try.prog 26 #[.pointer (some ⟨m, 0, none⟩), .int .i64 I, .int .i64 J, .int .u64 V] w fun e w' =>
      e = .returned (.bool true) ∧ St w0 w' m d n (splice L (i * 4096 + j * 8) (bytesOf v)) ∧ w.grownBy w' (some d) := by
  subst hI hJ hV
  exact (setWord_ok h.mem i j v hi hj hv).mono fun e w' ⟨he, hw⟩ => ⟨he, hw ▸ h.stored _ _ (by rw [bytesOf_length]; omega), hw ▸ grown_setCells _ _ _ _⟩

theorem zeroE (h : St w0 w m d n L) (I : Int) (i : Nat) (hI : I = i) (hi : i < n) :
    Calls Try.prog 32 #[.pointer (some ⟨m, 0, none⟩), .int .i64 I] w fun e w' => e = .returned (.bool true) ∧ St w0 w' m d n (splice L (i * 4096) zeroPage) ∧ w.grownBy w' (some d) := by
  subst hI
  exact (zero_ok h.mem i hi).mono fun e w' ⟨he, hw⟩ => ⟨he, hw ▸ h.stored _ _ (by rw [zeroPage_length]; omega), hw ▸ grown_setCells _ _ _ _⟩

theorem pageE (h : St w0 w m d n L) (I : Int) (i : Nat) (hI : I = i) (hi : i < n) :
    Calls Try.prog 54 #[.pointer (some ⟨m, 0, none⟩), .int .i64 I] w fun e w' =>
      e = .returned (.slice (some ⟨w.heap.size, 0, none⟩) 4096 4096) ∧ St w0 w' m d n L ∧ w.grownBy w' none ∧ w'.heap[w.heap.size]? = some (.cells ((pageOf L i).map cell).toArray 104 (0, 0)) := by
  subst hI
  exact (page_ok h.mem i hi).mono fun e w' ⟨he, hG, _, hp⟩ => ⟨he, h.grow hG, hG, hp⟩

end

/-- Bytes that were there when the law began read the same. -/
theorem Src.below {w w' : World} {s : Option Addr} {l : Nat} {bs : List UInt8} (h : Src w s l bs) (b : Below w.heap.size w w') : Src w' s l bs := by
  refine ⟨h.1, ?_⟩
  by_cases hl : l = 0
  · exact .inl hl
  · rcases h.2 with h0 | ⟨g, o, rfl, hr⟩
    · exact absurd h0 hl
    · refine .inr ⟨g, o, rfl, range_kept hr (b.block g ?_)⟩
      obtain ⟨x, hx⟩ : ∃ x, (bs.map cell)[0]? = some x := by
        cases bs with
        | nil => simp [← h.1] at hl
        | cons x r => exact ⟨_, rfl⟩
      exact World.block_lt_of_cell? w _ (hr 0 x hx)

/-- One byte of bytes that came in. -/
theorem Src.cell {w : World} {s : Option Addr} {l : Nat} {bs : List UInt8} (h : Src w s l bs) (q : Nat) (hq : q < l) : ∃ g o, s = some ⟨g, o, none⟩ ∧ w.cell? ⟨g, o + q, none⟩ = some (.int .u8 (bs.getD q 0).toNat) := by
  rcases h.2 with h0 | ⟨g, o, rfl, hr⟩
  · omega
  · refine ⟨g, o, rfl, hr q _ ?_⟩
    have hq' : q < bs.length := by rw [h.1]; exact hq
    simp [List.getD, List.getElem?_eq_getElem hq', Extern.Stop.cell]

theorem fillOf_getD_in (bs : List UInt8) (q : Nat) (h : q < bs.length) (h4 : q < 4096) : (fillOf bs).getD q 0 = bs.getD q 0 := by
  simp only [fillOf, List.getD]
  rw [List.getElem?_append_left (by simp; omega), List.getElem?_take, if_pos h4]

theorem fillOf_getD_out (bs : List UInt8) (q : Nat) (h : bs.length ≤ q) : (fillOf bs).getD q 0 = 0 := by
  simp only [fillOf, List.getD]
  by_cases h4 : bs.length ≤ 4096
  · rw [List.getElem?_append_right (by simp; omega), List.getElem?_replicate]
    split <;> rfl
  · rw [List.getElem?_eq_none (by simp; omega)]; rfl
end Go.Proofs.Ytlieommbomjdaaa

namespace Go.Proofs.Ytlieommbomjdaaa
open Go.ChangeShapes Go.WideShapes Go.ChangeAt Go.RowKit Go.Deep
open Extern.Stop (cell)

section
variable {H : Type} {enc : TypeId × Value → H} {P : Program} {w : World} {base : Nat} {spare : Nat → Bool} {held : Bool}

theorem byte_of_wf {x : Int} (h : (Lit.int .u8 x).wf = true) : 0 ≤ x ∧ x < 256 := by
  simp [Lit.wf, IntKind.min, IntKind.max, IntKind.signed, IntKind.bits] at h
  omega

/-- A slice of bytes that came in. -/
theorem src_of_trod {t e : TypeId} {fuel : Nat} {s : Option Addr} {l c : Nat} {x : DataW H × List MemPlace} (ht : P.underlying t = some (.slice e)) (he : P.underlying e = some (.int .u8)) (hc : P.cellsOf e = 1)
    (h : DataW.trod enc P w base spare held fuel t [.slice s l c] = some x) : ∃ bs, Src w s l bs ∧ l ≤ c := by
  rcases open_ints ht he hc h with ⟨hcs, _⟩ | ⟨a, l', c', zs, hcs, _, hl, _, hz, _, hcell, hwf⟩
  · simp at hcs
    obtain ⟨rfl, rfl, rfl⟩ := hcs
    exact ⟨[], ⟨rfl, .inl rfl⟩, Nat.le_refl _⟩
  · simp at hcs
    obtain ⟨rfl, rfl, rfl⟩ := hcs
    have hlz : l ≤ zs.length := by rw [hz]; split <;> omega
    refine ⟨(zs.take l).map b8, ⟨by simp; omega, ?_⟩, hl⟩
    by_cases h0 : l = 0
    · exact .inl h0
    · obtain ⟨b, o, spot⟩ := a
      have hspot : spot = none := by
        have := hcell 0 (by omega)
        simpa [Addr.add] using World.cell?_spot this
      subst hspot
      refine .inr ⟨b, o, rfl, fun j v hv => ?_⟩
      simp only [List.map_map, List.getElem?_map, List.getElem?_take] at hv
      split at hv
      · rename_i hj
        have hjz : j < zs.length := by omega
        have hcj := hcell j hjz
        rw [Addr.add_mid] at hcj
        rw [hcj]
        rw [List.getElem?_eq_getElem hjz] at hv
        have hb := byte_of_wf (hwf _ (List.getElem_mem hjz))
        simp only [Option.map_some, Function.comp, Option.some.injEq] at hv
        rw [← hv, cell_b8 hb.1 hb.2]
        simp [List.getD, List.getElem?_eq_getElem hjz]
      · simp at hv

/-- A struct of one-cell fields: each field's cell, and its reading. -/
theorem struct_cells {t : TypeId} {fs : Array Field} {fuel : Nat} {cs : List Value} {x : DataW H × List MemPlace} (ht : P.underlying t = some (.struct fs)) (hone : oneCellFields P fs = true) (hC : P.cellsOf t = fs.size)
    (h : DataW.trod enc P w base spare held fuel t cs = some x) :
    cs.length = fs.size ∧ ∃ m, ∀ (i : Nat) (f : Field), fs[i]? = some f → ∃ v y, cs[i]? = some v ∧ DataW.trod enc P w base spare held m f.type [v] = some y := by
  obtain ⟨xs, n, _, _, hlen, hxs, hf⟩ := DataW.trod_struct ht h
  refine ⟨hlen.trans hC, n, fun i f hi => ?_⟩
  have hlt : i < fs.size := (Array.getElem?_eq_some_iff.1 hi).1
  obtain ⟨ho, hk⟩ := hone_of hone i f hi
  have h1 := hf i f hi
  rw [ho, hk, List.drop_eq_getElem_cons (by omega)] at h1
  have hys : xs[i]? = some (xs[i]'(by omega)) := List.getElem?_eq_getElem (by omega)
  exact ⟨_, _, List.getElem?_eq_getElem (by omega), h1.trans hys⟩

theorem slice_of_trod {t e : TypeId} {fuel : Nat} {v : Value} {x : DataW H × List MemPlace} (ht : P.underlying t = some (.slice e)) (h : DataW.trod enc P w base spare held fuel t [v] = some x) : ∃ s l c, v = .slice s l c := by
  rcases DataW.trod_slice ht h with ⟨hcs, _⟩ | ⟨a, l, c, _, _, _, _, hcs, _⟩
  · exact ⟨_, _, _, by simpa using hcs⟩
  · exact ⟨_, _, _, by simpa using hcs⟩

theorem int_of_trod {k : IntKind} {t : TypeId} {fuel : Nat} {v : Value} {x : DataW H × List MemPlace} (ht : P.underlying t = some (.int k)) (h : DataW.trod enc P w base spare held fuel t [v] = some x) : ∃ n, v = .int k n ∧ (Lit.int k n).wf = true := by
  obtain ⟨n, hcs, _, hw⟩ := DataW.trod_int ht h
  exact ⟨n, by simpa using hcs, hw⟩
end
end Go.Proofs.Ytlieommbomjdaaa

namespace Go.Proofs.Ytlieommbomjdaaa
open Go.ChangeShapes Go.WideShapes Go.ChangeAt Go.RowKit
open Extern.Stop (cell)
set_option linter.unusedVariables false

theorem wordOf_bytes (n v : Nat) : wordOf ((List.range n).map fun k => UInt8.ofNat (v / 256 ^ k)) = v % 256 ^ n := by
  induction n with
  | zero => simp [wordOf, Nat.mod_one]
  | succ n ih =>
    rw [List.range_succ, List.map_append, List.map_singleton, wordOf_snoc, ih, List.length_map, List.length_range, Nat.pow_succ]
    have e : (UInt8.ofNat (v / 256 ^ n)).toNat = v / 256 ^ n % 256 := by simp
    rw [e, Nat.mod_mul]

theorem wordOf_bytesOf (v : Nat) (hv : v < 18446744073709551616) : wordOf (bytesOf v) = v := by
  rw [bytesOf, wordOf_bytes, Nat.mod_eq_of_lt (by simpa using hv)]

theorem take_splice {α : Type} {L xs : List α} {o : Nat} (h : o + xs.length ≤ L.length) : ((splice L o xs).drop o).take xs.length = xs := by
  apply List.ext_getElem?
  intro k
  rw [List.getElem?_take]
  split
  · rw [List.getElem?_drop, get_splice _ _ _ h, if_neg (by omega), if_pos (by omega)]
    congr 1
    omega
  · rw [List.getElem?_eq_none (by omega)]

theorem bytesOf_getD (v q : Nat) (hq : q < 8) : (bytesOf v).getD q 0 = UInt8.ofNat (v / 256 ^ q) := by
  rw [List.getD, bytesOf_get v q hq]; rfl

theorem run_str {w : World} {s : Option Addr} {l : Nat} {bs : List UInt8} (h : Src w s l bs) (c : Nat) : (convert 94 9 (.slice s l c)).run Try.prog w = .ok (.string ⟨bs.toArray⟩) w := by
  by_cases hl : l = 0
  · have hb : bs = [] := by have := h.1; cases bs <;> simp_all
    subst hl hb
    cases s with
    | none =>
      rw [run_convert_bytes_nil w 94 5 Try.underlying94 Try.underlying5 0 c _ Try.underlying9]
      rfl
    | some a =>
      rw [run_convert_bytes_string w _ _ 5 _ _ _ Try.underlying94 Try.underlying5 Try.underlying9,
        run_bytesToString w a 0 c [] (by simpa using run_loadCells_list (P := Try.prog) w a [] (by simp))]
      rfl
  · rcases h.2 with h0 | ⟨b, o, rfl, hr⟩
    · exact absurd h0 hl
    · rw [run_convert_bytes_arg w 94 5 Try.underlying94 Try.underlying5 b o l c (bs.map fun x => (x.toNat : Int)) (by simpa using h.1)
        (fun i hi => by
          have hi' : i < bs.length := by rw [h.1]; exact hi
          rw [hr i (cell bs[i]) (by simp [List.getElem?_eq_getElem hi'])]
          simp [List.getD, List.getElem?_eq_getElem hi', cell]) _ Try.underlying9]
      simp [strOfNums, Function.comp_def]

theorem St.mlt {w0 w : World} {m d n : Nat} {L : List UInt8} (h : St w0 w m d n L) : m < w.heap.size := (Array.getElem?_eq_some_iff.1 h.mem.head).1
theorem St.dlt {w0 w : World} {m d n : Nat} {L : List UInt8} (h : St w0 w m d n L) : d < w.heap.size := (Array.getElem?_eq_some_iff.1 h.mem.body).1

theorem St.noFrame {w0 w : World} {m d n : Nat} {L : List UInt8} (h : St w0 w m d n L) (i : Int) (hi : ¬ (0 ≤ i ∧ i < n)) : NoFrame w (some ⟨m, 0, none⟩) i := find_out h.mem i hi

theorem St.finds {w0 w : World} {m d n : Nat} {L : List UInt8} (h : St w0 w m d n L) (i : Int) : ∃ x, Finds w (some ⟨m, 0, none⟩) i x ∧ (¬ (0 ≤ i ∧ i < n) → x = none) := by
  by_cases hi : 0 ≤ i ∧ i < n
  · obtain ⟨a, rfl⟩ := Int.eq_ofNat_of_zero_le hi.1
    exact ⟨_, find_ok h.mem a (by omega), fun h => absurd hi h⟩
  · exact ⟨none, find_out h.mem i hi, fun _ => rfl⟩

theorem St.noWord {w0 w : World} {m d n : Nat} {L : List UInt8} (h : St w0 w m d n L) (i j : Int) (hi : ¬ ((0 ≤ i ∧ i < n) ∧ (0 ≤ j ∧ j < 512))) : NoWord w (some ⟨m, 0, none⟩) i j := by
  by_cases h1 : 0 ≤ i ∧ i < n
  · obtain ⟨a, rfl⟩ := Int.eq_ofNat_of_zero_le h1.1
    exact findWord_out h.mem a j (by omega) (by omega)
  · exact findWord_no _ i j _ (find_out h.mem i h1)

theorem blk_kept {w w' : World} {g : Nat} {o : Obj} {r : Option Nat} (h : w.heap[g]? = some o) (G : w.grownBy w' r) (hr : r ≠ some g) : w'.heap[g]? = some o :=
  (G.block g (Array.getElem?_eq_some_iff.1 h).1 (Ne.symm hr)).trans h

end Go.Proofs.Ytlieommbomjdaaa
