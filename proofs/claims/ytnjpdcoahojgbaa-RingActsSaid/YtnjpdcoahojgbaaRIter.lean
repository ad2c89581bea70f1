/- The two iterators: over a row as it stands, and over a slice; for every body that keeps the blocks that they read. -/
import Derived.RangeFuncNested
import Derived.RangeFuncBound
import Derived.RangeFuncCalls
import Derived.RangeFuncLeaves
import Derived.RangeFuncBox
import Derived.Shelf.Abstract
import Derived.Shelf.RegionOpen
import Derived.OwnWalkIn
import Derived.TacticsInMore
import Derived.LoopNIn
import Derived.LoopIn
import Derived.Lib.Builder
import Derived.Test.YtnjpdcoahojgbaaRNums
namespace Go.Proofs.Ytnjpdcoahojgbaa.RInt
open Go.ChangeShapes Go.WideShapes Go.ChangeAt Go.RowKit
set_option linter.unusedVariables false
attribute [local go_sem] Oper.semAt_some

/-- What a body must keep: the blocks that the iterator reads. -/
def KpB (G : List Nat) (W W' : World) : Prop := ∀ k, k ∈ G → W'.heap[k]? = W.heap[k]?

theorem kpB_t {G : List Nat} {A B C : World} (h : KpB G A B) (k : KpB G B C) : KpB G A C := fun i hi => (k i hi).trans (h i hi)
theorem kpB_b {G : List Nat} {w : World} (hG : ∀ k, k ∈ G → k < w.heap.size) (W : World) (l : Nat) (o o' : Obj) (hl : w.heap.size ≤ l) (_ : W.heap[l]? = some o) (_ : o.isCells = false) (_ : o.isWalk = false) : KpB G W (W.putObj l o') :=
  fun k hk => World.putObj_heap_other (by have := hG k hk; omega)

/-- How many are still to come. -/
def blockOf : Value → Nat
  | .pointer (some a) => a.block
  | _ => 0
def leftOf (ns : List (K × Nat)) (v : Value) : Nat := ns.length - ns.findIdx (fun n => n.2 == blockOf v)

theorem leftOf_at {pre rest : List (K × Nat)} {n : K × Nat} (h : ((pre ++ n :: rest).map (·.2)).Nodup) : leftOf (pre ++ n :: rest) (.pointer (some ⟨n.2, 0, none⟩)) = rest.length + 1 := by
  unfold leftOf blockOf
  simp only
  rw [List.findIdx_append]
  have hno : ∀ m, m ∈ pre → (m.2 == n.2) = false := by
    intro m hm
    rw [List.map_append, List.map_cons] at h
    have := (List.nodup_append.1 h).2.2 m.2 (List.mem_map.2 ⟨m, hm, rfl⟩) n.2 (by simp)
    simpa using this
  have e1 : pre.findIdx (fun m => m.2 == n.2) = pre.length := List.findIdx_eq_length.2 hno
  rw [e1]
  simp [List.findIdx_cons]

theorem leftOf_end {ns : List (K × Nat)} {L o : Nat} (h : L ∉ ns.map (·.2)) : leftOf ns (.pointer (some ⟨L, o, none⟩)) = 0 := by
  unfold leftOf blockOf
  simp only
  have e1 : ns.findIdx (fun m => m.2 == L) = ns.length := List.findIdx_eq_length.2 fun m hm => by
    have : m.2 ≠ L := fun e => h (e ▸ List.mem_map.2 ⟨m, hm, rfl⟩)
    simpa using this
  rw [e1, Nat.sub_self]

theorem info_place : ∃ j, Try.prog.info? 59 = some j ∧ j.size ≠ 0 := by
  have h : (Try.prog.info? 59).map (fun i => i.size) = some 4 := by kernel_rfl
  obtain ⟨j, hj, hs⟩ := Option.map_eq_some_iff.1 h
  exact ⟨j, hj, by omega⟩

/-- Two places held against each other. -/
theorem neq_same (w : World) (a : Addr) : (binOp .neq 57 (.pointer (some a)) (.pointer (some a))).run Try.prog w = .ok (.bool false) w := by
  obtain ⟨j, hj, _⟩ := info_place
  exact Lib.run_neq_ptr_same w a Try.underlying57 hj

theorem neq_other {w : World} {F : Gm} (h : Holds w F) {a L o o' x y : Nat} {v v' : Value} (ha : F a o = some v) (hL : F L o' = some v') (hne : ¬ a = L) :
    (binOp .neq 57 (.pointer (some ⟨a, x, none⟩)) (.pointer (some ⟨L, y, none⟩))).run Try.prog w = .ok (.bool true) w := by
  obtain ⟨j, hj, hsz⟩ := info_place
  obtain ⟨ca, ta, e1⟩ := h.zero _ _ _ ha
  obtain ⟨cb, tb, e2⟩ := h.zero _ _ _ hL
  have hs := run_sameAddr_other (P := Try.prog) w (a := ⟨a, x, none⟩) (b := ⟨L, y, none⟩) (by intro e; cases e; exact hne rfl) e1 e2
  have h1 : ∀ d : Nat, (Op.equalIn (d + 1) 57 (.pointer (some ⟨a, x, none⟩)) (.pointer (some ⟨L, y, none⟩))).run Try.prog w = .ok false w := fun d => by
    simp [Op.equalIn, run_underlying Try.underlying57, sizeOf, typeInfo, hj, hsz, hs]
  simp only [binOp]
  simp [Op.equal, Op.maxDepth, h1 9999]

/-- Where the next one stands. -/
def nextOf (e : Pl) : List (K × Nat) → Pl
  | [] => e
  | n :: _ => nd n

theorem nextOf_nil (e : Pl) : nextOf e [] = e := rfl
theorem nextOf_cons (e : Pl) (n : K × Nat) (ns : List (K × Nat)) : nextOf e (n :: ns) = (n.2, 0) := rfl

theorem next_link {F : Gm} {L r : Nat} {n : K × Nat} {pre rest : List (K × Nat)} (h : Ch (Lk F) (ringOf L r (pre ++ n :: rest))) : F n.2 3 = some (ptr (nextOf (endOf L r) rest)) := by
  obtain ⟨B, hB⟩ : ∃ B, rest.map nd ++ [endOf L r] = nextOf (endOf L r) rest :: B := by
    cases rest with
    | nil => exact ⟨[], rfl⟩
    | cons m rest => exact ⟨_, rfl⟩
  unfold ringOf at h
  rw [List.map_append, List.map_cons, List.append_assoc, List.cons_append, hB, ← List.cons_append] at h
  exact (Ch.split.1 h).2.1.1

theorem left_less {ns pre rest : List (K × Nat)} {x : K × Nat} {L r : Nat} (h : ns = pre ++ x :: rest) (hnd : (ns.map (·.2)).Nodup) (hL : L ∉ ns.map (·.2))
    (ha : leftOf (pre ++ x :: rest) (.pointer (some ⟨x.2, 0, none⟩)) = rest.length + 1) :
    leftOf ns (.pointer (some ⟨(nextOf (endOf L r) rest).1, (nextOf (endOf L r) rest).2, none⟩)) < leftOf ns (.pointer (some ⟨x.2, 0, none⟩)) := by
  rw [← h] at ha
  rw [ha]
  cases rest with
  | nil =>
    have := leftOf_end (o := r * 5) hL
    rw [nextOf_nil]
    unfold endOf
    simp only
    rw [this]
    omega
  | cons m rest =>
    rw [nextOf_cons]
    simp only
    have e : ns = (pre ++ [x]) ++ m :: rest := by rw [h]; simp
    rw [e] at hnd ⊢
    rw [leftOf_at hnd]
    simp

set_option maxRecDepth 100000 in
set_option maxHeartbeats 1000000 in
/-- The row's iterator. -/
theorem walk1_in (n : Nat) (hn : 1 ≤ n) (l Bn L r : Nat) (G : List Nat) (F : Gm) (hF : ∀ b o v, F b o = some v → b ∈ G) (ns : List (K × Nat)) (hb0 : F Bn 0 = some (ptr (endOf L r))) (hch : Ch (Lk F) (ringOf L r ns)) (hit : ∀ m, m ∈ ns → F m.2 0 = some (.int .i64 m.1))
    (hnd : (ns.map (·.2)).Nodup) (hL : L ∉ ns.map (·.2)) (J Jx : List Int → World → Prop)
    (hY : ∀ pre x W, J pre W → pre.length < ns.length → YieldAt Fence.wide (n - 1) Try.prog l #[.int .i64 x] W fun e W' =>
      (e = .returned (.bool true) ∧ J (pre ++ [x]) W' ∧ KpB G W W') ∨ (e = .returned (.bool false) ∧ Jx (pre ++ [x]) W'))
    (W : World) (hW : Holds W F) (h0 : J [] W) :
    CallsIn Fence.wide n Try.prog 54 #[.func (.yield l) #[] #[], .pointer (some ⟨Bn, 0, none⟩)] W fun e W' => (∃ v, e = .returned v) ∧
      ((∃ ys, ys = ns.map (·.1) ∧ J ys W') ∨ (∃ pre, pre <+: ns.map (·.1) ∧ Jx pre W')) := by
  have hfst : F L (r * 5 + 3) = some (ptr (nextOf (endOf L r) ns)) := by
    cases ns with
    | nil => exact hch.1.1
    | cons m rest => exact hch.1.1
  have c0 := hW.cell _ _ _ hb0
  have c1 := hW.cell _ _ _ hfst
  unfold ptr endOf at c0
  simp only at c0
  unfold ptr at c1
  have HB0 := Lib.hid hb0
  have HIT := Lib.hid hit
  have HW := Lib.hid hW
  have HF := Lib.hid hF
  have HCH := Lib.hid hch
  have HND := Lib.hid hnd
  have HL := Lib.hid hL
  have HLF := Lib.hid hfst
  clear hb0 hit hW hF hch hnd hL hfst
  refine callsIn_of_wp Try.func54 rfl trivial ?_ rfl
  simp only [Try.ntmps54, List.size_toArray, List.length_cons, List.length_nil, Nat.reduceAdd, Nat.reduceSub, Array.replicate_succ, Array.replicate_zero, List.push_toArray, List.append_toArray, List.nil_append, List.cons_append]
  gi_wp2
  gi_loopw [3] (fun p wr => ∃ (pre rest : List (K × Nat)), p = .pointer (some ⟨(nextOf (endOf L r) rest).1, (nextOf (endOf L r) rest).2, none⟩) ∧ Hid (ns = pre ++ rest) ∧ Hid (Holds wr F) ∧ J (pre.map (·.1)) wr)
    (fun p _ => leftOf ns p)
  case atStart => exact ⟨[], ns, rfl, rfl, HW, h0⟩
  case round =>
    obtain ⟨pre, rest, rfl, HN, HH, hJs⟩ := hrel
    have d0 := HH.out.cell _ _ _ HB0.out
    unfold ptr endOf at d0
    simp only at d0
    cases rest with
    | nil =>
      have hns : ns = pre := by rw [HN.out]; simp
      subst hns
      have hq := neq_same wr ⟨L, r * 5, none⟩
      simp only [nextOf_nil, endOf]
      gi_wp2
      go_end0
      exact ⟨⟨_, rfl⟩, .inl ⟨_, rfl, hJs⟩⟩
    | cons x rest =>
      have hlen : (pre.map (·.1)).length < ns.length := by rw [HN.out]; simp
      have hlk := HCH.out
      rw [HN.out] at hlk
      have hnx := next_link hlk
      have hix := HIT.out x (by rw [HN.out]; simp)
      have hxL : ¬ x.2 = L := fun e => HL.out (by rw [HN.out, ← e]; simp)
      have d1 := HH.out.cell _ _ _ hix
      have hq : (binOp .neq 57 (.pointer (some ⟨x.2, 0, none⟩)) (.pointer (some ⟨L, r * 5, none⟩))).run Try.prog wr = .ok (.bool true) wr := neq_other HH.out hix HLF.out hxL
      have HNX := Lib.hid hnx
      have hndx : ((pre ++ x :: rest).map (·.2)).Nodup := by rw [← HN.out]; exact HND.out
      have HLA := Lib.hid (leftOf_at hndx)
      clear hlk hnx hix hndx
      obtain ⟨fn, tmps, assign, body, hy, hR⟩ := hY (pre.map (·.1)) x.1 wr hJs hlen
      simp only [nextOf_cons]
      gi_wp2
      refine hR.mono ?_
      rintro e W3 (⟨rfl, hJ3, hk3⟩ | ⟨rfl, hJx3⟩)
      · have HH3 := Lib.hid (HH.out.kept (w' := W3) fun b o v hv => hk3 b (HF.out b o v hv))
        have d2 := HH3.out.cell _ _ _ HNX.out
        unfold ptr at d2
        gi_wp2
        go_roundw
        case rel => exact ⟨pre ++ [x], rest, rfl, by show ns = _; rw [HN.out]; simp, HH3, by simpa using hJ3⟩
        case measure =>
          exact left_less HN.out HND.out HL.out HLA.out
      · gi_wp2
        refine bodyPost_ret (results_none rfl _ _ _) rfl ?_
        exact ⟨⟨_, rfl⟩, .inr ⟨_, ⟨rest.map (·.1), by rw [HN.out]; simp⟩, hJx3⟩⟩
end Go.Proofs.Ytnjpdcoahojgbaa.RInt
