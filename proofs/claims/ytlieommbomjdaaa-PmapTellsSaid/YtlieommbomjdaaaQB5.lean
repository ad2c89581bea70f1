/- Package pmap: slices.Backward over the functions that undo; one of those. Package pmap: takeTables. -/
import Derived.Test.YtlieommbomjdaaaQB4
import Derived.RangeFuncWrites
import Derived.RangeFuncNested
import Derived.RangeFuncBound
import Derived.RangeFuncCalls
import Derived.RangeFuncLeaves
import Derived.RangeFuncBox
import Derived.Shelf.Abstract
import Derived.Shelf.RegionOpen
import Derived.OwnWalkIn
import Derived.TacticsInMore
import Derived.LoopNIn
import Derived.LoopIn
namespace Go.Proofs.Ytlieommbomjdaaa
open Go.ChangeShapes Go.WideShapes Go.ChangeAt Go.RowKit Go.Deep
set_option linter.unusedVariables false
attribute [local go_sem] Oper.semAt_some

section
variable {w0 w w' w2 : World} {m d n p x : Nat} {O O2 : List Nat} {a r : Int} {M M' : List UInt8} {xs zs : List FrV}
/-- One that undoes. -/
theorem sp_back (h : QX w0 w m d n p O x a r M xs) (y b : Nat) (k e0 : Int) (hy : w.cell? ⟨y, 0, none⟩ = some (.pointer (some ⟨x, 0, none⟩))) (hb : w.cell? ⟨b, 0, none⟩ = some (.int .i64 k)) (hg : giveF xs k = ⟨0, e0, zs⟩) (hz : zs.length = n) (hyn : y ∉ O) (hbn : b ∉ O) :
    Calls Try.prog 63 #[.pointer (some ⟨y, 0, none⟩), .pointer (some ⟨b, 0, none⟩)] w fun e w' => e = .returned (.tuple #[]) ∧ QXL w0 w w' m d n p O x a r M zs := by
  have hD := h.grow (grown_drew1 w)
  have hG := pp_give hD.pool k
  rw [hg] at hG
  have HG := Lib.hid hG
  have hc : w.drew.cell? ⟨y, 0, none⟩ = some (.pointer (some ⟨x, 0, none⟩)) ∧ w.drew.cell? ⟨b, 0, none⟩ = some (.int .i64 k) ∧ w.drew.cell? ⟨x, 1, none⟩ = some (.pointer (some ⟨p, 0, none⟩)) := ⟨hy, hb, hD.sp.at.2.1⟩
  have HD := Lib.hid hD
  have HZ := Lib.hid hz
  have hylt : y < w.heap.size := World.block_lt_of_cell? w _ hy
  have hblt : b < w.heap.size := World.block_lt_of_cell? w _ hb
  have HC := Lib.hid (show ∀ W, FLeft PP w.drew W p 0 O zs → W.cell? ⟨y, 0, none⟩ = some (.pointer (some ⟨x, 0, none⟩)) ∧ W.cell? ⟨b, 0, none⟩ = some (.int .i64 k) ∧ W.cell? ⟨x, 1, none⟩ = some (.pointer (some ⟨p, 0, none⟩)) from fun W g => by
    obtain ⟨O', k1, k2, k3⟩ := g
    exact ⟨(World.cell?_of_block (w := w.drew) (a := ⟨y, 0, none⟩) (k2.block y hylt hyn)).trans hy, (World.cell?_of_block (w := w.drew) (a := ⟨b, 0, none⟩) (k2.block b hblt hbn)).trans hb, (World.cell?_of_block (w := w.drew) (a := ⟨x, 1, none⟩) (k2.block x hD.sp.lt fun hm => hD.xn (by simp [hm]))).trans hD.sp.at.2.1⟩)
  clear h hD hG hg hy hb hylt hblt hyn hbn
  go_enter Try.func63, Try.ntmps63
  go_wp2_with fail
  go_region_held3 (fun W => W.cell? ⟨y, 0, none⟩ = some (.pointer (some ⟨x, 0, none⟩)) ∧ W.cell? ⟨b, 0, none⟩ = some (.int .i64 k) ∧ W.cell? ⟨x, 1, none⟩ = some (.pointer (some ⟨p, 0, none⟩))) (first | with_reducible exact hc | with_reducible exact (HC.out _ F2.out))
    (first
      | (go_at_call 44; (with_reducible refine (HG.out.mono ?_)); rintro e' w2 ⟨rfl, g2⟩; have F2 := Lib.hid g2; clear g2))
  all_goals
    go_wp2_with fail
    go_end0
    refine ⟨rfl, ?_⟩
    obtain ⟨O2, k1, k2, k3⟩ := HD.out.pool' F2.out HZ.out
    exact ⟨O2, k1, (Turn.grown (grown_drew1 w)).trans' k2, k3⟩

/-- Blocks of cells turn with no block that is none. -/
theorem PP.cells (h : PP w p 0 xs O) : ∀ b, b ∈ O → ∃ o : Obj, w.heap[b]? = some o ∧ o.isCells = true := by
  obtain ⟨g, c, rfl, h⟩ := h
  obtain ⟨cur, hc, _⟩ := h.cur
  intro b hb
  simp only [List.mem_cons, List.not_mem_nil, or_false] at hb
  rcases hb with rfl | rfl
  · exact ⟨_, h.head, rfl⟩
  · exact ⟨_, hc, rfl⟩
theorem QX.cells (h : QX w0 w m d n p O x a r M xs) : ∀ b, b ∈ x :: m :: d :: O → ∃ o : Obj, w.heap[b]? = some o ∧ o.isCells = true := by
  intro b hb
  simp only [List.mem_cons] at hb
  rcases hb with rfl | rfl | rfl | hb
  · exact ⟨_, h.sp, rfl⟩
  · exact ⟨_, h.st.mem.head, rfl⟩
  · exact ⟨_, h.st.mem.body, rfl⟩
  · exact h.pool.cells b hb
/-- A turn of a block that is none of cells. -/
theorem QX.own (h : QX w0 w m d n p O x a r M xs) {row : Option Nat} (hg : w.grownBy w' row) (hr : ∀ k, row = some k → w0.heap.size ≤ k ∧ ∃ o : Obj, w.heap[k]? = some o ∧ o.isCells = false) : QX w0 w' m d n p O x a r M xs := by
  cases row with
  | none => exact h.grow hg
  | some k =>
    obtain ⟨h0, o, ho, hc⟩ := hr k rfl
    refine h.turn (O2 := [k]) (Turn.one hg (by simp)) (fun b hb hm => ?_) (fun b hm => by rw [List.mem_singleton.1 hm]; exact h0)
    rw [List.mem_singleton.1 hm] at hb
    obtain ⟨o', ho', hc'⟩ := h.cells k hb
    rw [ho] at ho'
    injection ho' with e
    rw [e, hc'] at hc
    cases hc
theorem QXL.own {wa : World} (h : QXL w0 wa w m d n p O x a r M xs) {row : Option Nat} (hg : w.grownBy w' row) (hr : ∀ k, row = some k → wa.heap.size ≤ k ∧ ∃ o : Obj, w.heap[k]? = some o ∧ o.isCells = false) (h0 : w0.heap.size ≤ wa.heap.size) : QXL w0 wa w' m d n p O x a r M xs := by
  obtain ⟨O', k1, k2, k3⟩ := h
  refine ⟨O', k1.own hg fun k e => ⟨Nat.le_trans h0 (hr k e).1, (hr k e).2⟩, ⟨hg.os.trans k2.os, hg.tape.trans k2.tape, hg.output.trans k2.output, Nat.le_trans k2.size hg.size, fun k hk hn => (hg.block k (Nat.lt_of_lt_of_le hk k2.size) fun e => ?_).trans (k2.block k hk hn)⟩, k3⟩
  have := (hr k e.symm).1
  omega

set_option maxHeartbeats 1000000 in
/-- slices.Backward over one function, or none: it is handed on, once. -/
theorem backward1_in (nd : Nat) (hn : 1 ≤ nd) (l Bs : Nat) (g : Nat) (c : Nat) (F : Value) (us : List Unit) (hu : us.length ≤ 1) (sv : Value) (hsv : sv = if us.length = 0 then .slice none 0 0 else .slice (some ⟨g, 0, none⟩) 1 c) (J Jx : List Unit → World → Prop)
    (hY : ∀ pre u W, J pre W → pre.length < us.length → YieldAt Fence.wide (nd - 1) Try.prog l #[.int .i64 0, F] W fun e W' =>
      (e = .returned (.bool true) ∧ J (pre ++ [u]) W' ∧ True) ∨ (e = .returned (.bool false) ∧ Jx (pre ++ [u]) W'))
    (W : World) (hBs : W.cell? ⟨Bs, 0, none⟩ = some sv) (hI : us.length = 1 → W.cell? ⟨g, 0, none⟩ = some F) (h0 : J [] W) :
    CallsIn Fence.wide nd Try.prog 86 #[.func (.yield l) #[] #[], .pointer (some ⟨Bs, 0, none⟩)] W fun e W' => (∃ v, e = .returned v) ∧
      ((∃ ys, ys = us ∧ J ys W') ∨ (∃ pre, pre <+: us ∧ Jx pre W')) := by
  rcases us with _ | ⟨u, us⟩
  · subst hsv
    refine callsIn_of_wp Try.func86 rfl trivial ?_ rfl
    simp only [Try.ntmps86, List.size_toArray, List.length_cons, List.length_nil, Nat.reduceAdd, Nat.reduceSub, Array.replicate_succ, Array.replicate_zero, List.push_toArray, List.append_toArray, List.nil_append, List.cons_append]
    simp only [List.length_nil, if_true] at hBs
    gi_wp2
    gi_loopw [3] (fun i wr => i = .int .i64 (-1) ∧ wr = W) (fun i _ => 0)
    case atStart => exact ⟨rfl, rfl⟩
    case round =>
      obtain ⟨rfl, rfl⟩ := hrel
      gi_wp2
      go_end0
      exact ⟨⟨_, rfl⟩, .inl ⟨_, rfl, h0⟩⟩
  · have hus : us = [] := by cases us with | nil => rfl | cons v vs => simp at hu
    subst hus
    subst hsv
    have hc := hI rfl
    have HY := Lib.hid (hY [] u W h0 (by simp))
    simp only [List.length_cons, List.length_nil] at hBs
    rw [if_neg (by decide)] at hBs
    refine callsIn_of_wp Try.func86 rfl trivial ?_ rfl
    simp only [Try.ntmps86, List.size_toArray, List.length_cons, List.length_nil, Nat.reduceAdd, Nat.reduceSub, Array.replicate_succ, Array.replicate_zero, List.push_toArray, List.append_toArray, List.nil_append, List.cons_append]
    obtain ⟨fn, tmps, assign, body, hy, hR⟩ := HY.out
    gi_wp2
    gi_loopw [3] (fun i wr => (i = .int .i64 0 ∧ wr = W) ∨ (i = .int .i64 (-1) ∧ J [u] wr)) (fun i _ => (intOf i + 1).toNat)
    case atStart => exact .inl ⟨rfl, rfl⟩
    case round =>
      rcases hrel with ⟨rfl, rfl⟩ | ⟨rfl, hJ⟩
      · gi_wp2
        refine hR.mono ?_
        rintro e W3 (⟨rfl, hJ3, _⟩ | ⟨rfl, hJx3⟩)
        · gi_wp2
          go_roundw
          case rel => exact .inr ⟨rfl, hJ3⟩
          case measure => simp [intOf]
        · gi_wp2
          refine bodyPost_ret (results_none rfl _ _ _) rfl ?_
          exact ⟨⟨_, rfl⟩, .inr ⟨[u], List.prefix_refl _, hJx3⟩⟩
      · gi_wp2
        go_end0
        exact ⟨⟨_, rfl⟩, .inl ⟨_, rfl, hJ⟩⟩
/-- What slices.Backward hands back, at a box that holds the slice. -/
theorem backward_stops (nd : Nat) (hn : 1 ≤ nd) (Bs : Nat) (g : Nat) (c : Nat) (F : Value) (us : List Unit) (hu : us.length ≤ 1) (sv : Value) (hsv : sv = if us.length = 0 then .slice none 0 0 else .slice (some ⟨g, 0, none⟩) 1 c) (w : World)
    (hBs : w.cell? ⟨Bs, 0, none⟩ = some sv) (hI : us.length = 1 → w.cell? ⟨g, 0, none⟩ = some F) :
    SeqStopsK Fence.wide nd Try.prog 86 #[.pointer (some ⟨Bs, 0, none⟩)] (fun _ : Unit => #[Value.int .i64 0, F]) (fun _ _ => True) (fun ys => ys = us) (fun pre => pre <+: us) us.length w := fun l J Jx W hW _ _ hY h0 =>
  backward1_in nd hn l Bs g c F us hu sv hsv J Jx hY W ((hW.cell (p := ⟨Bs, 0, none⟩) (World.block_lt_of_cell? w _ hBs)).trans hBs) (fun e => (hW.cell (p := ⟨g, 0, none⟩) (World.block_lt_of_cell? w _ (hI e))).trans (hI e)) h0
theorem backward_of (sv : Value) (w : World) (hk : sv.oneCell' = true) :
    Calls Try.prog 62 #[sv] w fun e w' => e = .returned (.func (.func 86) #[] #[.pointer (some ⟨w.heap.size, 0, none⟩)]) ∧ w' = w.alloc (.cells #[sv] 107) := by
  have hmf : ∀ (fn : Fn) (first cap : Array Value) (w : World), (Instr.makeFunc fn first cap).run Try.prog w = .ok (.func fn first cap) w := fun _ _ _ _ => rfl
  go_enter Try.func62, Try.ntmps62
  go_wp2
  go_ret
  exact ⟨rfl, rfl⟩
end
end Go.Proofs.Ytlieommbomjdaaa

namespace Go.Proofs.Ytlieommbomjdaaa
open Go.ChangeShapes Go.WideShapes Go.ChangeAt Go.RowKit Go.Deep
set_option linter.unusedVariables false
attribute [local go_sem] Oper.semAt_some

/-- Frames taken for tables from a level on: which ones, the error at the end, the pool behind. -/
inductive Takes (n : Nat) (a : Int) : Nat → List FrV → List Int → Int → List FrV → Prop
  | done {xs : List FrV} : Takes n a 3 xs [] 0 xs
  | step {l : Nat} {k : Int} {xs zs us : List FrV} {ts : List Int} {e : Int} : l < 3 → takeF 0 xs 1 a l = ⟨k, 0, zs⟩ → 0 ≤ k ∧ k < n → zs.length = n → Takes n a (l + 1) zs ts e us → Takes n a l xs (k :: ts) e us
  | fail {l : Nat} {e : Int} {xs : List FrV} : l < 3 → takeF 0 xs 1 a l = ⟨0, e, xs⟩ → e ≠ 0 → Takes n a l xs [] e xs

theorem info_fn7 : (Try.prog.info? 1).map (fun i => (i.zero, i.size, i.bytes)) = some (some .nilFunc, 1, 8) := by kernel_rfl
/-- 'append(fs, f)'. -/
theorem wpList_fn7 {ops : Array Oper} {rest : List Oper} {o : Oper} {a : Act} {Q : Exit → Act → World → Prop} (w : World) (hgd : o.guard = none) (s x : Operand)
    (ho : o.op = .call { callee := .builtin .append, args := #[s, x], argTypes := #[107, 107] }) (base : Nat) (v : Value) (n : Nat) (fs : List Value) (f : Value) (hs : a.eval s = v) (h : w.ownsRow base 1 1 v n fs) (H : Nat)
    (hx : a.eval x = .slice (some ⟨H, 0, none⟩) 1 1) (hH : w.heap.size = H) (hf : f.oneCell' = true) (hl : n ≤ 999999) (hbase : base ≤ w.heap.size)
    (hK : ∀ v' w', w'.ownsRow base 1 1 v' (n + 1) (fs ++ [f]) → (w.alloc (.cells #[f] 1)).grownBy w' v.ownBlock → (v'.ownBlock = v.ownBlock ∨ v'.ownBlock = some (w.alloc (.cells #[f] 1)).heap.size) → wpList Try.prog ops Q rest (a.put o.dst v') w') :
    wpList Try.prog ops Q (o :: rest) a (w.alloc (.cells #[f] 1)) := by
  subst hH
  obtain ⟨i0, hi, hz0, hz1, hz2⟩ := info_parts info_fn7
  refine wpList_append_own_at _ hgd s x 107 ho base 1 i0 .nilFunc 1 8 Try.underlying107 hi hz0 hz1 hz2 rfl (by decide) v n fs hs (World.ownsRow.alloc h _) ⟨w.heap.size, 0, none⟩ 1 1 [f] hx (by simp) ?_ ?_ (by unfold maxLen; omega) (by omega) (Nat.le_trans hbase (World.grownBy_alloc w (.cells #[f] 1) none).size) ?_
  · exact World.news_of_block (heap_alloc_new w _)
  · intro u hu
    rw [List.mem_singleton.1 hu]
    exact hf
  · intro v' w' h1 h2 _ h4
    exact hK v' w' h1 h2 h4

def undoF (y b : Nat) : Value := .func (.func 63) #[] #[.pointer (some ⟨y, 0, none⟩), .pointer (some ⟨b, 0, none⟩)]
/-- Between two rounds. -/
def TakeAt (w0 w wr : World) (m d n p : Nat) (O : List Nat) (x : Nat) (a r : Int) (M : List UInt8) (y q i : Nat) (tv uv : Value) (ts : List Int) (e : Int) (us : List FrV) : Prop :=
  ∃ O' zs done rest, QX w0 wr m d n p O' x a r M zs ∧ Turn (d :: O) w wr ∧ (∀ b, b ∈ O' → b ∈ O ∨ w.heap.size ≤ b) ∧ Takes n a i zs rest e us ∧ ts = done ++ rest ∧ IOwn wr w.heap.size tv done ∧
    ((i = q ∧ done = [] ∧ tv = .slice none 0 0 ∧ uv = .slice none 0 0 ∧ wr.cell? ⟨y, 0, none⟩ = some (.pointer (some ⟨x, 0, none⟩)) ∧ y ∉ O') ∨
     (i = q + 1 ∧ ∃ k b g c, done = [k] ∧ uv = .slice (some ⟨g, 0, none⟩) 1 c ∧ wr.ownsRow w.heap.size 1 1 uv 1 [undoF y b] ∧ wr.cell? ⟨b, 0, none⟩ = some (.int .i64 k) ∧ (b ∉ O' ∧ w.heap.size ≤ b) ∧ tv.ownBlock ≠ some g ∧ wr.cell? ⟨y, 0, none⟩ = some (.pointer (some ⟨x, 0, none⟩)) ∧ y ∉ O') ∨
     (i = q + 2 ∧ i = 3))
/-- What is told at the end. -/
def TakesE (w0 w w' : World) (m d n p : Nat) (O : List Nat) (x : Nat) (a r : Int) (M : List UInt8) (ts : List Int) (e : Int) (us vs : List FrV) (en : Ending) : Prop :=
  (e = 0 ∧ ∃ v, en = .returned (.tuple #[v, .int .i64 0]) ∧ ∃ O', QX w0 w' m d n p O' x a r M us ∧ Turn (d :: O) w w' ∧ (∀ b, b ∈ O' → b ∈ O ∨ w.heap.size ≤ b) ∧ IOwn w' w.heap.size v ts) ∨
  (e ≠ 0 ∧ en = .returned (.tuple #[.slice none 0 0, .int .i64 e]) ∧ QXL w0 w w' m d n p O x a r M vs)

section
variable {w0 w w' w2 : World} {m d n p x : Nat} {O O2 : List Nat} {a r : Int} {M M' : List UInt8} {xs zs us vs : List FrV} {ts : List Int} {e : Int}
theorem own_blk {base : Nat} {t : TypeId} {v : Value} {k g : Nat} {cs : List Value} (h : w.ownsRow base t 1 v k cs) (hg : v.ownBlock = some g) : base ≤ g ∧ ∃ cur, w.heap[g]? = some (.cells cur t (0, 0)) := by
  rcases h.2 with ⟨e, _⟩ | ⟨g', c', cur, e, hb, h2, _⟩
  · rw [e] at hg; cases hg
  · rw [e] at hg
    injection hg with hg
    exact ⟨hg ▸ hb, cur, hg ▸ h2⟩
theorem own_kept {base : Nat} {t : TypeId} {v : Value} {k : Nat} {cs : List Value} (h : w.ownsRow base t 1 v k cs) (hb : ∀ b, v.ownBlock = some b → w'.heap[b]? = w.heap[b]?) : w'.ownsRow base t 1 v k cs := by
  refine ⟨h.1, ?_⟩
  rcases h.2 with hn | ⟨g, cap, cur, rfl, hb2, h1, h2⟩
  · exact .inl hn
  · exact .inr ⟨g, cap, cur, rfl, hb2, (hb g rfl).trans h1, h2⟩
/-- A pool's blocks are no row of numbers, nor of functions. -/
theorem PP.other (h : PP w p 0 xs O) {g : Nat} {cur : Array Value} {t : TypeId} (hg : w.heap[g]? = some (.cells cur t (0, 0))) (h1 : t ≠ 74) (h2 : t ≠ 99) : g ∉ O := by
  obtain ⟨g', c, rfl, h⟩ := h
  obtain ⟨cur', hc, _⟩ := h.cur
  intro hb
  simp only [List.mem_cons, List.not_mem_nil, or_false] at hb
  rcases hb with rfl | rfl
  · have := h.head.symm.trans hg
    injection this with this
    injection this with _ this
    exact h1 this.symm
  · have := hc.symm.trans hg
    injection this with this
    injection this with _ this
    exact h2 this.symm
/-- A row of the call's own turns. -/
theorem QX.row (h : QX w0 w m d n p O x a r M xs) {base : Nat} {row : Option Nat} (g : w.grownBy w' row) (hb : w0.heap.size ≤ base) (hx : ∀ b, b ∈ x :: m :: d :: [] → b < base) {t : TypeId} (hr : ∀ k, row = some k → base ≤ k ∧ ∃ cur, w.heap[k]? = some (.cells cur t (0, 0))) (h1 : t ≠ 74) (h2 : t ≠ 99) : QX w0 w' m d n p O x a r M xs := by
  cases row with
  | none => exact h.grow g
  | some k =>
    obtain ⟨k1, cur, k2⟩ := hr k rfl
    refine h.turn (O2 := [k]) (Turn.one g (by simp)) (fun b hm e => ?_) (fun b hm => by rw [List.mem_singleton.1 hm]; omega)
    rw [List.mem_singleton.1 e] at hm
    by_cases hO : k ∈ O
    · exact h.pool.other k2 h1 h2 hO
    · have := hx k (by simp only [List.mem_cons] at hm ⊢; rcases hm with hm | hm | hm | hm <;> simp [hm] at hO ⊢)
      omega
theorem Turn.row {row : Option Nat} (h : Turn (d :: O) w w') (g : w'.grownBy w2 row) (hr : ∀ k, row = some k → w.heap.size ≤ k) : Turn (d :: O) w w2 := by
  cases row with
  | none => exact h.trans' (Turn.grown g)
  | some k => exact h.trans (Turn.one (O := [k]) g (by simp)) fun b hb => by rw [List.mem_singleton.1 hb]; exact .inr (hr k rfl)

/-- Between two rounds of what undoes. -/
def UndoI (w0 w W : World) (m d n p : Nat) (O : List Nat) (x : Nat) (a r : Int) (M : List UInt8) (us vs : List FrV) (y b : Nat) (k : Int) (pre : List Unit) : Prop :=
  (pre = [] ∧ ∃ O', QX w0 W m d n p O' x a r M us ∧ Turn (d :: O) w W ∧ (∀ b, b ∈ O' → b ∈ O ∨ w.heap.size ≤ b) ∧ W.cell? ⟨y, 0, none⟩ = some (.pointer (some ⟨x, 0, none⟩)) ∧ y ∉ O' ∧ W.cell? ⟨b, 0, none⟩ = some (.int .i64 k) ∧ b ∉ O') ∨
  (pre ≠ [] ∧ QXL w0 w W m d n p O x a r M vs)
theorem UndoI.own {wB : World} {y b : Nat} {k : Int} (h1 : w.heap.size ≤ wB.heap.size) (h0 : w0.heap.size ≤ w.heap.size) : OwnFrom wB.heap.size (fun (pre : List Unit) W => UndoI w0 w W m d n p O x a r M us vs y b k pre) := by
  rintro pre P Q row (⟨e, O', q, t, f, cy, yn, cb, bn⟩ | ⟨e, h⟩) hg hr
  · refine .inl ⟨e, O', q.own hg fun k e => ⟨by have := (hr k e).1; omega, (hr k e).2⟩, ⟨hg.os.trans t.os, hg.tape.trans t.tape, hg.output.trans t.output, Nat.le_trans t.size hg.size, fun k hk hn => (hg.block k (Nat.lt_of_lt_of_le hk t.size) fun e => ?_).trans (t.block k hk hn)⟩, f, cell_kept cy hg fun r e => (hr r e).2, yn, cell_kept cb hg fun r e => (hr r e).2, bn⟩
    have := (hr k e.symm).1
    omega
  · exact .inr ⟨e, QXL.own h hg (fun k e => ⟨Nat.le_trans h1 (hr k e).1, (hr k e).2⟩) h0⟩
theorem QX.keeps (h : QX w0 w m d n p O x a r M xs) (k : QXL w0 w w' m d n p O x a r M zs) (B : Nat) : KeepsFrom B w w' := by
  obtain ⟨O', _, t, _⟩ := k
  refine ⟨t.size, fun j o _ hj ho => (t.block j (Array.getElem?_eq_some_iff.1 hj).1 fun hm => ?_).trans hj⟩
  obtain ⟨o', h1, h2⟩ := h.cells j (by simp only [List.mem_cons] at hm ⊢; rcases hm with hm | hm <;> simp [hm])
  rw [hj] at h1
  injection h1 with h1
  rw [h1, h2] at ho
  cases ho

set_option maxHeartbeats 4000000 in
theorem sp_takes (h : QX w0 w m d n p O x a r M xs) (ha : okI a) (q : Nat) (hq : 1 ≤ q ∧ q ≤ 3) (ht : Takes n a q xs ts e us) (hb : (ts = [] ∧ vs = us) ∨ (∃ k e0, ts = [k] ∧ giveF us k = ⟨0, e0, vs⟩ ∧ vs.length = n) ∨ e = 0) :
    Calls Try.prog 36 #[.pointer (some ⟨x, 0, none⟩), .int .i64 q] w fun en w' => TakesE w0 w w' m d n p O x a r M ts e us vs en := by
  have hmf : ∀ (fn : Fn) (first cap : Array Value) (w : World), (Instr.makeFunc fn first cap).run Try.prog w = .ok (.func fn first cap) w := fun _ _ _ _ => rfl
  have ga := World.grownBy_alloc w (.cells #[.pointer (some ⟨x, 0, none⟩)] 28) none
  have h0 : TakeAt w0 w (w.alloc (.cells #[.pointer (some ⟨x, 0, none⟩)] 28)) m d n p O x a r M w.heap.size q q (.slice none 0 0) (.slice none 0 0) ts e us :=
    ⟨O, xs, [], ts, h.grow ga, Turn.grown ga, fun b hb => .inl hb, ht, rfl, IOwn.nil _ _, .inl ⟨rfl, rfl, rfl, rfl, by rw [cell_of_row _ _ _ _ _ _ (heap_alloc_new w _)]; rfl, fun hm => by have := h.lt w.heap.size (by simp [hm]); omega⟩⟩
  have H0 := Lib.hid h0
  have hq3 := hq.2
  have HA := Lib.hid ha
  have HB := Lib.hid hb
  have HLT := Lib.hid h.lt
  have HW0 := Lib.hid h.below.size
  obtain ⟨y, hy⟩ : ∃ y, w.heap.size = y := ⟨_, rfl⟩
  rw [hy] at H0
  have HYl := Lib.hid (show y < (w.alloc (.cells #[.pointer (some ⟨x, 0, none⟩)] 28)).heap.size by rw [← hy]; simp)
  clear h ht hb ga h0 ha
  refine (callsIn_wide (n := 9)).1 ?_
  refine callsIn_of_wp_marks Try.func36 rfl trivial ?_ rfl
  simp only [Try.ntmps36, List.size_toArray, List.length_cons, List.length_nil, Nat.reduceAdd, Nat.reduceSub, Array.replicate_succ, Array.replicate_zero, List.push_toArray, List.append_toArray, List.nil_append, List.cons_append]
  refine wpIn_wide.2 ?_
  go_wp2_with fail
  go_loopw [6, 7, 8] (fun tv uv iv wr => ∃ i : Nat, q ≤ i ∧ i ≤ 3 ∧ iv = .int .i64 i ∧ Hid (TakeAt w0 w wr m d n p O x a r M y q i tv uv ts e us)) (fun _ _ iv _ => 3 - (intOf iv).toNat)
  case atStart => exact ⟨q, by omega, hq3, rfl, H0⟩
  case round =>
    obtain ⟨i, hqi, hi, rfl, HT⟩ := hrel
    by_cases hlt : i < 3
    · obtain ⟨O1, z1, done, rest, k1, k2, k3, k4, k5, k6, k7⟩ := HT.out
      have HQ := Lib.hid k1
      have HTu := Lib.hid k2
      have HO1 := Lib.hid k3
      have HOw := Lib.hid k6
      clear k1 k2 k3 k6
      cases k4 with
      | done => omega
      | @step _ K _ z2 _ rs _ hl3 htk hkn hzl hrest =>
        rcases k7 with ⟨rfl, rfl, rfl, rfl, cy, hyn⟩ | ⟨hi1, k, b, g, c, rfl, rfl, hU, cb, hbn, htg, cy, hyn⟩ | ⟨hi1, hi2⟩
        · have HT1 := Lib.hid (sp_take HQ.out HA.out i ⟨by omega, by omega⟩ _ 0 htk hzl (fun _ => hkn))
          have HRest := Lib.hid hrest
          have HYn := Lib.hid hyn
          have HTs := Lib.hid k5
          clear htk hkn hzl hrest hyn k5
          go_wp2_with fail
          refine HT1.out.mono ?_
          rintro e' w2 ⟨rfl, h2⟩
          obtain ⟨O2, q2, t2, f2⟩ := h2
          have hyl := World.block_lt_of_cell? wr _ cy
          have hyn2 : y ∉ O2 := fun hm => by
            rcases f2 y hm with k | k
            · exact HYn.out k
            · exact absurd hyl (by simp only; omega)
          have cy2 : w2.cell? ⟨y, 0, none⟩ = some (.pointer (some ⟨x, 0, none⟩)) := (World.cell?_of_block (a := ⟨y, 0, none⟩) (t2.block y hyl (fun hm => by
            rcases List.mem_cons.1 hm with e | hm
            · have := HLT.out d (by simp); omega
            · exact HYn.out hm))).trans cy
          have T2 := Lib.hid (HTu.out.trans t2 fun b hb => by
            rcases List.mem_cons.1 hb with e | hb
            · exact .inl (by simp [e])
            · rcases HO1.out b hb with e | e
              · exact .inl (by simp [e])
              · exact .inr e)
          have F2 := Lib.hid (show ∀ b, b ∈ O2 → b ∈ O ∨ w.heap.size ≤ b from fun b hb => by
            rcases f2 b hb with e | e
            · exact HO1.out b e
            · exact .inr (Nat.le_trans HTu.out.size e))
          have T2b := Lib.hid (show ∀ b, w.heap.size ≤ b → b < wr.heap.size → b ∉ O1 → w2.heap[b]? = wr.heap[b]? from fun b h1 h2 h3 => t2.block b h2 fun hm => by
            rcases List.mem_cons.1 hm with e | hm
            · have := HLT.out d (by simp); omega
            · exact h3 hm)
          have Q2 := Lib.hid q2
          have HYn2 := Lib.hid hyn2
          have HCy2 := Lib.hid cy2
          have hw2 : w.heap.size ≤ w2.heap.size := T2.out.size
          have HW2 := Lib.hid hw2
          clear q2 t2 f2 hyl hyn2 cy2 hw2
          have G3 := Lib.hid (World.grownBy_alloc w2 (.cells #[.int .i64 K] 3) none)
          have HB9 := Lib.hid (show (w2.alloc (.cells #[.int .i64 K] 3)).cell? ⟨w2.heap.size, 0, none⟩ = some (.int .i64 K) by rw [cell_of_row _ _ _ _ _ _ (heap_alloc_new w2 _)]; rfl)
          go_wp2_with (first
            | (at_builtin; (refine wpList_int8 (w2.alloc (.cells #[.int .i64 K] 3)) rfl _ _ rfl w.heap.size _ [] K (by rfl) (IOwn.nil _ _) (w2.heap.size + 1) (by rfl) (by simp) (by decide) (Nat.le_trans HW2.out G3.out.size) ?_; intro v4 w4 hown4 hg4 hb4; have G4 := Lib.hid (show (w2.alloc (.cells #[.int .i64 K] 3)).grownBy w4 none from grown_trans (World.grownBy_alloc _ (.cells #[.int .i64 K] 3) none) hg4); have O4 := Lib.hid hown4; clear hown4 hg4 hb4))
            | (at_builtin; refine wpList_fn7 w4 rfl _ _ rfl w.heap.size _ 0 [] (undoF y w2.heap.size) (by rfl) (World.ownsRow_nil _ _ _ _) w4.heap.size (by rfl) rfl rfl (by decide) (Nat.le_trans HW2.out (Nat.le_trans G3.out.size G4.out.size)) ?_; intro v6 w6 hown6 hg6 hb6; obtain ⟨g6, c6, rfl⟩ := ownsRow_succ hown6; have G6 := Lib.hid (show w4.grownBy w6 none from grown_trans (World.grownBy_alloc _ (.cells #[undoF y w2.heap.size] 1) none) hg6); have O6 := Lib.hid hown6; have B6 := Lib.hid hb6; clear hown6 hg6 hb6))
          go_roundw
          case rel =>
            have g26 := grown_trans G3.out (grown_trans G4.out G6.out)
            refine ⟨i + 1, by omega, by omega, by go_num, Lib.hid ⟨O2, z2, [K], rs, Q2.out.grow g26, T2.out.trans' (Turn.grown g26), F2.out, HRest.out, by have := HTs.out; simpa using this, O4.out.grow G6.out, .inr (.inl ⟨rfl, K, w2.heap.size, g6, c6, rfl, rfl, O6.out, (grown_trans G4.out G6.out).cell HB9.out (by simp), ⟨fun hm => ?_, HW2.out⟩, fun e => ?_, g26.cell HCy2.out (by simp), HYn2.out⟩)⟩⟩
            · have := Q2.out.lt w2.heap.size (by simp [hm]); omega
            · have h1 := (O4.out.lt e).2
              rcases B6.out with k | k
              · cases k
              · have k : g6 = (w4.alloc (.cells #[undoF y w2.heap.size] 1)).heap.size := by injection k
                have := (World.grownBy_alloc w4 (.cells #[undoF y w2.heap.size] 1) none).size
                omega
          case measure => simp [intOf]; omega
        · have HI1 := Lib.hid hi1
          obtain ⟨s4, cc4, rfl, _⟩ := HOw.out.form
          have HT1 := Lib.hid (sp_take HQ.out HA.out i ⟨by omega, by omega⟩ _ 0 htk hzl (fun _ => hkn))
          have HRest := Lib.hid hrest
          have HYn := Lib.hid hyn
          have HTs := Lib.hid k5
          have HU := Lib.hid hU
          have HTg := Lib.hid htg
          clear htk hkn hzl hrest hyn k5 hU htg hi1
          go_wp2_with fail
          refine HT1.out.mono ?_
          rintro e' w2 ⟨rfl, h2⟩
          obtain ⟨O2, q2, t2, f2⟩ := h2
          have hyl := World.block_lt_of_cell? wr _ cy
          have hyn2 : y ∉ O2 := fun hm => by
            rcases f2 y hm with k | k
            · exact HYn.out k
            · exact absurd hyl (by simp only; omega)
          have cy2 : w2.cell? ⟨y, 0, none⟩ = some (.pointer (some ⟨x, 0, none⟩)) := (World.cell?_of_block (a := ⟨y, 0, none⟩) (t2.block y hyl (fun hm => by
            rcases List.mem_cons.1 hm with e | hm
            · have := HLT.out d (by simp); omega
            · exact HYn.out hm))).trans cy
          have T2 := Lib.hid (HTu.out.trans t2 fun b hb => by
            rcases List.mem_cons.1 hb with e | hb
            · exact .inl (by simp [e])
            · rcases HO1.out b hb with e | e
              · exact .inl (by simp [e])
              · exact .inr e)
          have F2 := Lib.hid (show ∀ b, b ∈ O2 → b ∈ O ∨ w.heap.size ≤ b from fun b hb => by
            rcases f2 b hb with e | e
            · exact HO1.out b e
            · exact .inr (Nat.le_trans HTu.out.size e))
          have T2b := Lib.hid (show ∀ b, w.heap.size ≤ b → b < wr.heap.size → b ∉ O1 → w2.heap[b]? = wr.heap[b]? from fun b h1 h2 h3 => t2.block b h2 fun hm => by
            rcases List.mem_cons.1 hm with e | hm
            · have := HLT.out d (by simp); omega
            · exact h3 hm)
          have Q2 := Lib.hid q2
          have HYn2 := Lib.hid hyn2
          have HCy2 := Lib.hid cy2
          have hw2 : w.heap.size ≤ w2.heap.size := T2.out.size
          have HW2 := Lib.hid hw2
          clear q2 t2 f2 hyl hyn2 cy2 hw2
          have HO2 := Lib.hid (IOwn.kept (w' := w2) HOw.out fun b hb => T2b.out b (HOw.out.lt hb).1 (HOw.out.lt hb).2 (by
            obtain ⟨cur, hc⟩ := (own_blk HOw.out hb).2
            exact HQ.out.pool.other hc (by decide) (by decide)))
          have HU2 := Lib.hid (own_kept (w' := w2) HU.out fun b hb => T2b.out b (own_blk HU.out hb).1 (World.ownsRow.lt HU.out b hb).2 (by
            obtain ⟨cur, hc⟩ := (own_blk HU.out hb).2
            exact HQ.out.pool.other hc (by decide) (by decide)))
          have G3 := Lib.hid (World.grownBy_alloc w2 (.cells #[.int .i64 K] 3) none)
          have HUl := Lib.hid ((World.ownsRow.lt HU2.out g rfl).2)
          go_wp2_with (first
            | (at_builtin; (refine wpList_int8 (w2.alloc (.cells #[.int .i64 K] 3)) rfl _ _ rfl w.heap.size _ [k] K (by rfl) (HO2.out.grow G3.out) (w2.heap.size + 1) (by rfl) (by simp) (by simp) (Nat.le_trans HW2.out G3.out.size) ?_; intro v4 w4 hown4 hg4 hb4; have H4 := Lib.hid hg4; have B4 := Lib.hid hb4; have O4 := Lib.hid hown4; have U4 := Lib.hid (own_kept (w' := w4) HU2.out fun b hb => (hg4.block b (by have := (World.ownsRow.lt HU2.out b hb).2; simp; omega) (fun e => HTg.out (e.symm.trans hb.symm))).trans (((World.grownBy_alloc (w2.alloc (.cells #[.int .i64 K] 3)) (.cells #[.int .i64 K] 3) none).block b (by have := (World.ownsRow.lt HU2.out b hb).2; simp; omega) (by simp)).trans (G3.out.block b (World.ownsRow.lt HU2.out b hb).2 (by simp)))); have L4 := Lib.hid (show w2.heap.size ≤ w4.heap.size from by have := hg4.size; simp at this; omega); clear hown4 hg4 hb4))
            | (at_builtin; (refine wpList_fn7 w4 rfl _ _ rfl w.heap.size _ 1 [undoF y b] (undoF y w2.heap.size) (by rfl) U4.out w4.heap.size (by rfl) rfl rfl (by decide) (Nat.le_trans HW2.out L4.out) ?_; intro v6 w6 hown6 hg6 hb6; obtain ⟨g6, c6, rfl⟩ := ownsRow_succ hown6; have G6 := Lib.hid hg6; clear hown6 hg6 hb6)))
          go_roundw
          case rel =>
            have q3 := (Q2.out.grow G3.out).grow (World.grownBy_alloc _ (.cells #[.int .i64 K] 3) none)
            have hlt : ∀ b, b ∈ x :: m :: d :: [] → b < w.heap.size := fun b hb => HLT.out b (by simp only [List.mem_cons, List.not_mem_nil, or_false] at hb ⊢; rcases hb with hb | hb | hb <;> simp [hb])
            have o3 := (HO2.out.grow G3.out).grow (World.grownBy_alloc _ (.cells #[.int .i64 K] 3) none)
            have q4 := q3.row H4.out HW0.out hlt (fun k hk => own_blk o3 hk) (by decide) (by decide)
            have u5 := World.ownsRow.alloc U4.out (.cells #[undoF y w2.heap.size] 1)
            have q6 := (q4.grow (World.grownBy_alloc _ (.cells #[undoF y w2.heap.size] 1) none)).row G6.out HW0.out hlt (fun k hk => own_blk u5 hk) (by decide) (by decide)
            have t6 := Turn.row (Turn.row ((T2.out.trans' (Turn.grown G3.out)).trans' (Turn.grown (World.grownBy_alloc _ (.cells #[.int .i64 K] 3) none))) H4.out (fun k hk => (own_blk o3 hk).1)) (World.grownBy_alloc w4 (.cells #[undoF y w2.heap.size] 1) none) (fun k hk => by cases hk)
            have t7 := Turn.row t6 G6.out (fun k hk => (own_blk u5 hk).1)
            refine ⟨i + 1, by omega, by omega, by go_num, Lib.hid ⟨O2, z2, [k] ++ [K], rs, q6, t7, F2.out, HRest.out, by have := HTs.out; simpa using this, IOwn.kept (w := w4) O4.out fun b hb => (G6.out.block b (by have := (O4.out.lt hb).2; simp; omega) fun e => ?_).trans ((World.grownBy_alloc w4 (.cells #[undoF y w2.heap.size] 1) none).block b (O4.out.lt hb).2 (by simp)), .inr (.inr ⟨by have := HI1.out; omega, by have := HI1.out; omega⟩)⟩⟩
            have e : b = g := by injection e
            subst e
            rcases B4.out with e | e
            · exact HTg.out (e.symm.trans hb)
            · have := HUl.out
              rw [hb] at e
              injection e with e
              simp at e
              omega
          case measure => simp [intOf]; omega
        · omega
      | fail hl3 htk he =>
        have b0 : (e != 0) = true := by simpa using he
        rcases k7 with ⟨rfl, rfl, rfl, rfl, cy, hyn⟩ | ⟨hi1, k, b, g, c, rfl, rfl, hU, cb, ⟨hbn, hbw⟩, htg, cy, hyn⟩ | ⟨hi1, hi2⟩
        · have hvs : vs = us := by
            rcases HB.out with ⟨_, h⟩ | ⟨k, e0, h, _⟩ | h
            · exact h
            · rw [k5] at h; cases h
            · exact (he h).elim
          have HT1 := Lib.hid (sp_take HQ.out HA.out i ⟨by omega, by omega⟩ 0 e htk HQ.out.num (fun k => (he k).elim))
          have HE := Lib.hid he
          clear htk he k5 hyn
          go_wp2_with fail
          refine HT1.out.mono ?_
          rintro e' w2 ⟨rfl, h2⟩
          have H2 := Lib.hid (QXL.next HTu.out HO1.out h2)
          clear h2
          go_wp2_with fail
          have GA := Lib.hid (World.grownBy_alloc w2 (.cells #[.int .i64 0] 3) none)
          refine (backward_of _ _ rfl).mono ?_
          rintro e' w4 ⟨rfl, e4⟩
          subst w4
          go_wp2_with fail
          have GB := Lib.hid (World.grownBy_alloc (w2.alloc (.cells #[.int .i64 0] 3)) (.cells #[.slice none 0 0] 107) none)
          have HBx := Lib.hid (show ((w2.alloc (.cells #[.int .i64 0] 3)).alloc (.cells #[.slice none 0 0] 107)).cell? ⟨w2.heap.size + 1, 0, none⟩ = some (.slice none 0 0) by rw [show w2.heap.size + 1 = (w2.alloc (.cells #[.int .i64 0] 3)).heap.size by simp, cell_of_row _ _ _ _ _ _ (heap_alloc_new _ _)]; rfl)
          have H5 := Lib.hid (H2.out.grow (grown_trans GA.out GB.out))
          generalize ((w2.alloc (.cells #[.int .i64 0] 3)).alloc (.cells #[.slice none 0 0] 107)) = wB at *
          generalize w2.heap.size = b9 at *
          have hwB := H5.out.size
          have HWB := Lib.hid hwB
          have HVS := Lib.hid hvs
          clear hwB hvs
          refine (wpIn_wide (n := 9)).1 ?_
          refine wpIn_rangeFunc_ownG rfl (by omega) (gf := 86) (lb := #[.pointer (some ⟨b9 + 1, 0, none⟩)]) rfl trivial (enters_of Try.func86 (by kernel_rfl) rfl)
            (backward_stops 8 (by omega) (b9 + 1) 0 0 .nilFunc [] (by simp) (.slice none 0 0) rfl _ HBx.out (fun e => by cases e)) (fun _ _ => trivial) (fun _ _ _ _ _ _ _ _ => trivial) (Below.refl _ _) (fun _ => rfl)
            (fun (pre : List Unit) W => QXL w0 w W m d n p O x a r M us) (fun _ _ _ => False)
            (fun pre P Q row hs hg hr => QXL.own hs hg (fun k e => ⟨Nat.le_trans HWB.out (hr k e).1, (hr k e).2⟩) HW0.out) (fun _ _ _ _ _ hs _ _ => hs) H5.out
            (fun _ => { tmps := #[.pointer (some ⟨x, 0, none⟩), .int .i64 i, .pointer (some ⟨y, 0, none⟩), undef, u4, u5, .slice none 0 0, .slice none 0 0, .int .i64 i, .pointer (some ⟨b9, 0, none⟩), .int .i64 e, undef, .nilFunc, .int .i64 i, .int .i64 i, .bool true, u16, u17, .tuple #[.int .i64 0, .int .i64 e], .pointer (some ⟨x, 0, none⟩), .int .i64 i, .tuple #[.int .i64 0, .int .i64 e], .int .i64 0, .int .i64 e, .int .i64 e, .bool true, .slice none 0 0, .func (.func 86) #[] #[.pointer (some ⟨b9 + 1, 0, none⟩)], .int .i64 0, .nilFunc, u30, u31, u32, u33, u34, u35, u36, u37, u38, u39, u40, undef], defers := [] }) ?assign ?body ?done ?stop
          case assign =>
            intro lp xx Wd K hK
            gi_wp2
            exact hK
          case body =>
            rintro lp pre xx Wd hI hlt
            simp at hlt
          case done =>
            rintro D ys Wd hD rfl hI hK
            have HI := Lib.hid hI
            clear hI
            have HKD := Lib.hid hK
            clear hK
            go_wp2
            refine ⟨by simp, .inl ⟨_, _, rfl, run_takeDeferred HKD.out, ?_⟩⟩
            refine ⟨_, results_tmp2 rfl _ _ _, .inr ⟨HE.out, rfl, ?_⟩⟩
            rw [HVS.out]
            exact QXL.own HI.out (grownBy_putObj' Wd D (.deferred none)) (fun k e => by cases e; exact ⟨Nat.le_trans HWB.out hD, _, HKD.out, rfl⟩) HW0.out
          case stop =>
            rintro D c pre Wd hD hp hx hK
            cases hx
        · obtain ⟨e0, hgv, hvl⟩ : ∃ e0, giveF us k = ⟨0, e0, vs⟩ ∧ vs.length = n := by
            rcases HB.out with ⟨h, _⟩ | ⟨k', e0, h, h1, h2⟩ | h
            · rw [k5] at h; cases h
            · rw [k5] at h
              obtain ⟨h, _⟩ : k = k' ∧ True := by simpa using h
              subst h
              exact ⟨e0, h1, h2⟩
            · exact (he h).elim
          obtain ⟨s4, cc4, rfl, _⟩ := HOw.out.form
          have HT1 := Lib.hid (sp_take HQ.out HA.out i ⟨by omega, by omega⟩ 0 e htk HQ.out.num (fun k => (he k).elim))
          have HE := Lib.hid he
          have HGV := Lib.hid hgv
          have HVL := Lib.hid hvl
          have HYn := Lib.hid hyn
          have HBn := Lib.hid hbn
          have hbl := World.block_lt_of_cell? wr _ cb
          have hyl := World.block_lt_of_cell? wr _ cy
          have HBl := Lib.hid hbl
          have HYl2 := Lib.hid hyl
          have hgl := World.ownsRow.lt hU g rfl
          have hgn : g ∉ d :: O1 := fun hm => by
            rcases List.mem_cons.1 hm with e | hm
            · have := HLT.out d (by simp); omega
            · obtain ⟨cur, hc⟩ := (own_blk hU rfl).2
              exact HQ.out.pool.other hc (by decide) (by decide) hm
          have hgF : wr.cell? ⟨g, 0, none⟩ = some (undoF y b) := by
            have := hU.cells (g := g) rfl 0 (undoF y b) rfl
            rw [Addr.add_lit] at this
            exact this
          have HI1 := Lib.hid hi1
          have HGn := Lib.hid hgn
          have HGF := Lib.hid hgF
          have HGl := Lib.hid hgl.2
          have hbd : b ≠ d := by have := HLT.out d (by simp); omega
          have hyd : y ≠ d := by have := HLT.out d (by simp); omega
          have HBD := Lib.hid hbd
          have HYD := Lib.hid hyd
          have HCB := Lib.hid cb
          have HCY := Lib.hid cy
          clear htk he k5 hyn hgv hvl hbn hbl hyl hgl hgn hgF hi1 hbd hyd hU cb hbw htg
          go_wp2_with fail
          refine HT1.out.mono ?_
          rintro e' w2 ⟨rfl, h2⟩
          obtain ⟨O2, q2, t2, f2⟩ := h2
          have H2 := Lib.hid (show UndoI w0 w w2 m d n p O x a r M us vs y b k [] from .inl ⟨rfl, O2, q2, HTu.out.trans t2 (fun b hb => by
            rcases List.mem_cons.1 hb with e | hb
            · exact .inl (by simp [e])
            · rcases HO1.out b hb with e | e
              · exact .inl (by simp [e])
              · exact .inr e), fun b hb => by
            rcases f2 b hb with e | e
            · exact HO1.out b e
            · exact .inr (Nat.le_trans HTu.out.size e), (World.cell?_of_block (a := ⟨y, 0, none⟩) (t2.block y HYl2.out fun hm => by
              rcases List.mem_cons.1 hm with e | hm
              · exact HYD.out e
              · exact HYn.out hm)).trans HCY.out, fun hm => by
            rcases f2 y hm with e | e
            · exact HYn.out e
            · have := HYl2.out; omega, (World.cell?_of_block (a := ⟨b, 0, none⟩) (t2.block b HBl.out fun hm => by
              rcases List.mem_cons.1 hm with e | hm
              · exact HBD.out e
              · exact HBn.out hm)).trans HCB.out, fun hm => by
            rcases f2 b hm with e | e
            · exact HBn.out e
            · have := HBl.out; omega⟩)
          have HG2 := Lib.hid ((World.cell?_of_block (a := ⟨g, 0, none⟩) (t2.block g HGl.out HGn.out)).trans HGF.out)
          have hw2 : w.heap.size ≤ w2.heap.size := Nat.le_trans HTu.out.size t2.size
          have HW2 := Lib.hid hw2
          clear q2 t2 f2 hw2
          go_wp2_with fail
          have GA := Lib.hid (World.grownBy_alloc w2 (.cells #[.int .i64 0] 3) none)
          refine (backward_of _ _ rfl).mono ?_
          rintro e' w4 ⟨rfl, e4⟩
          subst w4
          go_wp2_with fail
          have GB := Lib.hid (World.grownBy_alloc (w2.alloc (.cells #[.int .i64 0] 3)) (.cells #[.slice (some ⟨g, 0, none⟩) 1 c] 107) none)
          have HBx := Lib.hid (show ((w2.alloc (.cells #[.int .i64 0] 3)).alloc (.cells #[.slice (some ⟨g, 0, none⟩) 1 c] 107)).cell? ⟨w2.heap.size + 1, 0, none⟩ = some (.slice (some ⟨g, 0, none⟩) 1 c) by rw [show w2.heap.size + 1 = (w2.alloc (.cells #[.int .i64 0] 3)).heap.size by simp, cell_of_row _ _ _ _ _ _ (heap_alloc_new _ _)]; rfl)
          have H5 := Lib.hid (UndoI.own (wB := w2) HW2.out HW0.out [] _ _ none H2.out (grown_trans GA.out GB.out) (fun r e => by cases e))
          have HG5 := Lib.hid ((grown_trans GA.out GB.out).cell HG2.out (by simp))
          have HWB := Lib.hid (Nat.le_trans HW2.out (grown_trans GA.out GB.out).size)
          generalize ((w2.alloc (.cells #[.int .i64 0] 3)).alloc (.cells #[.slice (some ⟨g, 0, none⟩) 1 c] 107)) = wB at *
          generalize w2.heap.size = b9 at *
          refine (wpIn_wide (n := 9)).1 ?_
          refine wpIn_rangeFunc_ownG rfl (by omega) (gf := 86) (lb := #[.pointer (some ⟨b9 + 1, 0, none⟩)]) rfl trivial (enters_of Try.func86 (by kernel_rfl) rfl)
            (backward_stops 8 (by omega) (b9 + 1) g c (undoF y b) [()] (by simp) (.slice (some ⟨g, 0, none⟩) 1 c) rfl _ HBx.out (fun e => HG5.out)) (fun _ _ => trivial) (fun _ _ _ _ _ _ _ _ => trivial) (Below.refl _ _) (fun _ => rfl)
            (fun (pre : List Unit) W => UndoI w0 w W m d n p O x a r M us vs y b k pre) (fun _ _ _ => False)
            (UndoI.own HWB.out HW0.out) (fun _ _ _ _ _ hs _ _ => hs) H5.out
            (fun _ => { tmps := #[.pointer (some ⟨x, 0, none⟩), .int .i64 q, .pointer (some ⟨y, 0, none⟩), undef, u4, u5, .slice s4 [k].length cc4, .slice (some ⟨g, 0, none⟩) 1 c, .int .i64 i, .pointer (some ⟨b9, 0, none⟩), .int .i64 e, undef, undoF y b, .int .i64 q, .int .i64 i, .bool true, u16, u17, .tuple #[.int .i64 0, .int .i64 e], .pointer (some ⟨x, 0, none⟩), .int .i64 i, .tuple #[.int .i64 0, .int .i64 e], .int .i64 0, .int .i64 e, .int .i64 e, .bool true, .slice (some ⟨g, 0, none⟩) 1 c, .func (.func 86) #[] #[.pointer (some ⟨b9 + 1, 0, none⟩)], .int .i64 0, undoF y b, u30, u31, u32, u33, u34, u35, u36, u37, u38, u39, u40, undef], defers := [] }) ?assign ?body ?done ?stop
          case assign =>
            intro lp xx Wd K hK
            gi_wp2
            exact hK
          case body =>
            rintro lp pre xx Wd hI hlt
            obtain rfl : pre = [] := List.length_eq_zero_iff.1 (by have hlt : pre.length < 1 := hlt; omega)
            rcases hI with ⟨_, O', q7, t7, f7, cy7, yn7, cb7, bn7⟩ | ⟨h, _⟩
            · have HBk := Lib.hid (sp_back q7 y b k e0 cy7 cb7 HGV.out HVL.out yn7 bn7)
              have HQ7 := Lib.hid q7
              have HT7 := Lib.hid t7
              have HF7 := Lib.hid f7
              clear q7 t7 f7 cy7 yn7 cb7 bn7
              unfold undoF
              gi_wp2
              refine ⟨trivial, (CallsIn.inRound lp (callsIn_wide.2 HBk.out)).mono ?_⟩
              rintro e' w7 ⟨rfl, h7⟩
              have H7 := Lib.hid h7
              clear h7
              gi_wp2
              exact ⟨HQ7.out.keeps H7.out _, trivial, .inr ⟨by simp, QXL.next HT7.out HF7.out H7.out⟩⟩
            · exact (h rfl).elim
          case done =>
            rintro D ys Wd hD rfl hI hK
            have HI := Lib.hid (show QXL w0 w Wd m d n p O x a r M vs by
              rcases hI with ⟨h, _⟩ | ⟨_, h⟩
              · cases h
              · exact h)
            have HKD := Lib.hid hK
            clear hK hI
            go_wp2
            refine ⟨by simp, .inl ⟨_, _, rfl, run_takeDeferred HKD.out, ?_⟩⟩
            refine ⟨_, results_tmp2 rfl _ _ _, .inr ⟨HE.out, rfl, ?_⟩⟩
            exact QXL.own HI.out (grownBy_putObj' Wd D (.deferred none)) (fun k e => by cases e; exact ⟨Nat.le_trans HWB.out hD, _, HKD.out, rfl⟩) HW0.out
          case stop =>
            rintro D c pre Wd hD hp hx hK
            cases hx
        · omega
    · obtain rfl : i = 3 := by omega
      obtain ⟨O1, z1, done, rest, k1, k2, k3, k4, k5, k6, k7⟩ := HT.out
      have HQ := Lib.hid k1
      have HTu := Lib.hid k2
      have HO1 := Lib.hid k3
      have HOw := Lib.hid k6
      have HK5 := Lib.hid k5
      have HK4 := Lib.hid k4
      clear k1 k2 k3 k4 k5 k6 k7
      go_wp2_with fail
      refine ⟨_, results_tmp2 rfl _ _ _, ?_⟩
      have k4 := HK4.out
      have k5 := HK5.out
      cases k4 with
      | done =>
        rw [List.append_nil] at k5
        subst k5
        exact .inl ⟨rfl, _, rfl, O1, HQ.out, HTu.out, HO1.out, HOw.out⟩
      | step h => omega
      | fail h => omega
end
end Go.Proofs.Ytlieommbomjdaaa
