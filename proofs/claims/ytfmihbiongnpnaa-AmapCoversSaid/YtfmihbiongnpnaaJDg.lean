/- Package spread (landed): cut, whatever; the iterator over all counts of runs. -/
import Derived.RangeFuncNested
import Derived.RangeFuncBound
import Derived.RangeFuncCalls
import Derived.RangeFuncLeaves
import Derived.RangeFuncBox
import Derived.Shelf.Abstract
import Derived.Shelf.RegionOpen
import Derived.OwnWalkIn
import Derived.TacticsInMore
import Derived.LoopNIn
import Derived.LoopIn
import Derived.Lib.Builder
import Derived.Test.YtfmihbiongnpnaaJDf
namespace Go.Proofs.Ytfmihbiongnpnaa
open Go.ChangeShapes Go.WideShapes Go.ChangeAt Go.RowKit Go.Deep
set_option linter.unusedVariables false
attribute [local go_sem] Oper.semAt_some

section
variable {w : World} {u : Value} {L : List Int} {R : List JR} {a b item : Int}
theorem cut_ok (h : RunsC w u R) (hs : Loose L a R b) (hl : R.length ≤ 4096) (ha : a ≤ item) (hb : item ≤ b) :
    Calls Try.prog 57 #[u, .int .i64 item] w (CutA w L a b item) := by
  rcases h.form with ⟨rfl, rfl⟩ | ⟨g, o, c, rfl, hc, hg⟩
  · exact cut_nil hs ha hb
  · obtain ⟨k, hf⟩ := hs.find_ex item
    rcases Nat.lt_or_ge k R.length with hk | hk
    · obtain ⟨r, hr⟩ : ∃ r, R[k]? = some r := ⟨_, List.getElem?_eq_getElem hk⟩
      obtain ⟨h0, h1⟩ := hs.found ha hf hr
      by_cases he : r.lo = item
      · exact cut_side h hs hl hf hr he
      · exact cut_mid h hs hl hf hr (by omega) h1
    · obtain rfl : k = R.length := by have := hf.le; omega
      exact cut_end h hs hl ha hb hf
end

theorem RunsC.keptB {w w' : World} {u : Value} {R : List JR} (h : RunsC w u R) (hb : ∀ b, u.ownBlock = some b → w'.heap[b]? = w.heap[b]?) : RunsC w' u R := by
  refine ⟨⟨h.1.1, ?_⟩, h.2⟩
  rcases h.1.2 with h0 | ⟨g, o, c, hv, hg, hc⟩
  · exact .inl h0
  · have e := hb g (by rw [hv]; rfl)
    obtain ⟨ob, ho⟩ : ∃ ob, w.heap[g]? = some ob := ⟨_, Array.getElem?_eq_getElem hg⟩
    exact .inr ⟨g, o, c, hv, (Array.getElem?_eq_some_iff.1 (e.trans ho)).1, fun j v hj => (World.cell?_of_block (a := ⟨g, o + j, none⟩) e).trans (hc j v hj)⟩
/-- An item and its count. -/
structure JI where
  i : Int
  n : Int
def itemsOf (r : JR) : List JI := (List.range (r.hi - r.lo).toNat).map fun k => ⟨r.lo + (k : Nat), r.n⟩
def itemsR (R : List JR) : List JI := R.flatMap itemsOf
def encI (x : JI) : Array Value := #[.int .i64 x.i, .int .i64 x.n]
theorem itemsOf_len (r : JR) : (itemsOf r).length = (r.hi - r.lo).toNat := by unfold itemsOf; rw [List.length_map, List.length_range]
theorem itemsOf_take (r : JR) (m : Nat) (hm : m < (r.hi - r.lo).toNat) : (itemsOf r).take (m + 1) = (itemsOf r).take m ++ [⟨r.lo + (m : Nat), r.n⟩] := by
  refine takel_at ?_
  unfold itemsOf
  rw [List.getElem?_map, List.getElem?_range hm]
  rfl
/-- What a body must keep: the blocks that the iterator reads, and the runs that it lays aside. -/
def KpR (G : List Nat) (W W' : World) : Prop := (∀ k, k ∈ G → W'.heap[k]? = W.heap[k]?) ∧ ∀ (k : Nat) (cs : Array Value) (fr : Nat × Nat), W.heap[k]? = some (.cells cs 95 fr) → W'.heap[k]? = some (.cells cs 95 fr)
theorem kpR_t {G : List Nat} {A B C : World} (h : KpR G A B) (k : KpR G B C) : KpR G A C := ⟨fun i hi => (k.1 i hi).trans (h.1 i hi), fun i cs fr hi => k.2 i cs fr (h.2 i cs fr hi)⟩
theorem kpR_b {G : List Nat} {B : Nat} (hG : ∀ k, k ∈ G → k < B) (W : World) (l : Nat) (o o' : Obj) (hl : B ≤ l) (ho : W.heap[l]? = some o) (hc : o.isCells = false) : KpR G W (W.putObj l o') :=
  ⟨fun k hk => World.putObj_heap_other (by have := hG k hk; omega), fun k cs fr hk => by
    by_cases e : k = l
    · subst e; rw [ho] at hk; cases hk; cases hc
    · exact (World.putObj_heap_other e).trans hk⟩

set_option maxRecDepth 100000 in
set_option maxHeartbeats 2000000 in
theorem counts1_in (n : Nat) (hn : 1 ≤ n) (l Bs : Nat) (u : Value) (R : List JR) (hl : R.length ≤ 4096) (hR : ∀ r, r ∈ R → 0 ≤ r.lo ∧ r.lo ≤ r.hi ∧ r.hi ≤ 4096) (G : List Nat) (hG : ∀ g, u.ownBlock = some g → g ∈ G) (J Jx : List JI → World → Prop)
    (W0 : World) (hJ : AbidesFrom W0.heap.size J)
    (hY : ∀ pre x W, J pre W → pre.length < (itemsR R).length → YieldAt Fence.wide (n - 1) Try.prog l (encI x) W fun e W' =>
      (e = .returned (.bool true) ∧ J (pre ++ [x]) W' ∧ KpR G W W') ∨ (e = .returned (.bool false) ∧ Jx (pre ++ [x]) W'))
    (W : World) (hBs : W.cell? ⟨Bs, 0, none⟩ = some u) (hU : RunsC W u R) (h0 : J [] W) :
    CallsIn Fence.wide n Try.prog 66 #[.func (.yield l) #[] #[], .pointer (some ⟨Bs, 0, none⟩)] W fun e W' => (∃ v, e = .returned v) ∧
      ((∃ ys, ys = itemsR R ∧ J ys W') ∨ (∃ pre, pre <+: itemsR R ∧ Jx pre W')) := by
  have HU := Lib.hid hU
  have HG := Lib.hid hG
  have HR := Lib.hid hR
  have HJa := Lib.hid hJ
  have HY := Lib.hid hY
  obtain ⟨a0, c0, rfl, hc0⟩ := hU.slice
  clear hU hG hR hJ hY
  refine callsIn_of_wp Try.func66 rfl trivial ?_ rfl
  simp only [Try.ntmps66, List.size_toArray, List.length_cons, List.length_nil, Nat.reduceAdd, Nat.reduceSub, Array.replicate_succ, Array.replicate_zero, List.push_toArray, List.append_toArray, List.nil_append, List.cons_append]
  gi_wp2
  gi_loopw [8] (fun i wr => ∃ k : Nat, k ≤ R.length ∧ i = .int .i64 k ∧ J (itemsR (R.take k)) wr ∧ Hid (RunsC wr (.slice a0 R.length c0) R)) (fun i _ => R.length - (intOf i).toNat)
  case atStart => exact ⟨0, Nat.zero_le _, rfl, h0, HU⟩
  case round =>
    obtain ⟨k, hk, rfl, hJs, HK⟩ := hrel
    by_cases hlt : k < R.length
    · obtain ⟨r, hr⟩ : ∃ r, R[k]? = some r := ⟨_, List.getElem?_eq_getElem hlt⟩
      obtain ⟨g, o, c', hv', k0, k1, k2⟩ := HK.out.at hr
      injection hv' with e1 e2 e3
      subst e1 e3
      obtain ⟨r0, r1, r2⟩ := HR.out r (List.mem_of_getElem? hr)
      have htk : itemsR (R.take (k + 1)) = itemsR (R.take k) ++ itemsOf r := by rw [takel_at hr]; unfold itemsR; rw [List.flatMap_append]; simp
      have hall : itemsR R = itemsR (R.take k) ++ (itemsOf r ++ itemsR (R.drop (k + 1))) := by
        have hd : R = R.take k ++ (r :: R.drop (k + 1)) := by rw [← (List.getElem?_eq_some_iff.1 hr).2, ← List.drop_eq_getElem_cons hlt, List.take_append_drop]
        rw [hd]
        unfold itemsR
        rw [List.flatMap_append, List.flatMap_cons, ← hd]
      have HTk := Lib.hid htk
      have HAll := Lib.hid hall
      have HIl := Lib.hid (itemsOf_len r)
      have HIt := Lib.hid (itemsOf_take r)
      have ga := World.grownBy_alloc wr (.cells #[.int .i64 r.lo, .int .i64 r.hi, .int .i64 r.n] 95) none
      have hb := RunB.new wr r
      have HK2 := Lib.hid (HK.out.grow ga)
      have HJ2 := Lib.hid (HJa.out _ _ _ _ hJs ga (by simp))
      obtain ⟨it, hit⟩ : ∃ it, itemsOf r = it := ⟨_, rfl⟩
      rw [hit] at HTk HAll HIl HIt
      obtain ⟨pre0, hpre0⟩ : ∃ p, itemsR (R.take k) = p := ⟨_, rfl⟩
      rw [hpre0] at HTk HAll HJ2
      obtain ⟨rl, rh, rn⟩ := r
      simp only at *
      obtain ⟨q, hq⟩ : ∃ q : Nat, rh = rl + (q : Int) := ⟨(rh - rl).toNat, by omega⟩
      subst hq
      rw [show (rl + (q : Int) - rl).toNat = q by omega] at HIl HIt
      generalize hwB : wr.alloc (.cells #[.int .i64 rl, .int .i64 (rl + (q : Int)), .int .i64 rn] 95 (0, 0)) = wB at *
      obtain ⟨b0, b1, b2⟩ := hb.at
      simp only at b0 b1 b2
      obtain ⟨y, hy⟩ : ∃ y, wr.heap.size = y := ⟨_, rfl⟩
      rw [hy] at hb b0 b1 b2
      have HB := Lib.hid hb
      clear hr htk hall hit hpre0 hJs hb ga
      gi_wp2
      gi_loopw [5] (fun iv wx => ∃ m : Nat, m ≤ q ∧ iv = .int .i64 (rl + (m : Int)) ∧ J (pre0 ++ it.take m) wx ∧ Hid (RunB wx y ⟨rl, rl + (q : Int), rn⟩) ∧ Hid (RunsC wx (.slice (some ⟨g, o, none⟩) R.length c0) R)) (fun iv _ => (rl + (q : Int) - intOf iv).toNat)
      case atStart => exact ⟨0, Nat.zero_le _, by simp, by simpa using HJ2.out, HB, HK2⟩
      case round =>
        clear HJ2 HB HK2
        obtain ⟨m, hm, rfl, hJs, HB, HK⟩ := hrel
        obtain ⟨b0, b1, b2⟩ := HB.out.at
        simp only at b0 b1 b2
        by_cases hlt2 : m < q
        · have HT := Lib.hid (HIt.out m hlt2)
          have hlen : (pre0 ++ it.take m).length < (itemsR R).length := by
            rw [HAll.out]
            simp only [List.length_append, List.length_take, HIl.out]
            omega
          obtain ⟨fn, tmps, assign, body, hyy, hRr⟩ := HY.out (pre0 ++ it.take m) ⟨rl + (m : Int), rn⟩ wr hJs hlen
          simp only [encI] at hyy
          clear hlen
          gi_wp2
          refine hRr.mono ?_
          rintro e W3 (⟨rfl, hJ3, hk3⟩ | ⟨rfl, hJx3⟩)
          · have HB3 := Lib.hid (show RunB W3 y ⟨rl, rl + (q : Int), rn⟩ from hk3.2 _ _ _ HB.out)
            have HK3 := Lib.hid (RunsC.keptB (w' := W3) HK.out fun b e => hk3.1 b (HG.out b e))
            gi_wp2
            go_roundw
            case rel => exact ⟨m + 1, by omega, by go_num, by rw [HT.out, ← List.append_assoc]; exact hJ3, HB3, HK3⟩
            case measure => simp [intOf]; omega
          · gi_wp2
            refine bodyPost_ret (results_none rfl _ _ _) rfl ?_
            exact ⟨⟨_, rfl⟩, .inr ⟨_, ⟨it.drop (m + 1) ++ itemsR (R.drop (k + 1)), by rw [HAll.out, List.append_assoc pre0, ← HT.out, List.append_assoc, ← List.append_assoc (it.take (m + 1)), List.take_append_drop]⟩, hJx3⟩⟩
        · obtain rfl : m = q := by omega
          rw [List.take_of_length_le (by rw [HIl.out]; exact Nat.le_refl _), ← HTk.out] at hJs
          gi_wp2
          go_roundw
          case rel => exact ⟨k + 1, by omega, by go_num, hJs, HK⟩
          case measure => simp [intOf]; omega
    · obtain rfl : k = R.length := by omega
      rw [List.take_length] at hJs
      gi_wp2
      go_end0
      exact ⟨⟨_, rfl⟩, .inl ⟨_, rfl, hJs⟩⟩

theorem counts1_stops (n : Nat) (hn : 1 ≤ n) (Bs : Nat) (u : Value) (R : List JR) (hl : R.length ≤ 4096) (hR : ∀ r, r ∈ R → 0 ≤ r.lo ∧ r.lo ≤ r.hi ∧ r.hi ≤ 4096) (G : List Nat) (hG : ∀ g, u.ownBlock = some g → g ∈ G) (w : World) (hBs : w.cell? ⟨Bs, 0, none⟩ = some u) (hU : RunsC w u R) :
    SeqStopsK Fence.wide n Try.prog 66 #[.pointer (some ⟨Bs, 0, none⟩)] encI (KpR G) (fun ys => ys = itemsR R) (fun pre => pre <+: itemsR R) (itemsR R).length w := fun l J Jx W hW hJ _ hY h0 =>
  counts1_in n hn l Bs u R hl hR G hG J Jx W hJ hY W ((hW.cell (p := ⟨Bs, 0, none⟩) (World.block_lt_of_cell? w _ hBs)).trans hBs) (hU.keptB fun b e => hW.block b (hU.lt e)) h0
theorem counts_of (s : Option Addr) (l c : Nat) (w : World) :
    Calls Try.prog 51 #[.slice s l c] w fun e w' => e = .returned (.func (.func 66) #[] #[.pointer (some ⟨w.heap.size, 0, none⟩)]) ∧ w' = w.alloc (.cells #[.slice s l c] 96) := by
  have hmf : ∀ (fn : Fn) (first cap : Array Value) (w : World), (Instr.makeFunc fn first cap).run Try.prog w = .ok (.func fn first cap) w := fun _ _ _ _ => rfl
  go_enter Try.func51, Try.ntmps51
  go_wp2
  go_ret
  exact ⟨rfl, rfl⟩
end Go.Proofs.Ytfmihbiongnpnaa
