/- Package amap (landed): used, its iterator; Used. -/
import Derived.Test.YtfmihbiongnpnaaADd
namespace Go.Proofs.Ytfmihbiongnpnaa
open Go.ChangeShapes Go.WideShapes Go.ChangeAt Go.RowKit Go.Deep
set_option linter.unusedVariables false
attribute [local go_sem] Oper.semAt_some

theorem row_keptB {w w' : World} {u : Value} {zs : List Int} (h : RowOf zCells 1 w u zs) (hb : ∀ b, u.ownBlock = some b → w'.heap[b]? = w.heap[b]?) : RowOf zCells 1 w' u zs := by
  refine ⟨h.1, ?_⟩
  rcases h.2 with h0 | ⟨g, o, c, hv, hg, hc⟩
  · exact .inl h0
  · have e := hb g (by rw [hv]; rfl)
    obtain ⟨ob, ho⟩ : ∃ ob, w.heap[g]? = some ob := ⟨_, Array.getElem?_eq_getElem hg⟩
    exact .inr ⟨g, o, c, hv, (Array.getElem?_eq_some_iff.1 (e.trans ho)).1, fun j v hj => (World.cell?_of_block (a := ⟨g, o + j, none⟩) e).trans (hc j v hj)⟩
theorem row_lt {w : World} {u : Value} {zs : List Int} (h : RowOf zCells 1 w u zs) {b : Nat} (hb : u.ownBlock = some b) : b < w.heap.size := by
  rcases h.2 with ⟨h0, _⟩ | ⟨g, o, c, hv, hg, hc⟩
  · rw [h0] at hb; cases hb
  · rw [hv] at hb
    have e : g = b := by simpa [Value.ownBlock] using hb
    rw [← e]; exact hg
/-- A slot that is used, with its anon. -/
abbrev UI (k : Nat) := {x : JI // 0 ≤ x.i ∧ x.i < k}
def encU {k : Nat} (x : UI k) : Array Value := encI x.1
def uTo (zs : List Int) : Nat → List (UI zs.length)
  | 0 => []
  | n + 1 => uTo zs n ++ if h : n < zs.length then (if zs.getD n 0 ≠ 0 then [⟨⟨n, zs.getD n 0⟩, by constructor <;> simp <;> omega⟩] else []) else []
def uAll (zs : List Int) : List (UI zs.length) := uTo zs zs.length
section
variable {zs : List Int} {n m : Nat}
theorem uTo_skip (h : zs.getD n 0 = 0) : uTo zs (n + 1) = uTo zs n := by
  rw [uTo]
  by_cases hn : n < zs.length
  · rw [dif_pos hn, if_neg (fun k => k h), List.append_nil]
  · rw [dif_neg hn, List.append_nil]
theorem uTo_more (h : n < zs.length) (h0 : zs.getD n 0 ≠ 0) : uTo zs (n + 1) = uTo zs n ++ [⟨⟨n, zs.getD n 0⟩, by constructor <;> simp <;> omega⟩] := by
  rw [uTo, dif_pos h, if_pos h0]
theorem uTo_pre (k : Nat) : uTo zs n <+: uTo zs (n + k) := by
  induction k with
  | zero => exact List.prefix_refl _
  | succ k ih =>
    refine ih.trans ?_
    rw [show n + (k + 1) = (n + k) + 1 by omega, uTo]
    exact List.prefix_append _ _
theorem uTo_all (h : n ≤ zs.length) : uTo zs n <+: uAll zs := by
  have := uTo_pre (zs := zs) (n := n) (zs.length - n)
  rwa [show n + (zs.length - n) = zs.length by omega] at this
theorem uTo_used (h : n ≤ zs.length) : (uTo zs n).map (fun x => (x.1.i, x.1.n)) = usedTo zs n := by
  induction n with
  | zero => rfl
  | succ n ih =>
    rw [usedTo_succ, ← ih (by omega)]
    by_cases h0 : zs.getD n 0 = 0
    · rw [uTo_skip h0, if_neg (by omega), List.append_nil]
    · rw [uTo_more (by omega) h0, if_pos h0, List.map_append]
      rfl
theorem uTo_len (h : n ≤ zs.length) : (uTo zs n).length ≤ n := by
  have := congrArg List.length (uTo_used h)
  rw [List.length_map] at this
  rw [this]
  unfold usedTo
  rw [List.length_map]
  exact Nat.le_trans (List.length_filter_le _ _) (by rw [List.length_range]; exact Nat.le_refl _)
end
/-- What a body must keep: the blocks that the iterator reads. -/
def KpG (G : List Nat) (W W' : World) : Prop := ∀ k, k ∈ G → W'.heap[k]? = W.heap[k]?
theorem kpG_t {G : List Nat} {A B C : World} (h : KpG G A B) (k : KpG G B C) : KpG G A C := fun i hi => (k i hi).trans (h i hi)
theorem kpG_b {G : List Nat} {B : Nat} (hG : ∀ k, k ∈ G → k < B) (W : World) (l : Nat) (o' : Obj) (hl : B ≤ l) : KpG G W (W.putObj l o') := fun k hk => World.putObj_heap_other (by have := hG k hk; omega)

set_option maxRecDepth 100000 in
set_option maxHeartbeats 2000000 in
theorem used1_in (n : Nat) (hn : 1 ≤ n) (l Bs : Nat) (u : Value) (zs : List Int) (hl : zs.length ≤ 4096) (G : List Nat) (hG : ∀ g, u.ownBlock = some g → g ∈ G) (J Jx : List (UI zs.length) → World → Prop)
    (W0 : World) (hJ : AbidesFrom W0.heap.size J)
    (hY : ∀ pre x W, J pre W → pre.length < (uAll zs).length → YieldAt Fence.wide (n - 1) Try.prog l (encU x) W fun e W' =>
      (e = .returned (.bool true) ∧ J (pre ++ [x]) W' ∧ KpG G W W') ∨ (e = .returned (.bool false) ∧ Jx (pre ++ [x]) W'))
    (W : World) (hBs : W.cell? ⟨Bs, 0, none⟩ = some u) (hU : RowOf zCells 1 W u zs) (h0 : J [] W) :
    CallsIn Fence.wide n Try.prog 53 #[.func (.yield l) #[] #[], .pointer (some ⟨Bs, 0, none⟩)] W fun e W' => (∃ v, e = .returned v) ∧
      ((∃ ys, ys = uAll zs ∧ J ys W') ∨ (∃ pre, pre <+: uAll zs ∧ Jx pre W')) := by
  have HU := Lib.hid hU
  have HG := Lib.hid hG
  have HY := Lib.hid hY
  obtain ⟨a0, c0, rfl⟩ := rowOf_form hU
  clear hU hG hJ hY
  refine callsIn_of_wp Try.func53 rfl trivial ?_ rfl
  simp only [Try.ntmps53, List.size_toArray, List.length_cons, List.length_nil, Nat.reduceAdd, Nat.reduceSub, Array.replicate_succ, Array.replicate_zero, List.push_toArray, List.append_toArray, List.nil_append, List.cons_append]
  gi_wp2
  gi_loopw [7] (fun i wr => ∃ k : Nat, k ≤ zs.length ∧ i = .int .i64 k ∧ J (uTo zs k) wr ∧ Hid (RowOf zCells 1 wr (.slice a0 zs.length c0) zs)) (fun i _ => zs.length - (intOf i).toNat)
  case atStart => exact ⟨0, Nat.zero_le _, rfl, h0, HU⟩
  case round =>
    obtain ⟨k, hk, rfl, hJs, HK⟩ := hrel
    by_cases hlt : k < zs.length
    · obtain ⟨z, hz⟩ : ∃ z, zs[k]? = some z := ⟨_, List.getElem?_eq_getElem hlt⟩
      obtain ⟨g, o, c', hv', k0⟩ := z_cells HK.out hz
      injection hv' with e1 e2 e3
      subst e1 e3
      have hzd : zs.getD k 0 = z := by rw [List.getD_eq_getElem?_getD, hz]; rfl
      by_cases h0 : z = 0
      · have d0 : (z != 0) = false := by simp [h0]
        rw [← uTo_skip (by rw [hzd, h0])] at hJs
        clear hz hzd h0
        gi_wp2
        refine ⟨(fun f hf => by cases hf), ?_⟩
        gi_wp2
        go_roundw
        case rel => exact ⟨k + 1, by omega, by go_num, hJs, HK⟩
        case measure => simp [intOf]; omega
      · have d0 : (z != 0) = true := by simpa using h0
        have hx : (0 : Int) ≤ ((k : Nat) : Int) ∧ ((k : Nat) : Int) < (zs.length : Nat) := ⟨by omega, by omega⟩
        have hmore := uTo_more hlt (by rw [hzd]; exact h0)
        have hlen : (uTo zs k).length < (uAll zs).length := by
          have := (uTo_all (n := k + 1) (zs := zs) (by omega)).length_le
          rw [hmore, List.length_append, List.length_singleton] at this
          omega
        have hpre := uTo_all (n := k + 1) (zs := zs) (by omega)
        have HM := Lib.hid (show uTo zs (k + 1) = uTo zs k ++ [⟨⟨k, z⟩, hx⟩] by rw [hmore]; congr 2; exact Subtype.ext (by simp only [hzd]))
        have HP := Lib.hid hpre
        obtain ⟨fn, tmps, assign, body, hyy, hRr⟩ := HY.out (uTo zs k) ⟨⟨k, z⟩, hx⟩ wr hJs hlen
        simp only [encU, encI] at hyy
        clear hlen hz hzd h0 hmore hpre
        gi_wp2
        refine hRr.mono ?_
        rintro e W3 (⟨rfl, hJ3, hk3⟩ | ⟨rfl, hJx3⟩)
        · have HK3 := Lib.hid (row_keptB (w' := W3) HK.out fun b e => hk3 b (HG.out b e))
          rw [← HM.out] at hJ3
          gi_wp2
          go_roundw
          case rel => exact ⟨k + 1, by omega, by go_num, hJ3, HK3⟩
          case measure => simp [intOf]; omega
        · rw [← HM.out] at hJx3
          gi_wp2
          refine bodyPost_ret (results_none rfl _ _ _) rfl ?_
          exact ⟨⟨_, rfl⟩, .inr ⟨_, HP.out, hJx3⟩⟩
    · obtain rfl : k = zs.length := by omega
      gi_wp2
      go_end0
      exact ⟨⟨_, rfl⟩, .inl ⟨_, rfl, hJs⟩⟩

theorem used1_stops (n : Nat) (hn : 1 ≤ n) (Bs : Nat) (u : Value) (zs : List Int) (hl : zs.length ≤ 4096) (G : List Nat) (hG : ∀ g, u.ownBlock = some g → g ∈ G) (w : World) (hBs : w.cell? ⟨Bs, 0, none⟩ = some u) (hU : RowOf zCells 1 w u zs) :
    SeqStopsK Fence.wide n Try.prog 53 #[.pointer (some ⟨Bs, 0, none⟩)] (encU (k := zs.length)) (KpG G) (fun ys => ys = uAll zs) (fun pre => pre <+: uAll zs) (uAll zs).length w := fun l J Jx W hW hJ _ hY h0 =>
  used1_in n hn l Bs u zs hl G hG J Jx W hJ hY W ((hW.cell (p := ⟨Bs, 0, none⟩) (World.block_lt_of_cell? w _ hBs)).trans hBs) (row_keptB hU fun b e => hW.block b (row_lt hU e)) h0
theorem used_of (s : Option Addr) (l c : Nat) (w : World) :
    Calls Try.prog 44 #[.slice s l c] w fun e w' => e = .returned (.func (.func 53) #[] #[.pointer (some ⟨w.heap.size, 0, none⟩)]) ∧ w' = w.alloc (.cells #[.slice s l c] 39) := by
  have hmf : ∀ (fn : Fn) (first cap : Array Value) (w : World), (Instr.makeFunc fn first cap).run Try.prog w = .ok (.func fn first cap) w := fun _ _ _ _ => rfl
  go_enter Try.func44, Try.ntmps44
  go_wp2
  go_ret
  exact ⟨rfl, rfl⟩

theorem eql_ints_some (w : World) (a : Addr) (n c : Nat) : (binOp .eql 39 (.slice (some a) n c) (.slice none 0 0)).run Try.prog w = .ok (.bool false) w := by
  have h1 : ∀ d : Nat, (Op.equalIn (d + 1) 39 (.slice (some a) n c) (.slice none 0 0)).run Try.prog w = .ok false w := fun d => by
    simp [Op.equalIn, run_underlying Try.underlying39]
  simp only [binOp]
  simp [Op.equal, Op.maxDepth, h1 9999]
/-- 'slices.Clone' of numbers. -/
theorem zclone_ok {w : World} {g c : Nat} {zs : List Int} (h : ZOwn w 0 (.slice (some ⟨g, 0, none⟩) zs.length c) zs) (hl : zs.length ≤ 4096) : Calls Try.prog 54 #[.slice (some ⟨g, 0, none⟩) zs.length c] w fun e w' => ∃ u', e = .returned u' ∧ RowOf zCells 1 w' u' zs ∧ (∀ b, u'.ownBlock = some b → w.heap.size ≤ b) ∧ w.grownBy w' none := by
  have HA := Lib.hid (rowOf_grow (OwnOf.row h) (World.grownBy_alloc w (.cells #[] 3) none))
  have hq := fun wx => eql_ints_some wx ⟨g, 0, none⟩ zs.length c
  clear h
  go_enter Try.func54, Try.ntmps54
  go_wp2_with (at_builtin; refine wpList_zcopy w rfl _ _ rfl _ zs w.heap.size rfl rfl rfl HA.out (by omega) ?_; intro g8 c8 w8 hown8 hg8; have HO8 := Lib.hid hown8; have HG8 := Lib.hid hg8; clear hown8 hg8)
  go_ret
  exact ⟨_, rfl, OwnOf.row HO8.out, fun b e => (OwnOf.lt HO8.out e).1, HG8.out⟩
end Go.Proofs.Ytfmihbiongnpnaa
