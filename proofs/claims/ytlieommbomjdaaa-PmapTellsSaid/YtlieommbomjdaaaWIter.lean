/- Package walk's Leaves: the iterator that it hands back tells the document's list, for every body that keeps the blocks that it reads. -/
import Derived.Test.YtlieommbomjdaaaWTel
import Derived.Test.YtlieommbomjdaaaWB2
namespace Go.Proofs.Ytlieommbomjdaaa
open Go.ChangeShapes Go.WideShapes Go.ChangeAt Go.RowKit Go.Deep
set_option linter.unusedVariables false
attribute [local go_sem] Oper.semAt_some

theorem take_two : TakeOk 2 := take_ok 2 (by omega) fun q hq => by
  obtain rfl : q = 1 := by omega
  exact take_ok 1 (by omega) fun q hq => by
    obtain rfl : q = 0 := by omega
    exact take_ok 0 (by omega) fun q hq => by omega

/-- What Leaves hands back: a box with the root's row. -/
def Iter (w0 w : World) (m d n : Nat) (L : List UInt8) (root : Int) (e : Ending) (w' : World) : Prop :=
  ∃ Ba v F, e = .returned (.func (.func 69) #[] #[.pointer (some ⟨Ba, 0, none⟩)]) ∧ w'.heap[Ba]? = some (.cells #[v] 117 (0, 0)) ∧ Stands w' F ∧ Sub n L F 2 root v ∧
    (∀ b o, F b = some o → w.heap.size ≤ b) ∧ St w0 w' m d n L ∧ w.grownBy w' none

set_option maxHeartbeats 1000000 in
theorem leaves_of {w0 w : World} {m d n : Nat} {L : List UInt8} (h : St w0 w m d n L) (root : Int) (hr : okI root) :
    Calls Try.prog 41 #[.pointer (some ⟨m, 0, none⟩), .int .i64 root] w (Iter w0 w m d n L root) := by
  have hg : w.grownBy ((w.alloc (.map #[] 0)).alloc (.cells #[.pointer (some ⟨m, 0, none⟩), .map (some w.heap.size)] 116)) none := grown_trans (World.grownBy_alloc _ _ _) (World.grownBy_alloc _ _ _)
  have hsz : w.heap.size < ((w.alloc (.map #[] 0)).alloc (.cells #[.pointer (some ⟨m, 0, none⟩), .map (some w.heap.size)] 116)).heap.size := by simp; omega
  have hT : TakeW w0 ((w.alloc (.map #[] 0)).alloc (.cells #[.pointer (some ⟨m, 0, none⟩), .map (some w.heap.size)] 116)) m d n L w.heap.size 0 (fun _ => none) :=
    ⟨h.grow hg, (MapR.made w _).kept ((World.grownBy_alloc (w.alloc (.map #[] 0)) _ none).block _ (by simp) (by simp)), (fun b o hb => by cases hb), h.below.size⟩
  have hC : Calls Try.prog 68 #[.agg #[.pointer (some ⟨m, 0, none⟩), .map (some w.heap.size)], .agg #[.int .i64 root, .int .i64 2]] ((w.alloc (.map #[] 0)).alloc (.cells #[.pointer (some ⟨m, 0, none⟩), .map (some w.heap.size)] 116))
      (Taken w0 ((w.alloc (.map #[] 0)).alloc (.cells #[.pointer (some ⟨m, 0, none⟩), .map (some w.heap.size)] 116)) m d n L w.heap.size (0 + cost 2) (fun _ => none) 2 root) := take_two w0 _ m d n L w.heap.size 0 (fun _ => none) root hT hr (by unfold maxLen; simp [cost])
  have HC := Lib.hid hC
  have hmm : (Instr.makeMap 114 none).run Try.prog w = .ok (.map (some w.heap.size)) (w.alloc (.map #[] 0)) := run_makeMap _ _
  have HG := Lib.hid hg
  have HZ := Lib.hid hsz
  have hmf : ∀ (fn : Fn) (first cap : Array Value) (w : World), (Instr.makeFunc fn first cap).run Try.prog w = .ok (.func fn first cap) w := fun _ _ _ _ => rfl
  clear h hg hT hsz hC
  go_enter Try.func41, Try.ntmps41
  go_wp2_with fail
  refine HC.out.mono ?_
  rintro e w5 ⟨v, F, rfl, ht5, hs5, g5, ho5⟩
  have hz := HZ.out
  have HT5 := Lib.hid ht5
  have HS5 := Lib.hid hs5
  have HG5 := Lib.hid (grown_new HG.out g5 (Nat.le_refl _))
  have HO5 := Lib.hid (show ∀ b o, F b = some o → w.heap.size ≤ b from fun b o hb => by
    rcases Nat.lt_or_ge b w.heap.size with hlt | hge
    · rw [ho5 b (by omega)] at hb; cases hb
    · exact hge)
  obtain ⟨bs, hr5, _⟩ := (sub_eq _ _ _ _ _ _).1 hs5
  obtain ⟨s, l, c, rfl⟩ := hr5.one
  clear ht5 hs5 g5 ho5 hr5 hz
  go_wp2_with fail
  go_ret
  have ga := World.grownBy_alloc w5 (.cells #[.slice s l c] 117) none
  exact ⟨_, _, F, rfl, heap_alloc_new w5 _, fun b o hb => ⟨(ga.block _ (HT5.out.stands.lt hb) (by simp)).trans (HT5.out.stands b o hb).1, (HT5.out.stands b o hb).2⟩, HS5.out, HO5.out, HT5.out.st.grow ga, grown_trans HG5.out ga⟩

theorem tell_two (nn n : Nat) (L : List UInt8) (F : Gh) (By Bt ly : Nat) (X : List Nat) (zs : List LeafV) (J Jx : List LeafV → World → Prop) (B : Nat) (hJ : AbidesFrom B J) (hX : (∀ b o, F b = some o → b ∉ X) ∧ By ∉ X ∧ Bt ∉ X)
    (hY : ∀ pre x W1, J pre W1 → pre.length < zs.length → YieldAt Fence.wide (nn - 1) Try.prog ly #[.int .i64 x.v, .agg #[.int .i64 x.fl, .int .i64 x.pp]] W1 fun e W' =>
      (e = .returned (.bool true) ∧ J (pre ++ [x]) W' ∧ KpX X W1 W') ∨ (e = .returned (.bool false) ∧ Jx (pre ++ [x]) W')) : TellOk nn n L F By Bt ly zs J Jx 2 :=
  tell_ok nn n L F By Bt ly X zs J Jx B hJ hX hY 2 (by omega) fun q hq => by
    obtain rfl : q = 1 := by omega
    exact tell_ok (nn - 1) n L F By Bt ly X zs J Jx B hJ hX (fun pre x W1 hj hl => yield_wide (hY pre x W1 hj hl)) 1 (by omega) fun q hq => by
      obtain rfl : q = 0 := by omega
      exact tell_ok (nn - 1 - 1) n L F By Bt ly X zs J Jx B hJ hX (fun pre x W1 hj hl => yield_wide (hY pre x W1 hj hl)) 0 (by omega) fun q hq => by omega

theorem ybox_new (W : World) (l : Nat) :
    ∃ W2 W3 : World, (W.alloc (.cells #[.func (.yield l) #[] #[]] 82)).alloc (.cells #[.nilFunc] 121) = W2 ∧
      (store ⟨W.heap.size + 1, 0, none⟩ (.func (.func 70) #[] #[.pointer (some ⟨W.heap.size, 0, none⟩), .pointer (some ⟨W.heap.size + 1, 0, none⟩)])).run Try.prog W2 = .ok () W3 ∧
      W.grownBy W2 none ∧ W.grownBy W3 none ∧ W3.heap[W.heap.size]? = some (.cells #[.func (.yield l) #[] #[]] 82 (0, 0)) ∧
      Boxed W3 (W.heap.size + 1) 121 (.func (.func 70) #[] #[.pointer (some ⟨W.heap.size, 0, none⟩), .pointer (some ⟨W.heap.size + 1, 0, none⟩)]) := by
  obtain ⟨W2, hW2⟩ : ∃ W2, (W.alloc (.cells #[.func (.yield l) #[] #[]] 82)).alloc (.cells #[.nilFunc] 121) = W2 := ⟨_, rfl⟩
  have hg2 : W.grownBy W2 none := by rw [← hW2]; exact grown_trans (World.grownBy_alloc _ _ _) (World.grownBy_alloc _ _ _)
  have hy2 : W2.heap[W.heap.size]? = some (.cells #[.func (.yield l) #[] #[]] 82 (0, 0)) := by
    rw [← hW2]
    exact ((World.grownBy_alloc (W.alloc (.cells #[.func (.yield l) #[] #[]] 82)) (.cells #[.nilFunc] 121) none).block _ (by simp) (by simp)).trans (heap_alloc_new W _)
  have ht2 : Boxed W2 (W.heap.size + 1) 121 .nilFunc := by
    rw [← hW2]
    have := Boxed.new (W.alloc (.cells #[.func (.yield l) #[] #[]] 82)) 121 .nilFunc
    rwa [World.size_alloc] at this
  have c1 := ht2.cell
  have f1 := ht2.frozen
  have hfv : (Value.func (.func 70) #[] #[.pointer (some ⟨W.heap.size, 0, none⟩), .pointer (some ⟨W.heap.size + 1, 0, none⟩)]).oneCell' = true := rfl
  generalize Value.func (.func 70) #[] #[.pointer (some ⟨W.heap.size, 0, none⟩), .pointer (some ⟨W.heap.size + 1, 0, none⟩)] = fv at *
  have hg3 := grownBy_setCell' W2 (W.heap.size + 1) fv
  refine ⟨W2, W2.setCell ⟨W.heap.size + 1, 0, none⟩ fv, hW2, ?_, hg2, grown_new hg2 hg3 (Nat.le_succ _), (hg3.block W.heap.size (Array.getElem?_eq_some_iff.1 hy2).1 (by simp)).trans hy2, ht2.set fv⟩
  rw [run_store _ _ _ _ _ hfv, c1, f1]
  rfl

set_option maxRecDepth 100000 in
set_option maxHeartbeats 1000000 in
theorem leaves1_in (nn l Ba ln c : Nat) (s : Option Addr) (W W2 W3 : World) (R : World → Prop)
    (hW2 : (W.alloc (.cells #[.func (.yield l) #[] #[]] 82)).alloc (.cells #[.nilFunc] 121) = W2)
    (hst : (store ⟨W.heap.size + 1, 0, none⟩ (.func (.func 70) #[] #[.pointer (some ⟨W.heap.size, 0, none⟩), .pointer (some ⟨W.heap.size + 1, 0, none⟩)])).run Try.prog W2 = .ok () W3)
    (c3 : W3.cell? ⟨W.heap.size + 1, 0, none⟩ = some (.func (.func 70) #[] #[.pointer (some ⟨W.heap.size, 0, none⟩), .pointer (some ⟨W.heap.size + 1, 0, none⟩)]))
    (c4 : W3.cell? ⟨Ba, 0, none⟩ = some (.slice s ln c))
    (H : CallsIn Fence.wide (nn - 1) Try.prog 70 #[.slice s ln c, .int .i64 0, .pointer (some ⟨W.heap.size, 0, none⟩), .pointer (some ⟨W.heap.size + 1, 0, none⟩)] W3 fun e W' => (∃ b, e = .returned (.bool b)) ∧ R W') :
    CallsIn Fence.wide nn Try.prog 69 #[.func (.yield l) #[] #[], .pointer (some ⟨Ba, 0, none⟩)] W fun e W' => (∃ v, e = .returned v) ∧ R W' := by
  have hmf : ∀ (fn : Fn) (first cap : Array Value) (w : World), (Instr.makeFunc fn first cap).run Try.prog w = .ok (.func fn first cap) w := fun _ _ _ _ => rfl
  have HTT := Lib.hid H
  clear H
  refine callsIn_of_wp Try.func69 rfl trivial ?_ rfl
  simp only [Try.ntmps69, List.size_toArray, List.length_cons, List.length_nil, Nat.reduceAdd, Nat.reduceSub, Array.replicate_succ, Array.replicate_zero, List.push_toArray, List.append_toArray, List.nil_append, List.cons_append]
  gi_wp2_with fail
  refine ⟨trivial, (fun h => by cases h), ?_⟩
  refine HTT.out.mono ?_
  rintro e W4 ⟨⟨b, rfl⟩, hR⟩
  gi_wp2
  go_end0
  exact ⟨⟨_, rfl⟩, hR⟩

/-- The iterator, at a box that holds the root's row. -/
theorem leaves_stops (nn n : Nat) (L : List UInt8) (F : Gh) (root : Int) (v : Value) (Ba : Nat) (X : List Nat) (w : World) (zs : List LeafV) (hzs : allL n L 2 root 0 = zs) (hb : w.heap[Ba]? = some (.cells #[v] 117 (0, 0))) (hf : Stands w F) (hs : Sub n L F 2 root v)
    (hFX : ∀ b o, F b = some o → b ∉ X) (hXw : ∀ k, k ∈ X → k < w.heap.size) :
    SeqStopsK Fence.wide nn Try.prog 69 #[.pointer (some ⟨Ba, 0, none⟩)] (fun x : LeafV => #[Value.int .i64 x.v, .agg #[.int .i64 x.fl, .int .i64 x.pp]]) (KpX X) (fun ys => ys = zs) (fun p => p <+: zs) zs.length w := by
  intro l J Jx W hW hJ hJx hY h0
  obtain ⟨bs, hr5, _⟩ := (sub_eq _ _ _ _ _ _).1 hs
  obtain ⟨s, ln, c, rfl⟩ := hr5.one
  have hba : w.heap.size ≤ W.heap.size := hW.size
  have hbox := (hW.block Ba (Array.getElem?_eq_some_iff.1 hb).1).trans hb
  have hc : W.cell? ⟨Ba, 0, none⟩ = some (.slice s ln c) := by rw [cell_of_row _ _ _ _ _ _ hbox]; rfl
  have hlt : Ba < W.heap.size := (Array.getElem?_eq_some_iff.1 hbox).1
  have hst : Stands W F := fun b o hb => ⟨(hW.block _ (hf.lt hb)).trans (hf b o hb).1, (hf b o hb).2⟩
  obtain ⟨W2, W3, hW2, hstore, hg2, hg, hy3, ht3⟩ := ybox_new W l
  have hrd : Rd W3 F W.heap.size (W.heap.size + 1) l := ⟨fun b o hb => ⟨(hg.block b (hst.lt hb) (by simp)).trans (hst b o hb).1, (hst b o hb).2⟩, hy3, ht3⟩
  have c4 : W3.cell? ⟨Ba, 0, none⟩ = some (.slice s ln c) := (World.cell?_of_block (hg.block Ba hlt (by simp))).trans hc
  have hx1 : W.heap.size ∉ X := fun hm => Nat.lt_irrefl _ (Nat.lt_of_lt_of_le (hXw _ hm) hba)
  have hx2 : W.heap.size + 1 ∉ X := fun hm => Nat.lt_irrefl _ (Nat.lt_of_lt_of_le (hXw _ hm) (Nat.le_succ_of_le hba))
  have HT := tell_two (nn - 1) n L F W.heap.size (W.heap.size + 1) l X zs J Jx W.heap.size hJ ⟨hFX, hx1, hx2⟩ (fun pre x W1 hj hl => yield_wide (hY pre x W1 hj hl))
  have HC := HT root 0 (.slice s ln c) [] [] W3 hs (Int.le_refl _) (by simp [bnd]) (by rw [hzs]; simp) hrd (hJ [] W W3 none h0 hg (by simp))
  exact leaves1_in nn l Ba ln c s W W2 W3 (fun W' => (∃ xs, xs = zs ∧ J xs W') ∨ ∃ pre, pre <+: zs ∧ Jx pre W') hW2 hstore ht3.cell c4 (HC.mono fun e W4 h => by
    rcases h with ⟨rfl, hJ4, _⟩ | ⟨rfl, p, hp, hJx4⟩
    · rw [hzs, List.nil_append] at hJ4
      exact ⟨⟨_, rfl⟩, .inl ⟨zs, rfl, hJ4⟩⟩
    · exact ⟨⟨_, rfl⟩, .inr ⟨p, hp, hJx4⟩⟩)
end Go.Proofs.Ytlieommbomjdaaa
