/- Layer 7: a space that no call made; New without a memory, or without a pool. Layer 7: PmapNone, walked. -/
import Derived.Test.YtlieommbomjdaaaQB7
import Derived.Test.YtlieommbomjdaaaMB5
import Derived.Test.YtlieommbomjdaaaMB3
import Derived.LoopN
namespace Go.Proofs.Ytlieommbomjdaaa
open Go.ChangeShapes Go.WideShapes Go.ChangeAt Go.RowKit Go.Deep
set_option linter.unusedVariables false

section
variable {w w' : World} {v : Value}
/-- That package pmap takes it for no space, now and later. -/
def NoMap (w : World) (v : Value) : Prop := ∀ W, w.grownBy W none → Calls Try.prog 33 #[v] W fun e w' => e = .returned (.bool false) ∧ w' = W
theorem NoMap.nil (w : World) : NoMap w (.pointer none) := fun W _ => nil_madeM W
theorem NoMap.zero {x : Nat} (h : ZpB w x) : NoMap w (.pointer (some ⟨x, 0, none⟩)) := fun W g => zp_made ((g.block x (Array.getElem?_eq_some_iff.1 h).1 (by simp)).trans h)
theorem NoMap.grow (h : NoMap w v) (g : w.grownBy w' none) : NoMap w' v := fun W k => h W (grown_trans g k)
theorem NoMap.now (h : NoMap w v) : Calls Try.prog 33 #[v] w fun e w' => e = .returned (.bool false) ∧ w' = w := h w (grown_refl _ _)
theorem nm_find (h : NoMap w v) (i : Int) : Calls Try.prog 22 #[v, .int .i64 i] w fun e w' => e = .returned (.tuple #[.agg #[.int .i64 0, .int .i64 0], .bool false]) ∧ w.grownBy w' none := no_find v h i
theorem nm_enter (h : NoMap w v) (i f p : Int) : Calls Try.prog 13 #[v, .int .i64 i, .int .i64 f, .int .i64 p] w fun e w' => e = .returned (.int .i64 1) ∧ w.grownBy w' none := by
  have HM := Lib.hid h.now
  clear h
  go_enter Try.func13, Try.ntmps13
  go_wp2_with fail
  refine HM.out.mono ?_
  rintro e w1 ⟨rfl, e1⟩
  subst w1
  go_wp2_with fail
  go_ret
  exact ⟨rfl, grown_refl _ _⟩
theorem nm_remove (h : NoMap w v) (i : Int) : Calls Try.prog 15 #[v, .int .i64 i] w fun e w' => e = .returned (.bool false) ∧ w.grownBy w' none := by
  have HF := Lib.hid (nm_find h i)
  clear h
  go_enter Try.func15, Try.ntmps15
  go_wp2_with fail
  refine HF.out.mono ?_
  rintro e' w1 ⟨rfl, g1⟩
  have HG1 := Lib.hid (grown_trans g1 (World.grownBy_alloc w1 (.cells #[.int .i64 0, .int .i64 0] 44) none))
  clear g1
  go_wp2_with fail
  go_ret
  exact ⟨rfl, HG1.out⟩
theorem nm_protect (h : NoMap w v) (i q : Int) : Calls Try.prog 27 #[v, .int .i64 i, .int .i64 q] w fun e w' => e = .returned (.bool false) ∧ w.grownBy w' none := by
  have HF := Lib.hid (fun W (g : w.grownBy W none) => nm_find (h.grow g) i)
  have HR := Lib.hid (fun W (g : w.grownBy W none) => nm_remove (h.grow g) i)
  clear h
  by_cases hq : bits .and .i64 (flagsOf q true) 14 = 0
  · have b0 : (bits .and .i64 (flagsOf q true) 14 == 0) = true := by rw [hq]; rfl
    clear hq
    go_enter Try.func27, Try.ntmps27
    go_wp2_with fail
    refine (flagsOf_ok q true w).mono ?_
    rintro e' w1 ⟨rfl, h1⟩
    have G1 := Lib.hid (grown_of_below' h1)
    clear h1
    go_wp2_with fail
    refine (HR.out w1 G1.out).mono ?_
    rintro e' w2 ⟨rfl, h2⟩
    have H2 := Lib.hid (grown_trans G1.out h2)
    clear h2
    go_wp2_with fail
    go_ret
    exact ⟨rfl, H2.out⟩
  · have b0 : (bits .and .i64 (flagsOf q true) 14 == 0) = false := by simpa using hq
    clear hq
    go_enter Try.func27, Try.ntmps27
    go_wp2_with fail
    refine (flagsOf_ok q true w).mono ?_
    rintro e' w1 ⟨rfl, h1⟩
    have G1 := Lib.hid (grown_of_below' h1)
    clear h1
    go_wp2_with fail
    refine (HF.out w1 G1.out).mono ?_
    rintro e' w2 ⟨rfl, g2⟩
    have G2 := Lib.hid (grown_trans G1.out (grown_trans g2 (World.grownBy_alloc w2 (.cells #[.int .i64 0, .int .i64 0] 44) none)))
    clear g2
    go_wp2_with fail
    go_ret
    exact ⟨rfl, G2.out⟩
theorem nm_clear (h : NoMap w v) (i k : Int) : Calls Try.prog 28 #[v, .int .i64 i, .int .i64 k] w fun e w' => e = .returned (.int .i64 0) ∧ w.grownBy w' none := by
  have HF := Lib.hid (nm_find h i)
  clear h
  go_enter Try.func28, Try.ntmps28
  go_wp2_with fail
  refine HF.out.mono ?_
  rintro e' w1 ⟨rfl, g1⟩
  have HG1 := Lib.hid (grown_trans g1 (World.grownBy_alloc w1 (.cells #[.int .i64 0, .int .i64 0] 44) none))
  clear g1
  go_wp2_with fail
  go_ret
  exact ⟨rfl, HG1.out⟩
theorem nm_close (h : NoMap w v) : Calls Try.prog 20 #[v] w fun e w' => e = .returned (.int .i64 0) ∧ w.grownBy w' none := by
  have HM := Lib.hid h.now
  clear h
  go_enter Try.func20, Try.ntmps20
  go_wp2_with fail
  refine HM.out.mono ?_
  rintro e w1 ⟨rfl, e1⟩
  subst w1
  go_wp2_with fail
  go_ret
  exact ⟨rfl, grown_refl _ _⟩
theorem nm_all (h : NoMap w v) : Calls Try.prog 17 #[v] w fun e w' => e = .returned (.func (.func 40) #[] #[]) ∧ w.grownBy w' none := by
  have HM := Lib.hid h.now
  clear h
  go_enter Try.func17, Try.ntmps17
  go_wp2_with fail
  refine HM.out.mono ?_
  rintro e w1 ⟨rfl, e1⟩
  subst w1
  go_wp2_with fail
  go_ret
  exact ⟨rfl, grown_refl _ _⟩
theorem nm_tables (h : NoMap w v) : Calls Try.prog 18 #[v] w fun e w' => e = .returned (.int .i64 0) ∧ w.grownBy w' none :=
  (no_tables v h.now).mono fun e w' ⟨e1, e2⟩ => ⟨e1, by subst e2; exact grown_refl _ _⟩
theorem nm_root (h : NoMap w v) : Calls Try.prog 21 #[v] w fun e w' => e = .returned (.int .i64 (-1)) ∧ w.grownBy w' none :=
  (no_root v h.now).mono fun e w' ⟨e1, e2⟩ => ⟨e1, by subst e2; exact grown_refl _ _⟩

/-! ### New -/
theorem nil_take (c o i : Int) : Calls Try.prog 58 #[.pointer none, .int .i64 c, .int .i64 o, .int .i64 i] w fun e w' => e = .returned (.tuple #[.int .i64 0, .int .i64 1]) ∧ w.grownBy w' none := by
  have HM := Lib.hid (nil_made w)
  go_enter Try.func58, Try.ntmps58
  go_wp2_with fail
  refine HM.out.mono ?_
  rintro e w2 ⟨rfl, e2⟩
  subst w2
  go_wp2_with fail
  go_ret2
  exact ⟨rfl, grown_refl _ _⟩
theorem new_nil_mem (pv : Value) (a : Int) : Calls Try.prog 12 #[.pointer none, pv, .int .i64 a] w fun e w' => e = .returned (.tuple #[.pointer none, .int .i64 1]) ∧ w.grownBy w' none := by
  have HF := Lib.hid (frames_bare none w (fun a e => by cases e))
  go_enter Try.func12, Try.ntmps12
  go_wp2_with fail
  refine HF.out.mono ?_
  rintro e w2 ⟨rfl, e2⟩
  subst w2
  go_wp2_with fail
  go_ret2
  exact ⟨rfl, grown_refl _ _⟩
theorem nil_table {x m : Nat} {a r : Int} (h : w.heap[x]? = some (.cells #[.pointer (some ⟨m, 0, none⟩), .pointer none, .int .i64 a, .int .i64 r] 62)) (l : Int) :
    Calls Try.prog 31 #[.pointer (some ⟨x, 0, none⟩), .int .i64 l] w fun e' w' => e' = .returned (.tuple #[.int .i64 0, .int .i64 1]) ∧ w.grownBy w' none := by
  have hD := ((grown_drew1 w).block x (Array.getElem?_eq_some_iff.1 h).1 (by simp)).trans h
  have HT := Lib.hid (nil_take (w := w.drew) 1 a l)
  have hc : w.drew.cell? ⟨x, 1, none⟩ = some (.pointer none) ∧ w.drew.cell? ⟨x, 2, none⟩ = some (.int .i64 a) := ⟨by rw [cell_of_row _ _ _ _ _ _ hD]; rfl, by rw [cell_of_row _ _ _ _ _ _ hD]; rfl⟩
  have HD := Lib.hid hD
  clear h hD
  go_enter Try.func31, Try.ntmps31
  go_wp2_with fail
  go_region_held3 (fun W => W.cell? ⟨x, 1, none⟩ = some (.pointer none) ∧ W.cell? ⟨x, 2, none⟩ = some (.int .i64 a)) (with_reducible exact hc)
    (first
      | (go_at_call 58; (with_reducible refine (HT.out.mono ?_)); rintro e' w2 ⟨rfl, g2⟩; have hD2 := (g2.block x (Array.getElem?_eq_some_iff.1 HD.out).1 (by simp)).trans HD.out; replace hc : w2.cell? ⟨x, 1, none⟩ = some (.pointer none) ∧ w2.cell? ⟨x, 2, none⟩ = some (.int .i64 a) := ⟨by rw [cell_of_row _ _ _ _ _ _ hD2]; rfl, by rw [cell_of_row _ _ _ _ _ _ hD2]; rfl⟩; have HG := Lib.hid (grown_trans (grown_drew1 w) g2); clear g2 hD2))
  all_goals
    go_wp2_with fail
    go_ret2
    exact ⟨rfl, HG.out⟩
theorem new_nil_pool {w0 : World} {m d n : Nat} {M : List UInt8} (h : St w0 w m d n M) (a : Int) : Calls Try.prog 12 #[.pointer (some ⟨m, 0, none⟩), .pointer none, .int .i64 a] w fun e w' => e = .returned (.tuple #[.pointer none, .int .i64 1]) ∧ w.grownBy w' none := by
  have hpos := h.mem.pos
  have b0 : ((n : Int) == 0) = false := by simp; omega
  have HF := Lib.hid (framesE h)
  have ga := World.grownBy_alloc w (.cells #[.pointer (some ⟨m, 0, none⟩), .pointer none, .int .i64 a, .int .i64 0] 62) none
  have HT := Lib.hid (nil_table (w := w.alloc (.cells #[.pointer (some ⟨m, 0, none⟩), .pointer none, .int .i64 a, .int .i64 0] 62)) (heap_alloc_new w _) 0)
  have HG := Lib.hid ga
  clear h ga hpos
  go_enter Try.func12, Try.ntmps12
  go_wp2_with fail
  refine HF.out.mono ?_
  rintro e w2 ⟨rfl, e2⟩
  subst w2
  go_wp2_with fail
  refine HT.out.mono ?_
  rintro e w3 ⟨rfl, g3⟩
  have HG3 := Lib.hid (grown_trans HG.out g3)
  clear g3
  go_wp2_with fail
  go_ret2
  exact ⟨rfl, HG3.out⟩
end

/-! ### the iterator of no pages -/
theorem none_stops (nd : Nat) (hn : 1 ≤ nd) (w : World) : SeqStopsK Fence.wide nd Try.prog 40 #[] (fun x : Int × Value => #[Value.int .i64 x.1, x.2]) (fun _ _ => True) (fun ys => ys = []) (fun pre => pre <+: []) 0 w := by
  intro l J Jx W hW _ _ hY h0
  have H0 := Lib.hid h0
  clear h0 hY
  refine callsIn_of_wp Try.func40 rfl trivial ?_ rfl
  refine wpIn_skip ?_
  refine bodyPost_end (results_none rfl _ _ _) rfl ?_
  exact ⟨⟨_, rfl⟩, .inl ⟨[], rfl, H0.out⟩⟩
end Go.Proofs.Ytlieommbomjdaaa

namespace Go.Proofs.Ytlieommbomjdaaa
open Go.ChangeShapes Go.WideShapes Go.ChangeAt Go.RowKit Go.Deep
set_option linter.unusedVariables false
attribute [local go_sem] Oper.semAt_some

/-- What stays as it is: the act's box, the answer's, the space of zeros. -/
structure NS (w wr : World) (b r z : Nat) (A : A7) (Ds : List Nat) : Prop where
  g : w.grownBy wr none
  box : A7B wr b A
  res : wr.heap[r]? = some (.cells #[.bool false] 4)
  zp : ZpB wr z
  rge : w.heap.size ≤ r
  ds : ∀ D, D ∈ Ds → wr.heap[D]? = some (.deferred (some [])) ∧ w.heap.size ≤ D
theorem NS.own {w wr w2 : World} {b r z : Nat} {A : A7} {Ds : List Nat} {base : Nat} {row : Option Nat} (h : NS w wr b r z A Ds) (hB : ∀ k, k ∈ b :: r :: z :: Ds → k < base) (h0 : w.heap.size ≤ base) (g : wr.grownBy w2 row) (hr : ∀ k, row = some k → base ≤ k) : NS w w2 b r z A Ds := by
  have keep : ∀ k, k ∈ b :: r :: z :: Ds → ∀ o, wr.heap[k]? = some o → w2.heap[k]? = some o := fun k hk o ho => (g.block k (Array.getElem?_eq_some_iff.1 ho).1 fun e => by have := hr k e.symm; have := hB k hk; omega).trans ho
  exact ⟨⟨g.os.trans h.g.os, g.tape.trans h.g.tape, g.output.trans h.g.output, Nat.le_trans h.g.size g.size, fun k hk hx => (g.block k (Nat.lt_of_lt_of_le hk h.g.size) (fun e => by have := hr k e.symm; omega)).trans (h.g.block k hk hx)⟩, keep b (by simp) _ h.box, keep r (by simp) _ h.res, keep z (by simp) _ h.zp, h.rge, fun D hD => ⟨keep D (by simp [hD]) _ (h.ds D hD).1, (h.ds D hD).2⟩⟩
theorem NS.lt {w wr : World} {b r z : Nat} {A : A7} {Ds : List Nat} (h : NS w wr b r z A Ds) : ∀ k, k ∈ b :: r :: z :: Ds → k < wr.heap.size := by
  intro k hk
  simp only [List.mem_cons] at hk
  rcases hk with rfl | rfl | rfl | hk
  · exact h.box.lt
  · exact (Array.getElem?_eq_some_iff.1 h.res).1
  · exact (Array.getElem?_eq_some_iff.1 h.zp).1
  · exact (Array.getElem?_eq_some_iff.1 (h.ds k hk).1).1
theorem NS.grow {w wr w2 : World} {b r z : Nat} {A : A7} {Ds : List Nat} (h : NS w wr b r z A Ds) (g : wr.grownBy w2 none) : NS w w2 b r z A Ds :=
  h.own h.lt h.g.size g (fun k e => by cases e)
theorem NS.more {w wr : World} {b r z : Nat} {A : A7} {Ds : List Nat} {D : Nat} (h : NS w wr b r z A Ds) (hD : wr.heap[D]? = some (.deferred (some []))) (h0 : w.heap.size ≤ D) : NS w wr b r z A (D :: Ds) :=
  ⟨h.g, h.box, h.res, h.zp, h.rge, fun k hk => by rcases List.mem_cons.1 hk with rfl | hk; exact ⟨hD, h0⟩; exact h.ds k hk⟩
theorem eql_seq_nil7 (w : World) (fn : Fn) (a b : Array Value) : (binOp .eql 38 (.func fn a b) .nilFunc).run Try.prog w = .ok (.bool false) w := by
  have h1 : ∀ d : Nat, (Op.equalIn (d + 1) 38 (.func fn a b) .nilFunc).run Try.prog w = .ok false w := fun d => by
    simp [Op.equalIn, run_underlying Try.underlying38]
  simp only [binOp]
  simp [Op.equal, Op.maxDepth, h1 9999]
theorem results_cell_bool7 {fn : Func} {p : Tmp} (h : fn.results = #[.cell p 4]) (tmps : Array Value) (w : World) (g : Nat) (v : Value) (hp : tmps.getD p undef = .pointer (some ⟨g, 0, none⟩)) (hc : w.cell? ⟨g, 0, none⟩ = some v) :
    (results fn tmps).run Try.prog w = .ok v w := by
  have hp' : tmps[p]?.getD undef = .pointer (some ⟨g, 0, none⟩) := by simpa using hp
  have hagg : (isAgg 4).run Try.prog w = .ok false w := by
    unfold isAgg
    rw [Sem.run_bind, run_underlying Try.underlying4 w]
    rfl
  simp [results, h, hp', asAddr, loadVar, hagg, hc, go_sem]
theorem NS.cells {w wr : World} {b r z : Nat} {A : A7} {Ds : List Nat} (h : NS w wr b r z A Ds) : wr.cell? ⟨b, 2, none⟩ = some (.int .i64 A.v) ∧ wr.cell? ⟨b, 3, none⟩ = some (.int .i64 A.a) ∧ wr.cell? ⟨b, 4, none⟩ = some (.int .i64 A.b) := ⟨h.box.at.2.2.1, h.box.at.2.2.2.1, h.box.at.2.2.2.2⟩
theorem NS.nil {w wr : World} {b r z : Nat} {A : A7} {Ds : List Nat} (h : NS w wr b r z A Ds) : NoMap wr (.pointer none) := NoMap.nil wr
theorem NS.zero {w wr : World} {b r z : Nat} {A : A7} {Ds : List Nat} (h : NS w wr b r z A Ds) : NoMap wr (.pointer (some ⟨z, 0, none⟩)) := NoMap.zero h.zp

set_option maxRecDepth 100000 in
set_option maxHeartbeats 2000000 in
theorem none_walk (w : World) (A : A7) (hA : A.Ok) :
    Calls Try.prog 6 #[.agg #[.int .i64 A.k, .int .i64 A.s, .int .i64 A.v, .int .i64 A.a, .int .i64 A.b]] w fun e w' => e = .returned (.bool true) ∧ w.grownBy w' none := by
  have HL := Lib.hid (lives7 pmOk)
  have hsq := eql_seq_nil7
  have i0 : ∀ (W : World) (q : Option Addr), (Instr.index 63 (.agg #[.pointer none, .pointer q]) (.int .i64 0)).run Try.prog W = .ok (.pointer none) W := fun _ _ => by kernel_rfl
  have i1 : ∀ (W : World) (q : Option Addr), (Instr.index 63 (.agg #[.pointer none, .pointer q]) (.int .i64 1)).run Try.prog W = .ok (.pointer q) W := fun _ _ => by kernel_rfl
  have hs : NS w (((w.alloc (.cells #[.int .i64 A.k, .int .i64 A.s, .int .i64 A.v, .int .i64 A.a, .int .i64 A.b] 60 (0, 0))).alloc (.cells #[.bool false] 4)).alloc (.cells #[.pointer none, .pointer none, .int .i64 0, .int .i64 0] 62 (0, 0))) w.heap.size (w.heap.size + 1) (w.heap.size + 1 + 1) A [] := by
    have g1 := World.grownBy_alloc w (.cells #[.int .i64 A.k, .int .i64 A.s, .int .i64 A.v, .int .i64 A.a, .int .i64 A.b] 60 (0, 0)) none
    have g2 := World.grownBy_alloc (w.alloc (.cells #[.int .i64 A.k, .int .i64 A.s, .int .i64 A.v, .int .i64 A.a, .int .i64 A.b] 60 (0, 0))) (.cells #[.bool false] 4) none
    have g3 := World.grownBy_alloc ((w.alloc (.cells #[.int .i64 A.k, .int .i64 A.s, .int .i64 A.v, .int .i64 A.a, .int .i64 A.b] 60 (0, 0))).alloc (.cells #[.bool false] 4)) (.cells #[.pointer none, .pointer none, .int .i64 0, .int .i64 0] 62 (0, 0)) none
    have e1 : w.heap.size + 1 = (w.alloc (.cells #[.int .i64 A.k, .int .i64 A.s, .int .i64 A.v, .int .i64 A.a, .int .i64 A.b] 60 (0, 0))).heap.size := by simp
    have e2 : w.heap.size + 1 + 1 = ((w.alloc (.cells #[.int .i64 A.k, .int .i64 A.s, .int .i64 A.v, .int .i64 A.a, .int .i64 A.b] 60 (0, 0))).alloc (.cells #[.bool false] 4)).heap.size := by simp
    have hb : A7B _ w.heap.size A := heap_alloc_new w _
    refine ⟨grown_trans g1 (grown_trans g2 g3), hb.grow (grown_trans g2 g3), ?_, ?_, by omega, fun D hD => (List.not_mem_nil hD).elim⟩
    · rw [e1]
      exact (g3.block _ (by simp) (by simp)).trans (heap_alloc_new _ _)
    · rw [e2]
      exact heap_alloc_new _ _
  have HS := Lib.hid hs
  clear hA hs
  refine (callsIn_wide (n := 9)).1 ?_
  refine callsIn_of_wp_marks Try.func6 rfl trivial ?_ rfl
  simp only [Try.ntmps6, List.size_toArray, List.length_cons, List.length_nil, Nat.reduceAdd, Nat.reduceSub, Array.replicate_succ, Array.replicate_zero, List.push_toArray, List.append_toArray, List.nil_append, List.cons_append]
  refine wpIn_wide.2 ?_
  go_wp2_with fail
  generalize ((w.alloc (.cells #[.int .i64 A.k, .int .i64 A.s, .int .i64 A.v, .int .i64 A.a, .int .i64 A.b] 60 (0, 0))).alloc (.cells #[.bool false] 4)).alloc (.cells #[.pointer none, .pointer none, .int .i64 0, .int .i64 0] 62 (0, 0)) = w0 at *
  generalize w.heap.size + 1 + 1 = z at *
  generalize w.heap.size + 1 = r at *
  generalize w.heap.size = b at *
  obtain ⟨c2, c3, c4⟩ := HS.out.cells
  refine wp_loop_rounds 3 ?_
  rw [rounds_succ]
  go_wp2_with fail
  refine (nm_find HS.out.nil A.v).mono ?_
  rintro e wa0 ⟨rfl, g⟩
  replace g := grown_trans g (World.grownBy_alloc wa0 (.cells #[.int .i64 0, .int .i64 0] 44 (0, 0)) none)
  replace HS := Lib.hid (HS.out.grow g)
  clear g c2 c3 c4
  obtain ⟨c2, c3, c4⟩ := HS.out.cells
  go_wp2_with fail
  refine (nm_enter HS.out.nil A.v A.a A.b).mono ?_
  rintro e wa1 ⟨rfl, g⟩
  replace HS := Lib.hid (HS.out.grow g)
  clear g c2 c3 c4
  obtain ⟨c2, c3, c4⟩ := HS.out.cells
  go_wp2_with fail
  refine (nm_remove HS.out.nil A.v).mono ?_
  rintro e wa2 ⟨rfl, g⟩
  replace HS := Lib.hid (HS.out.grow g)
  clear g c2 c3 c4
  obtain ⟨c2, c3, c4⟩ := HS.out.cells
  go_wp2_with fail
  refine (nm_protect HS.out.nil A.v A.b).mono ?_
  rintro e wa3 ⟨rfl, g⟩
  replace HS := Lib.hid (HS.out.grow g)
  clear g c2 c3 c4
  obtain ⟨c2, c3, c4⟩ := HS.out.cells
  go_wp2_with fail
  refine (nm_clear HS.out.nil A.v A.b).mono ?_
  rintro e wa4 ⟨rfl, g⟩
  replace HS := Lib.hid (HS.out.grow g)
  clear g c2 c3 c4
  obtain ⟨c2, c3, c4⟩ := HS.out.cells
  go_wp2_with fail
  refine (nm_tables HS.out.nil ).mono ?_
  rintro e wa5 ⟨rfl, g⟩
  replace HS := Lib.hid (HS.out.grow g)
  clear g c2 c3 c4
  obtain ⟨c2, c3, c4⟩ := HS.out.cells
  go_wp2_with fail
  refine (nm_close HS.out.nil ).mono ?_
  rintro e wa6 ⟨rfl, g⟩
  replace HS := Lib.hid (HS.out.grow g)
  clear g c2 c3 c4
  obtain ⟨c2, c3, c4⟩ := HS.out.cells
  go_wp2_with fail
  refine (nm_root HS.out.nil ).mono ?_
  rintro e wa7 ⟨rfl, g⟩
  replace HS := Lib.hid (HS.out.grow g)
  clear g c2 c3 c4
  obtain ⟨c2, c3, c4⟩ := HS.out.cells
  go_wp2_with fail
  refine (nm_all HS.out.nil ).mono ?_
  rintro e wa8 ⟨rfl, g⟩
  replace HS := Lib.hid (HS.out.grow g)
  clear g c2 c3 c4
  obtain ⟨c2, c3, c4⟩ := HS.out.cells
  go_wp2_with fail
  refine (wpIn_wide (n := 9)).1 ?_
  refine wpIn_rangeFunc_ownH rfl (by omega) (gf := 40) (lb := #[]) rfl trivial (enters_of Try.func40 (by kernel_rfl) rfl)
    (none_stops 8 (by omega) _) (fun _ _ => trivial) (fun _ _ _ _ _ _ _ _ => trivial) (Below.refl _ _) (fun _ => rfl)
    (fun (pre : List (Int × Value)) W => NS w W b r z A []) (fun _ _ _ => False)
    (fun pre P Q row hs hg hr => NS.own hs HS.out.lt HS.out.g.size hg (fun k e => (hr k e).1)) (fun _ _ _ _ _ hs _ _ => hs) HS.out
    (fun _ _ _ => True) (fun _ _ _ _ _ _ _ _ _ => trivial) ?assign ?body ?done ?stop
  case assign =>
    intro lp pre xx Wd K hI hK
    first
      | exact wpIn_skip (hK _ _ (KeepsFrom.refl _ _) trivial hI trivial)
      | (gi_wp2; exact hK _ _ (KeepsFrom.refl _ _) trivial hI trivial)
  case body =>
    rintro lp pre xx a' Wd hl he hI hx hlt
    simp at hlt
  case stop =>
    rintro D c pre Wd hD hp hx hK
    cases hx
  case done =>
  rintro Da ys wad hD - hI hK
  have hx : True := trivial
  have hS2 := hI.more hK (Nat.le_trans HS.out.g.size hD)
  replace HS := Lib.hid hS2
  clear hD hI hK hS2 c2 c3 c4
  obtain ⟨c2, c3, c4⟩ := HS.out.cells
  go_wp2_with fail
  rw [rounds_succ]
  go_wp2_with fail
  refine (nm_find HS.out.zero A.v).mono ?_
  rintro e wb0 ⟨rfl, g⟩
  replace g := grown_trans g (World.grownBy_alloc wb0 (.cells #[.int .i64 0, .int .i64 0] 44 (0, 0)) none)
  replace HS := Lib.hid (HS.out.grow g)
  clear g c2 c3 c4
  obtain ⟨c2, c3, c4⟩ := HS.out.cells
  go_wp2_with fail
  refine (nm_enter HS.out.zero A.v A.a A.b).mono ?_
  rintro e wb1 ⟨rfl, g⟩
  replace HS := Lib.hid (HS.out.grow g)
  clear g c2 c3 c4
  obtain ⟨c2, c3, c4⟩ := HS.out.cells
  go_wp2_with fail
  refine (nm_remove HS.out.zero A.v).mono ?_
  rintro e wb2 ⟨rfl, g⟩
  replace HS := Lib.hid (HS.out.grow g)
  clear g c2 c3 c4
  obtain ⟨c2, c3, c4⟩ := HS.out.cells
  go_wp2_with fail
  refine (nm_protect HS.out.zero A.v A.b).mono ?_
  rintro e wb3 ⟨rfl, g⟩
  replace HS := Lib.hid (HS.out.grow g)
  clear g c2 c3 c4
  obtain ⟨c2, c3, c4⟩ := HS.out.cells
  go_wp2_with fail
  refine (nm_clear HS.out.zero A.v A.b).mono ?_
  rintro e wb4 ⟨rfl, g⟩
  replace HS := Lib.hid (HS.out.grow g)
  clear g c2 c3 c4
  obtain ⟨c2, c3, c4⟩ := HS.out.cells
  go_wp2_with fail
  refine (nm_tables HS.out.zero ).mono ?_
  rintro e wb5 ⟨rfl, g⟩
  replace HS := Lib.hid (HS.out.grow g)
  clear g c2 c3 c4
  obtain ⟨c2, c3, c4⟩ := HS.out.cells
  go_wp2_with fail
  refine (nm_close HS.out.zero ).mono ?_
  rintro e wb6 ⟨rfl, g⟩
  replace HS := Lib.hid (HS.out.grow g)
  clear g c2 c3 c4
  obtain ⟨c2, c3, c4⟩ := HS.out.cells
  go_wp2_with fail
  refine (nm_root HS.out.zero ).mono ?_
  rintro e wb7 ⟨rfl, g⟩
  replace HS := Lib.hid (HS.out.grow g)
  clear g c2 c3 c4
  obtain ⟨c2, c3, c4⟩ := HS.out.cells
  go_wp2_with fail
  refine (nm_all HS.out.zero ).mono ?_
  rintro e wb8 ⟨rfl, g⟩
  replace HS := Lib.hid (HS.out.grow g)
  clear g c2 c3 c4
  obtain ⟨c2, c3, c4⟩ := HS.out.cells
  go_wp2_with fail
  refine (wpIn_wide (n := 9)).1 ?_
  refine wpIn_rangeFunc_ownH rfl (by omega) (gf := 40) (lb := #[]) rfl trivial (enters_of Try.func40 (by kernel_rfl) rfl)
    (none_stops 8 (by omega) _) (fun _ _ => trivial) (fun _ _ _ _ _ _ _ _ => trivial) (Below.refl _ _) (fun _ => rfl)
    (fun (pre : List (Int × Value)) W => NS w W b r z A [Da]) (fun _ _ _ => False)
    (fun pre P Q row hs hg hr => NS.own hs HS.out.lt HS.out.g.size hg (fun k e => (hr k e).1)) (fun _ _ _ _ _ hs _ _ => hs) HS.out
    (fun _ _ _ => True) (fun _ _ _ _ _ _ _ _ _ => trivial) ?assign ?body ?done ?stop
  case assign =>
    intro lp pre xx Wd K hI hK
    first
      | exact wpIn_skip (hK _ _ (KeepsFrom.refl _ _) trivial hI trivial)
      | (gi_wp2; exact hK _ _ (KeepsFrom.refl _ _) trivial hI trivial)
  case body =>
    rintro lp pre xx a' Wd hl he hI hx hlt
    simp at hlt
  case stop =>
    rintro D c pre Wd hD hp hx hK
    cases hx
  case done =>
  rintro Db ys wbd hD - hI hK
  have HD := Lib.hid (show Da ≠ Db by have := HS.out.lt Da (by simp); omega)
  have hS2 := hI.more hK (Nat.le_trans HS.out.g.size hD)
  replace HS := Lib.hid hS2
  clear hD hI hK hS2 c2 c3 c4
  obtain ⟨c2, c3, c4⟩ := HS.out.cells
  go_wp2_with fail
  rw [rounds_succ]
  go_wp2_with fail
  refine (fr_new_ok 1 0 _ (by decide) (by decide) (by decide) (by decide)).mono ?_
  rintro e wp ⟨pr, pg, pc, rfl, -, g, -⟩
  replace HS := Lib.hid (HS.out.grow g)
  clear g c2 c3 c4
  go_wp2_with fail
  refine (new_nil_mem _ 1).mono ?_
  rintro e wq ⟨rfl, g⟩
  replace HS := Lib.hid (HS.out.grow g)
  clear g
  go_wp2_with fail
  refine (newE wq (Below.refl _ wq) 1 1 rfl (by decide) (by decide)).mono ?_
  rintro e wr ⟨rfl, h1, g⟩
  replace HS := Lib.hid (HS.out.grow g)
  have HNP := Lib.hid (new_nil_pool h1 1)
  clear g h1
  go_wp2_with fail
  refine HNP.out.mono ?_
  rintro e wt ⟨rfl, g⟩
  replace HS := Lib.hid (HS.out.grow g)
  clear g HNP
  go_wp2_with fail
  refine (HL.out _).mono ?_
  rintro e wu ⟨rfl, g⟩
  replace HS := Lib.hid (HS.out.grow g)
  clear g
  have cr : wu.cell? ⟨r, 0, none⟩ = some (.bool false) := by rw [cell_of_row _ _ _ _ _ _ HS.out.res]; rfl
  have cf : wu.frozen? ⟨r, 0, none⟩ = false := frozen_of_row wu r 0 _ _ HS.out.res
  go_wp2_with fail
  have hA := (HS.out.ds Da (by simp))
  have hB := (HS.out.ds Db (by simp))
  have hrA : Da ≠ r := fun e => by subst e; have := hA.1.symm.trans HS.out.res; cases this
  have hrB : Db ≠ r := fun e => by subst e; have := hB.1.symm.trans HS.out.res; cases this
  have kB : (wu.setCell ⟨r, 0, none⟩ (.bool true)).heap[Db]? = some (.deferred (some [])) := (heap_setCell_other _ _ _ _ hrB).trans hB.1
  have kA : (wu.setCell ⟨r, 0, none⟩ (.bool true)).heap[Da]? = some (.deferred (some [])) := (heap_setCell_other _ _ _ _ hrA).trans hA.1
  have hAB : Da ≠ Db := HD.out
  refine ⟨by simp, .inl ⟨_, _, rfl, run_takeDeferred kB, ?_⟩⟩
  have kA2 : ((wu.setCell ⟨r, 0, none⟩ (.bool true)).putObj Db (.deferred none)).heap[Da]? = some (.deferred (some [])) := (World.putObj_heap_other hAB).trans kA
  refine ⟨by simp, .inl ⟨_, _, rfl, run_takeDeferred kA2, ?_⟩⟩
  have hr0 : (wu.setCell ⟨r, 0, none⟩ (.bool true)).heap[r]? = some (.cells #[.bool true] 4) := heap_setCell_same wu r 0 _ _ _ HS.out.res
  have hr1 : (((wu.setCell ⟨r, 0, none⟩ (.bool true)).putObj Db (.deferred none)).putObj Da (.deferred none)).heap[r]? = some (.cells #[.bool true] 4) := (World.putObj_heap_other (fun e => hrA e.symm)).trans ((World.putObj_heap_other (fun e => hrB e.symm)).trans hr0)
  refine ⟨_, results_cell_bool7 rfl _ _ r (.bool true) rfl (by rw [cell_of_row _ _ _ _ _ _ hr1]; rfl), rfl, ?_⟩
  exact grown_at (grown_at (grown_at HS.out.g (grown_set wu r 0 _) HS.out.rge) (grownBy_putObj' _ Db (.deferred none)) hB.2) (grownBy_putObj' _ Da (.deferred none)) hA.2
end Go.Proofs.Ytlieommbomjdaaa
