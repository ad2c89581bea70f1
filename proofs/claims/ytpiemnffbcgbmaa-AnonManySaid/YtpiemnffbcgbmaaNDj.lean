/- Package anon (landed): a pool that no call made; all that is shown of the package. -/
import Derived.Test.YtpiemnffbcgbmaaNDi
namespace Go.Proofs.Ytpiemnffbcgbmaa
open Go.ChangeShapes Go.WideShapes Go.ChangeAt Go.RowKit Go.Deep Go.Maps Go.Sort Go.Shelf
set_option linter.unusedVariables false

/-- No pool: nil, or a zero value. -/
def NS12 (w : World) (v : Value) : Prop := v = .pointer none ∨ ∃ p, v = .pointer (some ⟨p, 0, none⟩) ∧ w.heap[p]? = some (.cells #[.map none, .slice none 0 0] 61 (0, 0))
theorem neq_map_none (w : World) : (binOp .neq 58 (.map none) (.map none)).run Try.prog w = .ok (.bool false) w := by kernel_rfl
section
variable {w w' : World} {v : Value}
theorem NS12.kept (h : NS12 w v) (g : w.grownBy w' none) : NS12 w' v := by
  rcases h with rfl | ⟨p, rfl, hp⟩
  · exact .inl rfl
  · exact .inr ⟨p, rfl, (g.block p (Array.getElem?_eq_some_iff.1 hp).1 (by simp)).trans hp⟩
theorem NS12.form (h : NS12 w v) : ∃ a, v = .pointer a := by
  rcases h with rfl | ⟨p, rfl, _⟩
  · exact ⟨_, rfl⟩
  · exact ⟨_, rfl⟩
theorem ns_made (h : NS12 w v) : Calls Try.prog 27 #[v] w fun e w' => e = .returned (.bool false) ∧ w' = w := by
  rcases h with rfl | ⟨p, rfl, hp⟩
  · go_enter Try.func27, Try.ntmps27
    go_wp2_with fail
    go_ret
    exact ⟨rfl, rfl⟩
  · have c0 : w.cell? ⟨p, 0, none⟩ = some (.map none) := by rw [cell_of_row _ _ _ _ _ _ hp]; rfl
    have hq := neq_pool_nil
    have hq2 := neq_map_none
    clear hp
    go_enter Try.func27, Try.ntmps27
    go_wp2_with fail
    go_ret
    exact ⟨rfl, rfl⟩
theorem ns_all (h : NS12 w v) : Calls Try.prog 32 #[v] w fun e w' => e = .returned (.map none) ∧ w' = w := by
  rcases h with rfl | ⟨p, rfl, hp⟩
  · go_enter Try.func32, Try.ntmps32
    go_wp2_with fail
    go_ret
    exact ⟨rfl, rfl⟩
  · have c0 : w.cell? ⟨p, 0, none⟩ = some (.map none) := by rw [cell_of_row _ _ _ _ _ _ hp]; rfl
    have hq := eql_pool_nil
    clear hp
    go_enter Try.func32, Try.ntmps32
    go_wp2_with fail
    go_ret
    exact ⟨rfl, rfl⟩
theorem ns_len (h : NS12 w v) : Calls Try.prog 25 #[v] w fun e w' => e = .returned (.int .i64 0) ∧ w.grownBy w' none := by
  have HA := Lib.hid (ns_all h)
  clear h
  go_enter Try.func25, Try.ntmps25
  go_wp2_with fail
  refine HA.out.mono ?_
  rintro e w2 ⟨rfl, e2⟩
  subst w2
  go_wp2_with fail
  go_ret
  exact ⟨rfl, grown_refl _ _⟩
theorem ns_make (h : NS12 w v) (f : Int) : Calls Try.prog 12 #[v, .int .i64 f] w fun e w' => e = .returned (.tuple #[.int .i64 0, .int .i64 1]) ∧ w.grownBy w' none := by
  have HM := Lib.hid (ns_made h)
  clear h
  go_enter Try.func12, Try.ntmps12
  go_wp2_with fail
  refine HM.out.mono ?_
  rintro e w2 ⟨rfl, e2⟩
  subst w2
  go_wp2_with fail
  go_ret2
  exact ⟨rfl, grown_refl _ _⟩
theorem ns_change (gf : Nat) (cap : Array Value) (h : NS12 w v) (id : Int) : Calls Try.prog 29 #[v, .int .i64 id, .func (.func gf) #[] cap] w fun e w' => e = .returned (.int .i64 1) ∧ w' = w := by
  have HM := Lib.hid (ns_made h)
  clear h
  go_enter Try.func29, Try.ntmps29
  go_wp2_with fail
  refine HM.out.mono ?_
  rintro e w2 ⟨rfl, e2⟩
  subst w2
  go_wp2_with fail
  go_ret
  exact ⟨rfl, rfl⟩
theorem ns_put (h : NS12 w v) (id f s : Int) : Calls Try.prog 16 #[v, .int .i64 id, .int .i64 f, .int .i64 s] w fun e w' => e = .returned (.int .i64 1) ∧ w.grownBy w' none := by
  have ga := World.grownBy_alloc w (.cells #[.int .i64 f] 3 (0, 0)) none
  have gb := World.grownBy_alloc (w.alloc (.cells #[.int .i64 f] 3 (0, 0))) (.cells #[.int .i64 s] 3 (0, 0)) none
  have HG := Lib.hid (grown_trans ga gb)
  have HC := Lib.hid (ns_change 31 #[.pointer (some ⟨w.heap.size, 0, none⟩), .pointer (some ⟨w.heap.size + 1, 0, none⟩)] (h.kept HG.out) id)
  clear h ga gb
  go_enter Try.func16, Try.ntmps16
  go_wp2_with fail
  refine HC.out.mono ?_
  rintro e w2 ⟨rfl, e2⟩
  subst w2
  go_wp2_with fail
  go_ret
  exact ⟨rfl, HG.out⟩
set_option maxHeartbeats 1000000 in
theorem ns_ref (h : NS12 w v) (id b : Int) : Calls Try.prog 14 #[v, .int .i64 id, .int .i64 b] w fun e w' => e = .returned (.tuple #[.agg #[.int .i64 0, .int .i64 0, .int .i64 0], .int .i64 1]) ∧ w.grownBy w' none := by
  have hR := refB_made w b
  generalize hwC : ((w.alloc (.cells #[.int .i64 b] 3 (0, 0))).alloc (.cells #[.int .i64 0, .int .i64 0, .int .i64 0] 36 (0, 0))).alloc (.cells #[.int .i64 0, .int .i64 0, .int .i64 0] 36 (0, 0)) = wC at *
  have HC := Lib.hid (ns_change 30 #[.pointer (some ⟨w.heap.size, 0, none⟩), .pointer (some ⟨w.heap.size + 2, 0, none⟩)] (h.kept hR.grown) id)
  obtain ⟨n0, n1, n2⟩ := hR.now.at
  obtain ⟨r0, r1, r2⟩ := hR.res.at
  have z0 := hR.res.frozen 0
  have z1 := hR.res.frozen 1
  have z2 := hR.res.frozen 2
  have HR := Lib.hid hR
  unfold zeroN at n0 n1 n2 r0 r1 r2
  simp only at n0 n1 n2 r0 r1 r2
  clear h hR
  go_enter Try.func14, Try.ntmps14
  go_wp2_with fail
  refine HC.out.mono ?_
  rintro e w2 ⟨rfl, e2⟩
  subst w2
  go_wp2_with fail
  refine bodyPost_ret (results_pair_tmp rfl _ _ (w.heap.size + 1) _ #[.int .i64 0, .int .i64 0, .int .i64 0] (0, 0) _ rfl (heap_three _ _ _ _ _ _ HR.out.res) Try.underlying36 (by kernel_rfl) (by kernel_rfl)) rfl ?_
  exact ⟨rfl, grown_at HR.out.grown (grown_three _ _ _ _ _ _) (by omega)⟩
set_option maxHeartbeats 1000000 in
theorem ns_get (h : NS12 w v) (id : Int) (hid : okI id) : Calls Try.prog 18 #[v, .int .i64 id] w fun e w' => e = .returned (.tuple #[.agg #[.int .i64 0, .int .i64 0, .int .i64 0], .bool false]) ∧ w.grownBy w' none := by
  have ga := World.grownBy_alloc w (.cells #[.int .i64 0, .int .i64 0, .int .i64 0] 36 (0, 0)) none
  have hB := AB.new w 36 zeroN
  unfold zeroN at hB
  simp only at hB
  generalize hwA : w.alloc (.cells #[.int .i64 0, .int .i64 0, .int .i64 0] 36 (0, 0)) = wA at *
  have HAll := Lib.hid (ns_all (h.kept ga))
  obtain ⟨b0, b1, b2⟩ := hB.at
  have z0 := hB.frozen 0
  have z1 := hB.frozen 1
  have z2 := hB.frozen 2
  have HB := Lib.hid hB
  have HG := Lib.hid ga
  have hk : (Instr.lookup 58 (.map none) (.int .i64 id) true).run Try.prog wA = .ok (.tuple #[.pointer none, .bool false]) wA := Maps.look_nil (w := wA) true lawsN.keyed lawsN.und (lawsN.zero wA) (lawsN.key id (okW_of hid))
  clear ga hB h hid
  go_enter Try.func18, Try.ntmps18
  go_wp2_with fail
  refine HAll.out.mono ?_
  rintro e w2 ⟨rfl, e2⟩
  subst w2
  go_wp2_with fail
  refine bodyPost_ret (results_pair_tmp rfl _ _ w.heap.size _ #[.int .i64 0, .int .i64 0, .int .i64 0] (0, 0) _ rfl (heap_three _ _ _ _ _ _ HB.out) Try.underlying36 (by kernel_rfl) (by kernel_rfl)) rfl ?_
  exact ⟨rfl, grown_at HG.out (grown_three _ _ _ _ _ _) (Nat.le_refl _)⟩
set_option maxHeartbeats 1000000 in
theorem ns_sum (h : NS12 w v) : Calls Try.prog 23 #[v] w fun e w' => e = .returned (.int .i64 0) ∧ w.grownBy w' none := by
  have HA := Lib.hid (ns_all h)
  have hrg := run_range_nilMap (P := Try.prog) w 58 3 72 Try.underlying58
  have hnx : ∀ ty, (Instr.next (.pointer (some ⟨w.heap.size, 0, none⟩)) false ty).run Try.prog (w.alloc (.mapIter none 0 #[] 0)) = _ := fun ty => run_next_nilMap _ ty 0 0 #[]
  have HG := Lib.hid (World.grownBy_alloc w (.mapIter none 0 #[] 0) none)
  clear h
  go_enter Try.func23, Try.ntmps23
  go_wp2_with fail
  refine HA.out.mono ?_
  rintro e w2 ⟨rfl, e2⟩
  subst w2
  go_wp2_with fail
  refine wp_loop_rounds 1 ?_
  rw [rounds_succ]
  go_wp2_with fail
  go_ret
  exact ⟨rfl, HG.out⟩
set_option maxHeartbeats 1000000 in
theorem ns_ids (h : NS12 w v) : Calls Try.prog 21 #[v] w fun e w' => ∃ a c, e = .returned (.slice a 0 c) ∧ w.grownBy w' none := by
  have HA := Lib.hid (ns_all h)
  refine (callsIn_wide (n := 6)).1 ?_
  have hseq : SeqGives Fence.wide 2 Try.prog 39 #[.pointer (some ⟨w.heap.size, 0, none⟩)] encZ (fun ss : List Int => ss = []) 0 (w.alloc (.cells #[.map none] 58)) :=
    AnyZI.keys_gives_nil (ρ := Try.keysA_ren) { Try.keysA with } Fence.wide _ trivial rfl w.heap.size _ (by simp) (by simp)
  have cA : CallsIn Fence.wide 5 Try.prog 32 #[v] w fun e w' => e = .returned (.map none) ∧ w' = w := callsIn_wide.2 HA.out
  have cK : ∀ mb W, CallsIn Fence.wide 5 Try.prog 34 #[.map mb] W fun e w' => e = .returned (.func (.func 39) #[] #[.pointer (some ⟨W.heap.size, 0, none⟩)]) ∧ w' = W.alloc (.cells #[.map mb] 58) := fun mb W => AnyZI.keys_in Try.keysA Fence.wide 5 trivial rfl mb W
  have cS := AnyZI.sorted_in Try.sortedA Fence.wide 5 trivial trivial trivial trivial rfl (by omega) (sorts12 _) (enters_of Try.func38 (by kernel_rfl) rfl) 39 #[.pointer (some ⟨w.heap.size, 0, none⟩)] trivial (enters_of Try.func39 (by kernel_rfl) rfl) _ 0 (Nat.zero_le _) (by omega) _ hseq
  change CallsIn _ _ Try.prog 33 _ _ _ at cS
  have hfA : Fence.wide.fn 32 := trivial
  have hfK : Fence.wide.fn 34 := trivial
  have hfS : Fence.wide.fn 33 := trivial
  clear h HA hseq
  refine callsIn_of_wp Try.func21 rfl trivial ?_ rfl
  simp only [Try.ntmps21, List.size_toArray, List.length_cons, List.length_nil, Nat.reduceAdd, Nat.reduceSub, Array.replicate_succ, Array.replicate_zero, List.push_toArray, List.append_toArray, List.nil_append, List.cons_append]
  gi_wp2_with (first
    | (gi_at_call 32; refine cA.mono ?_; rintro e w' ⟨rfl, e2⟩; subst w')
    | (gi_at_call 34; refine (cK _ _).mono ?_; rintro e w' ⟨rfl, rfl⟩)
    | (gi_at_call 33; refine cS.mono ?_; rintro e w' ⟨v, ss, rfl, rfl, hrow, hnil, hb⟩; obtain rfl : v = .slice none 0 0 := hnil.2 rfl))
  go_ret
  have e1 : (w.alloc (.cells #[.map none] 58)).heap.size = w.heap.size + 1 := by simp
  have ga := World.grownBy_alloc w (.cells #[.map none] 58) none
  exact ⟨_, _, rfl, ⟨hb.os.trans ga.os, hb.tape.trans ga.tape, hb.output.trans ga.output, Nat.le_trans ga.size hb.size, fun k hk _ => (hb.block k (by omega)).trans (ga.block k hk (by simp))⟩⟩
end
theorem noneOk12 : NoneOk12 NS12 where
  form := NS12.form
  nil := fun w => .inl rfl
  kept := fun h g => h.kept g
  make := fun h => ns_make h
  ref := fun h => ns_ref h
  get := fun h => ns_get h
  put := fun h => ns_put h
  len := fun h => ns_len h
  ids := fun h => ns_ids h
  sum := fun h => ns_sum h
theorem pool12_zero (w : World) : NS12 (w.alloc (.cells #[.map none, .slice none 0 0] 61)) (.pointer (some ⟨w.heap.size, 0, none⟩)) := .inr ⟨_, rfl, heap_alloc_new w _⟩
theorem naOk : NaOk DN where
  toStOkN := dnOk
  new := fun n w hn => pa_new n w hn
  newNo := fun n w h => pa_new_no n w h
  make := fun ⟨M, hv, zs, N, h, e⟩ f hf => by subst e; exact pa_make h f hf
  ref := fun ⟨M, hv, zs, N, h, e⟩ id b hid hb => by subst e; exact pa_ref h id b hid
  get := fun ⟨M, hv, zs, N, h, e⟩ id hid => pa_get h id hid
  put := fun ⟨M, hv, zs, N, h, e⟩ id f s hid hf hs => by subst e; exact pa_put h id f s hid hf hs
  len := fun ⟨M, hv, zs, N, h, e⟩ => pa_len h
  ids := fun ⟨M, hv, zs, N, h, e⟩ => pa_ids h
  sum := fun ⟨M, hv, zs, N, h, e⟩ => pa_sum h
end Go.Proofs.Ytpiemnffbcgbmaa
