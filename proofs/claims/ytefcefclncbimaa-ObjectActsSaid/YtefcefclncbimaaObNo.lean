/- Package object (landed): a pool that no call made. -/
import Derived.Test.YtefcefclncbimaaObOk
namespace Go.Proofs.Ytefcefclncbimaa
open Go.ChangeShapes Go.WideShapes Go.ChangeAt Go.RowKit Go.Deep
set_option linter.unusedVariables false

theorem neq_map_nil0 (w : World) : (binOp .neq 65 (.map none) (.map none)).run Try.prog w = .ok (.bool false) w := by
  have h1 : ∀ d : Nat, (Op.equalIn (d + 1) 65 (.map none) (.map none)).run Try.prog w = .ok true w := fun d => by
    simp [Op.equalIn, run_underlying Try.underlying65]
  simp only [binOp]
  simp [Op.equal, Op.maxDepth, h1 9999]
/-- No pool: nil, or a zero value. -/
def NS14 (w : World) (v : Value) : Prop := v = .pointer none ∨ ∃ p, v = .pointer (some ⟨p, 0, none⟩) ∧ w.heap[p]? = some (.cells #[.int .i64 0, .map none, .map none] 68 (0, 0))
section
variable {w w' : World} {v : Value}
theorem NS14.kept (h : NS14 w v) (g : w.grownBy w' none) : NS14 w' v := by
  rcases h with rfl | ⟨p, rfl, hp⟩
  · exact .inl rfl
  · exact .inr ⟨p, rfl, (g.block p (Array.getElem?_eq_some_iff.1 hp).1 (by simp)).trans hp⟩
theorem NS14.form (h : NS14 w v) : ∃ a, v = .pointer a := by
  rcases h with rfl | ⟨p, rfl, _⟩
  · exact ⟨_, rfl⟩
  · exact ⟨_, rfl⟩
theorem nz_made (h : NS14 w v) : Calls Try.prog 31 #[v] w fun e w' => e = .returned (.bool false) ∧ w' = w := by
  rcases h with rfl | ⟨p, rfl, hp⟩
  · go_enter Try.func31, Try.ntmps31
    go_wp2_with fail
    go_ret
    exact ⟨rfl, rfl⟩
  · have c0 : w.cell? ⟨p, 1, none⟩ = some (.map none) := by rw [cell_of_row _ _ _ _ _ _ hp]; rfl
    have hq := neq_pool_nil
    have hq2 := neq_map_nil0
    clear hp
    go_enter Try.func31, Try.ntmps31
    go_wp2_with fail
    go_ret
    exact ⟨rfl, rfl⟩
theorem nz_find (h : NS14 w v) (id : Int) : Calls Try.prog 33 #[v, .int .i64 id] w fun e w' => e = .returned (.tuple #[.pointer none, .int .i64 1]) ∧ w' = w := by
  have HT := Lib.hid (nz_made h)
  clear h
  go_enter Try.func33, Try.ntmps33
  go_wp2_with fail
  refine HT.out.mono ?_
  rintro e w2 ⟨rfl, e2⟩
  subst w2
  go_wp2_with fail
  go_ret2
  exact ⟨rfl, rfl⟩
theorem nz_make (h : NS14 w v) (n : Int) : Calls Try.prog 11 #[v, .int .i64 n] w fun e w' => e = .returned (.tuple #[.int .i64 0, .int .i64 1]) ∧ w.grownBy w' none := by
  have HT := Lib.hid (nz_made h)
  clear h
  go_enter Try.func11, Try.ntmps11
  go_wp2_with fail
  refine HT.out.mono ?_
  rintro e w2 ⟨rfl, e2⟩
  subst w2
  go_wp2_with fail
  go_ret2
  exact ⟨rfl, grown_refl _ _⟩
theorem nz_ref (h : NS14 w v) (id b : Int) : Calls Try.prog 13 #[v, .int .i64 id, .int .i64 b] w fun e w' => e = .returned (.tuple #[.int .i64 0, .int .i64 1]) ∧ w.grownBy w' none := by
  have HF := Lib.hid (nz_find h id)
  clear h
  go_enter Try.func13, Try.ntmps13
  go_wp2_with fail
  refine HF.out.mono ?_
  rintro e w2 ⟨rfl, e2⟩
  subst w2
  go_wp2_with fail
  go_ret2
  exact ⟨rfl, grown_refl _ _⟩
theorem nz_put (h : NS14 w v) (id ix pf ps : Int) (pd : Bool) : Calls Try.prog 15 #[v, .int .i64 id, .int .i64 ix, .agg #[.int .i64 pf, .int .i64 ps, .bool pd]] w fun e w' => e = .returned (.int .i64 1) ∧ w.grownBy w' none := by
  have ga := World.grownBy_alloc w (.cells #[.int .i64 pf, .int .i64 ps, .bool pd] 30 (0, 0)) none
  have HF := Lib.hid (nz_find (h.kept ga) id)
  have HG := Lib.hid ga
  clear h ga
  go_enter Try.func15, Try.ntmps15
  go_wp2_with fail
  refine HF.out.mono ?_
  rintro e w2 ⟨rfl, e2⟩
  subst w2
  go_wp2_with fail
  go_ret
  exact ⟨rfl, HG.out⟩
set_option maxHeartbeats 1000000 in
theorem nz_get (h : NS14 w v) (id ix : Int) : Calls Try.prog 19 #[v, .int .i64 id, .int .i64 ix] w fun e w' => e = .returned (getVO none) ∧ w.grownBy w' none := by
  have ga := World.grownBy_alloc w (.cells #[.int .i64 0, .int .i64 0, .bool false] 30 (0, 0)) none
  have hB := PB.new w 30 zeroP
  unfold zeroP at hB
  simp only at hB
  have h2 := h.kept ga
  generalize hwA : w.alloc (.cells #[.int .i64 0, .int .i64 0, .bool false] 30 (0, 0)) = wA at *
  have HF := Lib.hid (nz_find h2 id)
  have HG := Lib.hid ga
  have HB := Lib.hid hB
  have HS := Lib.hid (Nat.le_refl w.heap.size)
  obtain ⟨b0, b1, b2⟩ := hB.at
  have z0 := hB.frozen 0
  have z1 := hB.frozen 1
  have z2 := hB.frozen 2
  unfold getVO pgAgg zeroP
  simp only
  clear h h2 ga hB
  go_enter Try.func19, Try.ntmps19
  go_wp2_with fail
  refine HF.out.mono ?_
  rintro e w2 ⟨rfl, e2⟩
  subst w2
  go_wp2_with fail
  refine bodyPost_ret (results_pair_tmp rfl _ _ w.heap.size _ #[.int .i64 0, .int .i64 0, .bool false] (0, 0) _ rfl (heap_page _ _ _ _ _ _ HB.out) Try.underlying30 (by kernel_rfl) (by kernel_rfl)) rfl ?_
  exact ⟨rfl, grown_at HG.out (grown_three _ _ _ _ _ _) HS.out⟩
theorem nz_drop (h : NS14 w v) (id ix : Int) : Calls Try.prog 17 #[v, .int .i64 id, .int .i64 ix] w fun e w' => e = .returned (.bool false) ∧ w.grownBy w' none := by
  have HF := Lib.hid (nz_get h id ix)
  unfold getVO pgAgg zeroP at HF
  simp only at HF
  clear h
  go_enter Try.func17, Try.ntmps17
  go_wp2_with fail
  refine HF.out.mono ?_
  rintro e w2 ⟨rfl, g2⟩
  have HG := Lib.hid g2
  clear g2
  go_wp2_with fail
  go_ret
  exact ⟨rfl, grown_trans HG.out (World.grownBy_alloc _ _ none)⟩
theorem nz_of (h : NS14 w v) (f : Int) : Calls Try.prog 21 #[v, .int .i64 f] w fun e w' => e = .returned (.int .i64 0) ∧ w.grownBy w' none := by
  have HT := Lib.hid (nz_made h)
  clear h
  go_enter Try.func21, Try.ntmps21
  go_wp2_with fail
  refine HT.out.mono ?_
  rintro e w2 ⟨rfl, e2⟩
  subst w2
  go_wp2_with fail
  go_ret
  exact ⟨rfl, grown_refl _ _⟩
theorem nz_file (h : NS14 w v) (id : Int) : Calls Try.prog 23 #[v, .int .i64 id] w fun e w' => e = .returned (.int .i64 0) ∧ w.grownBy w' none := by
  have HF := Lib.hid (nz_find h id)
  clear h
  go_enter Try.func23, Try.ntmps23
  go_wp2_with fail
  refine HF.out.mono ?_
  rintro e w2 ⟨rfl, e2⟩
  subst w2
  go_wp2_with fail
  go_ret
  exact ⟨rfl, grown_refl _ _⟩
theorem nz_ids (h : NS14 w v) : Calls Try.prog 26 #[v] w fun e w' => ∃ a c, e = .returned (.slice a 0 c) ∧ w.grownBy w' none := by
  have HT := Lib.hid (nz_made h)
  clear h
  go_enter Try.func26, Try.ntmps26
  go_wp2_with fail
  refine HT.out.mono ?_
  rintro e w2 ⟨rfl, e2⟩
  subst w2
  go_wp2_with fail
  go_ret
  exact ⟨none, 0, rfl, grown_refl _ _⟩
theorem nz_pages (h : NS14 w v) (id lo hi : Int) : Calls Try.prog 29 #[v, .int .i64 id, .int .i64 lo, .int .i64 hi] w (PagesR w []) := by
  have ga := World.grownBy_alloc w (.cells #[.slice none 0 0] 92 (0, 0)) none
  have hB := heap_alloc_new w (.cells #[.slice none 0 0] 92 (0, 0))
  have hmf : ∀ (fn : Fn) (first cap : Array Value) (w : World), (Instr.makeFunc fn first cap).run Try.prog w = .ok (.func fn first cap) w := fun _ _ _ _ => rfl
  have HF := Lib.hid (nz_find (h.kept ga) id)
  have HG := Lib.hid ga
  have HC := Lib.hid (show (w.alloc (.cells #[.slice none 0 0] 92 (0, 0))).cell? ⟨w.heap.size, 0, none⟩ = some (.slice none 0 0) by rw [cell_of_row _ _ _ _ _ _ hB]; rfl)
  clear h ga hB
  go_enter Try.func29, Try.ntmps29
  go_wp2_with fail
  refine HF.out.mono ?_
  rintro e w2 ⟨rfl, e2⟩
  subst w2
  go_wp2_with fail
  go_ret
  exact ⟨_, _, rfl, HC.out, RowAt.nil _ _, (fun b e => by cases e), Nat.le_refl _, HG.out⟩
end
theorem noneOk14 : NoneOk14 NS14 where
  form := NS14.form
  nil := fun w => .inl rfl
  kept := NS14.kept
  make := nz_make
  ref := nz_ref
  put := nz_put
  drop := nz_drop
  get := nz_get
  of := nz_of
  file := nz_file
  ids := nz_ids
  pages := nz_pages
theorem pool14_zero (w : World) : NS14 (w.alloc (.cells #[.int .i64 0, .map none, .map none] 68)) (.pointer (some ⟨w.heap.size, 0, none⟩)) := .inr ⟨_, rfl, heap_alloc_new w _⟩
end Go.Proofs.Ytefcefclncbimaa
