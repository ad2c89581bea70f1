/- Package tlb: no table, and a table that no call made. -/
import Derived.Test.YtmddflhacamnaaaTKeys
namespace Go.Proofs.Ytmddflhacamnaaa
open Go.ChangeShapes Go.WideShapes Go.ChangeAt Go.RowKit Go.Deep
set_option linter.unusedVariables false

/-- No table, or one of zeros. -/
def NT (w : World) (v : Value) : Prop := v = .pointer none ∨ ∃ p, v = .pointer (some ⟨p, 0, none⟩) ∧ w.heap[p]? = some tlbZero

theorem tlbZero_ok (w : World) : NT (w.alloc tlbZero) (.pointer (some ⟨w.heap.size, 0, none⟩)) := .inr ⟨_, rfl, heap_alloc_new w _⟩

def ZB (w : World) (p : Nat) : Prop := w.heap[p]? = some tlbZero
section
variable {w w' : World} {p : Nat}
theorem ZB.at (h : ZB w p) : w.cell? ⟨p, 0, none⟩ = some (.int .i64 0) ∧ w.cell? ⟨p, 1, none⟩ = some (.map none) ∧ w.cell? ⟨p, 2, none⟩ = some (.slice none 0 0) :=
  ⟨by rw [cell_of_row _ _ _ _ _ _ h]; rfl, by rw [cell_of_row _ _ _ _ _ _ h]; rfl, by rw [cell_of_row _ _ _ _ _ _ h]; rfl⟩
theorem ZB.grow (h : ZB w p) (g : w.grownBy w' none) : ZB w' p := (g.block _ (Array.getElem?_eq_some_iff.1 h).1 (by simp)).trans h
/-- A nil row stored in the place of a nil row. -/
theorem ZB.same (h : ZB w p) : w.grownBy (w.setCell ⟨p, 2, none⟩ (.slice none 0 0)) none := by
  refine ⟨rfl, rfl, rfl, by simp, fun k hk _ => ?_⟩
  by_cases e : k = p
  · subst e
    have := heap_setCell_same w k 2 _ _ (.slice none 0 0) h
    rw [this, h]
    rfl
  · exact heap_setCell_other w _ k _ (by first | exact e | exact fun e2 => e e2.symm)
end

theorem nil_true (w : World) : (binOp .eql 23 (.pointer none) (.pointer none)).run Try.prog w = .ok (.bool true) w := by kernel_rfl

theorem nil_find (w : World) (a k : Int) : Calls Try.prog 19 #[.pointer none, .agg #[.int .i64 a, .int .i64 k]] w fun e w' => e = .returned (.tuple #[.agg #[.int .i64 0, .int .i64 0], .bool false]) ∧ w.grownBy w' none := by
  have hq := nil_true
  have ga := World.grownBy_alloc w (.cells #[.int .i64 a, .int .i64 k] 29 (0, 0)) none
  have gb := grown_trans ga (World.grownBy_alloc (w.alloc (.cells #[.int .i64 a, .int .i64 k] 29 (0, 0))) (.cells #[.int .i64 0, .int .i64 0] 31 (0, 0)) none)
  have hbe := TwoB.new (w.alloc (.cells #[.int .i64 a, .int .i64 k] 29 (0, 0))) 31 (.int .i64 0) (.int .i64 0)
  rw [World.size_alloc] at hbe
  have HE := Lib.hid hbe
  have HG := Lib.hid gb
  obtain ⟨e0, e1⟩ := hbe.at
  obtain ⟨f0, f1⟩ := hbe.frozen
  clear ga gb hbe
  go_enter Try.func19, Try.ntmps19
  go_wp2_with fail
  refine bodyPost_ret (results_pair_tmp rfl _ _ (w.heap.size + 1) _ #[.int .i64 0, .int .i64 0] (0, 0) _ rfl HE.out Try.underlying31 (by kernel_rfl) (by kernel_rfl)) rfl ?_
  exact ⟨rfl, HG.out⟩

theorem nil_put (w : World) (a k f q : Int) : Calls Try.prog 11 #[.pointer none, .agg #[.int .i64 a, .int .i64 k], .agg #[.int .i64 f, .int .i64 q]] w fun e w' => e = .returned (.tuple #[]) ∧ w.grownBy w' none := by
  have hq := nil_true
  have gb := grown_trans (World.grownBy_alloc w (.cells #[.int .i64 a, .int .i64 k] 29 (0, 0)) none) (World.grownBy_alloc (w.alloc (.cells #[.int .i64 a, .int .i64 k] 29 (0, 0))) (.cells #[.int .i64 f, .int .i64 q] 31 (0, 0)) none)
  have HG := Lib.hid gb
  clear gb
  go_enter Try.func11, Try.ntmps11
  go_wp2_with fail
  refine bodyPost_ret (results_none rfl _ _ _) rfl ?_
  exact ⟨rfl, HG.out⟩

theorem nil_drop (w : World) (g : Nat) (cap : Array Value) : Calls Try.prog 24 #[.pointer none, .func (.func g) #[] cap] w fun e w' => e = .returned (.int .i64 0) ∧ w.grownBy w' none := by
  have hq := nil_true
  have ga := World.grownBy_alloc w (.cells #[.pointer none] 23 (0, 0)) none
  have gb := grown_trans ga (World.grownBy_alloc (w.alloc (.cells #[.pointer none] 23 (0, 0))) (.cells #[.func (.func g) #[] cap] 37 (0, 0)) none)
  have hb2 := (World.grownBy_alloc (w.alloc (.cells #[.pointer none] 23 (0, 0))) (.cells #[.func (.func g) #[] cap] 37 (0, 0)) none).block w.heap.size (by simp) (by simp) |>.trans (heap_alloc_new w _)
  have c0 : ((w.alloc (.cells #[.pointer none] 23 (0, 0))).alloc (.cells #[.func (.func g) #[] cap] 37 (0, 0))).cell? ⟨w.heap.size, 0, none⟩ = some (.pointer none) := by rw [cell_of_row _ _ _ _ _ _ hb2]; rfl
  have HG := Lib.hid gb
  clear ga gb hb2
  go_enter Try.func24, Try.ntmps24
  go_wp2_with fail
  go_ret
  exact ⟨rfl, HG.out⟩

theorem nil_len (w : World) : Calls Try.prog 22 #[.pointer none] w fun e w' => e = .returned (.int .i64 0) ∧ w.grownBy w' none := by
  have hq := nil_true
  go_enter Try.func22, Try.ntmps22
  go_wp2_with fail
  go_ret
  exact ⟨rfl, grown_refl _ _⟩
theorem nil_keys (w : World) : Calls Try.prog 21 #[.pointer none] w fun e w' => ∃ s c, e = .returned (.slice s 0 c) ∧ w.grownBy w' none := by
  have hq := nil_true
  go_enter Try.func21, Try.ntmps21
  go_wp2_with fail
  go_ret
  exact ⟨_, _, rfl, grown_refl _ _⟩

/-! ### a table of zeros -/
section
variable {w : World} {p : Nat}

theorem zero_find (h : ZB w p) (a k : Int) (ha : okI a) (hk : okI k) : Calls Try.prog 19 #[.pointer (some ⟨p, 0, none⟩), .agg #[.int .i64 a, .int .i64 k]] w fun e w' => e = .returned (.tuple #[.agg #[.int .i64 0, .int .i64 0], .bool false]) ∧ w.grownBy w' none := by
  have hq := eql_ptr_nil
  have ga := World.grownBy_alloc w (.cells #[.int .i64 a, .int .i64 k] 29 (0, 0)) none
  have gb := grown_trans ga (World.grownBy_alloc (w.alloc (.cells #[.int .i64 a, .int .i64 k] 29 (0, 0))) (.cells #[.int .i64 0, .int .i64 0] 31 (0, 0)) none)
  have hbk := (TwoB.new w 29 (.int .i64 a) (.int .i64 k)).grow (World.grownBy_alloc _ (.cells #[.int .i64 0, .int .i64 0] 31 (0, 0)) none)
  have hbe := TwoB.new (w.alloc (.cells #[.int .i64 a, .int .i64 k] 29 (0, 0))) 31 (.int .i64 0) (.int .i64 0)
  rw [World.size_alloc] at hbe
  have hsz : ((w.alloc (.cells #[.int .i64 a, .int .i64 k] 29 (0, 0))).alloc (.cells #[.int .i64 0, .int .i64 0] 31 (0, 0))).heap.size = w.heap.size + 1 + 1 := by rw [World.size_alloc, World.size_alloc]
  go_enter Try.func19, Try.ntmps19
  go_wp2_with fail
  generalize (w.alloc (.cells #[.int .i64 a, .int .i64 k] 29 (0, 0))).alloc (.cells #[.int .i64 0, .int .i64 0] 31 (0, 0)) = wB at *
  have HS := Lib.hid (show ∀ W, wB.grownBy W none → W.cell? ⟨p, 1, none⟩ = some (.map none) ∧ (W.cell? ⟨w.heap.size, 0, none⟩ = some (.int .i64 a) ∧ W.cell? ⟨w.heap.size, 1, none⟩ = some (.int .i64 k)) ∧ (Instr.lookup 55 (.map none) (.agg #[.int .i64 a, .int .i64 k]) true).run Try.prog W = .ok (.tuple #[.agg #[.int .i64 0, .int .i64 0], .bool false]) W from
    fun W g => ⟨(h.grow (grown_trans gb g)).at.2.1, (hbk.grow g).at, Maps.look_nil (w := W) true key_keyed Try.underlying55 (zero_entry W) (key_key ha hk)⟩)
  have gd := Lib.hid (grown_drew1 wB)
  have gc := Lib.hid (grown_trans gd.out (World.grownBy_alloc wB.drew (.cells #[.int .i64 0, .int .i64 0] 31 (0, 0)) none))
  have gp := Lib.hid (show wB.grownBy (wB.alloc (.cells #[.int .i64 0, .int .i64 0] 31 (0, 0))).drew none from grown_trans (World.grownBy_alloc wB _ none) (grown_drew1 _))
  have HR := Lib.hid (hbe.grow gp.out)
  have HE := Lib.hid (show TwoB (wB.alloc (.cells #[.int .i64 0, .int .i64 0] 31 (0, 0))).drew (w.heap.size + 1 + 1) 31 (.int .i64 0) (.int .i64 0) by
    have : TwoB (wB.alloc (.cells #[.int .i64 0, .int .i64 0] 31 (0, 0))).drew wB.heap.size 31 (.int .i64 0) (.int .i64 0) := TwoB.new wB 31 (.int .i64 0) (.int .i64 0)
    rwa [hsz] at this)
  have HGB := Lib.hid (grown_trans gb gp.out)
  clear hbe hbk ga gb h
  go_region_held3 (fun W => W.cell? ⟨p, 1, none⟩ = some (.map none) ∧ (W.cell? ⟨w.heap.size, 0, none⟩ = some (.int .i64 a) ∧ W.cell? ⟨w.heap.size, 1, none⟩ = some (.int .i64 k)) ∧ (Instr.lookup 55 (.map none) (.agg #[.int .i64 a, .int .i64 k]) true).run Try.prog W = .ok (.tuple #[.agg #[.int .i64 0, .int .i64 0], .bool false]) W)
    (first | exact HS.out _ gd.out | exact HS.out _ gc.out | exact HS.out _ gp.out) (fail)
  all_goals
    clear HS gd gc gp
    generalize (wB.alloc (.cells #[.int .i64 0, .int .i64 0] 31 (0, 0))).drew = wE at *
    obtain ⟨e0, e1⟩ := HR.out.at
    obtain ⟨f0, f1⟩ := HR.out.frozen
    obtain ⟨k0, k1⟩ := HE.out.at
    go_wp2_with fail
    refine bodyPost_ret (results_pair_tmp rfl _ _ (w.heap.size + 1) _ #[.int .i64 0, .int .i64 0] (0, 0) _ rfl (heap_pair _ _ _ _ _ _ _ HR.out rfl rfl) Try.underlying31 (by kernel_rfl) (by kernel_rfl)) rfl ?_
    exact ⟨rfl, grown_pair HGB.out (by omega) _ _⟩

theorem zero_put (h : ZB w p) (a k f q : Int) : Calls Try.prog 11 #[.pointer (some ⟨p, 0, none⟩), .agg #[.int .i64 a, .int .i64 k], .agg #[.int .i64 f, .int .i64 q]] w fun e w' => e = .returned (.tuple #[]) ∧ w.grownBy w' none := by
  have hq := eql_ptr_nil
  have gb := grown_trans (World.grownBy_alloc w (.cells #[.int .i64 a, .int .i64 k] 29 (0, 0)) none) (World.grownBy_alloc (w.alloc (.cells #[.int .i64 a, .int .i64 k] 29 (0, 0))) (.cells #[.int .i64 f, .int .i64 q] 31 (0, 0)) none)
  obtain ⟨c0, c1, c2⟩ := (h.grow gb).at
  have HG := Lib.hid gb
  clear gb h
  go_enter Try.func11, Try.ntmps11
  go_wp2_with fail
  refine bodyPost_ret (results_none rfl _ _ _) rfl ?_
  exact ⟨rfl, HG.out⟩

set_option maxHeartbeats 1000000 in
theorem zero_drop (h : ZB w p) (g : Nat) (cap : Array Value) : Calls Try.prog 24 #[.pointer (some ⟨p, 0, none⟩), .func (.func g) #[] cap] w fun e w' => e = .returned (.int .i64 0) ∧ w.grownBy w' none := by
  have ga := World.grownBy_alloc w (.cells #[.pointer (some ⟨p, 0, none⟩)] 23 (0, 0)) none
  have gb := grown_trans ga (World.grownBy_alloc (w.alloc (.cells #[.pointer (some ⟨p, 0, none⟩)] 23 (0, 0))) (.cells #[.func (.func g) #[] cap] 37 (0, 0)) none)
  have hb2 := (World.grownBy_alloc (w.alloc (.cells #[.pointer (some ⟨p, 0, none⟩)] 23 (0, 0))) (.cells #[.func (.func g) #[] cap] 37 (0, 0)) none).block w.heap.size (by simp) (by simp) |>.trans (heap_alloc_new w _)
  have hZ := h.grow gb
  generalize hwB : (w.alloc (.cells #[.pointer (some ⟨p, 0, none⟩)] 23 (0, 0))).alloc (.cells #[.func (.func g) #[] cap] 37 (0, 0)) = wB at *
  have hq := eql_ptr_nil
  have c0 : wB.cell? ⟨w.heap.size, 0, none⟩ = some (.pointer (some ⟨p, 0, none⟩)) := by rw [cell_of_row _ _ _ _ _ _ hb2]; rfl
  have c3 := hZ.at.2.2
  have gd := grown_drew1 wB
  have hZd := hZ.grow gd
  have hc0 : wB.drew.cell? ⟨w.heap.size, 0, none⟩ = some (.pointer (some ⟨p, 0, none⟩)) := c0
  have cp2 : wB.drew.cell? ⟨p, 2, none⟩ = some (.slice none 0 0) := c3
  have fp2 := frozen_of_row wB.drew p 2 _ _ hZd
  have hlt : w.heap.size ≠ p := fun e => by have := (Array.getElem?_eq_some_iff.1 h).1; omega
  have hc9 : (wB.drew.setCell ⟨p, 2, none⟩ (.slice none 0 0)).cell? ⟨w.heap.size, 0, none⟩ = some (.pointer (some ⟨p, 0, none⟩)) := (World.cell?_of_block (a := ⟨w.heap.size, 0, none⟩) (heap_setCell_other _ _ _ _ (by first | exact hlt | exact hlt.symm))).trans hc0
  have HDel := Lib.hid (del_nil none 0 (.func (.func 32) #[] #[.pointer (some ⟨w.heap.size + 1, 0, none⟩), .pointer (some ⟨w.heap.size, 0, none⟩)]) wB.drew)
  have HG9 := Lib.hid (grown_trans (grown_trans gb gd) hZd.same)
  have HZ9 := Lib.hid (hZd.grow hZd.same)
  have hmf : ∀ (fn : Fn) (first cap : Array Value) (w : World), (Instr.makeFunc fn first cap).run Try.prog w = .ok (.func fn first cap) w := fun _ _ _ _ => rfl
  clear ga gb hb2 hZ gd hZd h hlt
  go_enter Try.func24, Try.ntmps24
  go_wp2_with fail
  refine wp_region_held_drew (S := fun W' => W'.cell? ⟨w.heap.size, 0, none⟩ = some (.pointer (some ⟨p, 0, none⟩))) (by kernel_rfl) hc0 (fun hHeld => ?_)
  refine' wpAnyH_take (i := 0) (oi := ?oi1) (v := ?v1) ?hi1 ?hs1 ?hf1 ?hr1 ?hQ1 ?hy1 ?hS1 ?rest1
  case hi1 => exact rfl
  case hs1 => kernel_rfl
  case hf1 => kernel_rfl
  case hr1 => kernel_rfl
  case hQ1 => exact fun _ _ _ h => h
  case hS1 => assumption
  case hy1 =>
    refine Or.inl ⟨by rfl, ?_⟩
    intro w hSw
    try dsimp only at hSw
    go_simp
    try with_reducible rfl
  try simp only [Act.put, List.setIfInBounds_toArray, List.set_cons_zero, List.set_cons_succ]
  refine' wpAnyH_take (i := 1) (oi := ?oi2) (v := ?v2) ?hi2 ?hs2 ?hf2 ?hr2 ?hQ2 ?hy2 ?hS2 ?rest2
  case hi2 => exact rfl
  case hs2 => kernel_rfl
  case hf2 => kernel_rfl
  case hr2 => kernel_rfl
  case hQ2 => exact fun _ _ _ h => h
  case hS2 => assumption
  case hy2 =>
    refine Or.inl ⟨by rfl, ?_⟩
    intro w hSw
    try dsimp only at hSw
    go_simp
    try with_reducible rfl
  try simp only [Act.put, List.setIfInBounds_toArray, List.set_cons_zero, List.set_cons_succ]
  refine' wpAnyH_take (i := 2) (oi := ?oi3) (v := ?v3) ?hi3 ?hs3 ?hf3 ?hr3 ?hQ3 ?hy3 ?hS3 ?rest3
  case hi3 => exact rfl
  case hs3 => kernel_rfl
  case hf3 => kernel_rfl
  case hr3 => kernel_rfl
  case hQ3 => exact fun _ _ _ h => h
  case hS3 => assumption
  case hy3 =>
    refine Or.inl ⟨by rfl, ?_⟩
    intro w hSw
    try dsimp only at hSw
    go_simp
    try with_reducible rfl
  try simp only [Act.put, List.setIfInBounds_toArray, List.set_cons_zero, List.set_cons_succ]
  refine' wpAnyH_take (i := 3) (oi := ?oi4) (v := ?v4) ?hi4 ?hs4 ?hf4 ?hr4 ?hQ4 ?hy4 ?hS4 ?rest4
  case hi4 => exact rfl
  case hs4 => kernel_rfl
  case hf4 => kernel_rfl
  case hr4 => kernel_rfl
  case hQ4 => exact fun _ _ _ h => h
  case hS4 => assumption
  case hy4 =>
    refine Or.inl ⟨by rfl, ?_⟩
    intro w hSw
    try dsimp only at hSw
    go_simp
    try with_reducible rfl
  try simp only [Act.put, List.setIfInBounds_toArray, List.set_cons_zero, List.set_cons_succ]
  refine wpAnyH_ready (rs := [4, 5]) (by kernel_rfl) (by simp) ?_
  refine' AllReadyH.cons (o := ?o5) ?ho5 ?h5 ?hs5
  case ho5 => exact rfl
  case h5 =>
    intro K hK
    go_simp
    refine hK.out _ _ ?_ (fun hHeld => ?_)
    · (try dsimp only); exact hc0
    clear hK K
    try simp only [Act.put, List.setIfInBounds_toArray, List.set_cons_zero, List.set_cons_succ]
    refine wpAnyH_ready (rs := [5]) (by kernel_rfl) (by simp) ?_
    refine' AllReadyH.cons (o := ?o6) ?ho6 ?h6 ?hs6
    case ho6 => exact rfl
    case h6 =>
      intro K hK
      go_simp
      refine hK.out _ _ ?_ (fun hHeld => ?_)
      · (try dsimp only); exact hc0
      clear hK K
      try simp only [Act.put, List.setIfInBounds_toArray, List.set_cons_zero, List.set_cons_succ]
      refine wpAnyH_ready (rs := [6]) (by kernel_rfl) (by simp) ?_
      refine' AllReadyH.cons (o := ?o7) ?ho7 ?h7 ?hs7
      case ho7 => exact rfl
      case h7 =>
        intro K hK
        go_simp
        go_wp2_with (go_at_call 31; refine HDel.out.mono ?_; rintro e w2 ⟨rfl, rfl⟩)
        refine hK.out _ _ ?_ (fun hHeld => ?_)
        · (try dsimp only); exact hc0
        clear hK K
        try simp only [Act.put, List.setIfInBounds_toArray, List.set_cons_zero, List.set_cons_succ]
        refine' wpAnyH_take (i := 7) (oi := ?oi8) (v := ?v8) ?hi8 ?hs8 ?hf8 ?hr8 ?hQ8 ?hy8 ?hS8 ?rest8
        case hi8 => exact rfl
        case hs8 => kernel_rfl
        case hf8 => kernel_rfl
        case hr8 => kernel_rfl
        case hQ8 => exact fun _ _ _ h => h
        case hS8 => assumption
        case hy8 =>
          refine Or.inl ⟨by rfl, ?_⟩
          intro w hSw
          try dsimp only at hSw
          go_simp
          try with_reducible rfl
        try simp only [Act.put, List.setIfInBounds_toArray, List.set_cons_zero, List.set_cons_succ]
        refine' wpAnyH_take (i := 8) (oi := ?oi9) (v := ?v9) ?hi9 ?hs9 ?hf9 ?hr9 ?hQ9 ?hy9 ?hS9 ?rest9
        case hi9 => exact rfl
        case hs9 => kernel_rfl
        case hf9 => kernel_rfl
        case hr9 => kernel_rfl
        case hQ9 => exact fun _ _ _ h => h
        case hS9 => assumption
        case hy9 =>
          refine Or.inl ⟨by rfl, ?_⟩
          intro w hSw
          try dsimp only at hSw
          go_simp
          try with_reducible rfl
        try simp only [Act.put, List.setIfInBounds_toArray, List.set_cons_zero, List.set_cons_succ]
        refine wpAnyH_ready (rs := [9]) (by kernel_rfl) (by simp) ?_
        refine' AllReadyH.cons (o := ?o10) ?ho10 ?h10 ?hs10
        case ho10 => exact rfl
        case h10 =>
          intro K hK
          go_simp
          refine hK.out _ _ ?_ (fun hHeld => ?_)
          · (try dsimp only); exact hc9
          clear hK K
          try simp only [Act.put, List.setIfInBounds_toArray, List.set_cons_zero, List.set_cons_succ]
          refine wpAnyH_done (by kernel_rfl) ?_ _
          have c29 := HZ9.out.at.2.2
          go_wp2_with fail
          go_ret
          exact ⟨rfl, HG9.out⟩
        exact AllReadyH.nil
      exact AllReadyH.nil
    exact AllReadyH.nil
  refine' AllReadyH.cons (o := ?o11) ?ho11 ?h11 ?hs11
  case ho11 => exact rfl
  case h11 =>
    intro K hK
    go_simp
    refine hK.out _ _ ?_ (fun hHeld => ?_)
    · (try dsimp only); exact hc0
    clear hK K
    try simp only [Act.put, List.setIfInBounds_toArray, List.set_cons_zero, List.set_cons_succ]
    refine wpAnyH_ready (rs := [4]) (by kernel_rfl) (by simp) ?_
    refine' AllReadyH.cons (o := ?o12) ?ho12 ?h12 ?hs12
    case ho12 => exact rfl
    case h12 =>
      intro K hK
      go_simp
      refine hK.out _ _ ?_ (fun hHeld => ?_)
      · (try dsimp only); exact hc0
      clear hK K
      try simp only [Act.put, List.setIfInBounds_toArray, List.set_cons_zero, List.set_cons_succ]
      refine wpAnyH_ready (rs := [6]) (by kernel_rfl) (by simp) ?_
      refine' AllReadyH.cons (o := ?o13) ?ho13 ?h13 ?hs13
      case ho13 => exact rfl
      case h13 =>
        intro K hK
        go_simp
        go_wp2_with (go_at_call 31; refine HDel.out.mono ?_; rintro e w2 ⟨rfl, rfl⟩)
        refine hK.out _ _ ?_ (fun hHeld => ?_)
        · (try dsimp only); exact hc0
        clear hK K
        try simp only [Act.put, List.setIfInBounds_toArray, List.set_cons_zero, List.set_cons_succ]
        refine' wpAnyH_take (i := 7) (oi := ?oi14) (v := ?v14) ?hi14 ?hs14 ?hf14 ?hr14 ?hQ14 ?hy14 ?hS14 ?rest14
        case hi14 => exact rfl
        case hs14 => kernel_rfl
        case hf14 => kernel_rfl
        case hr14 => kernel_rfl
        case hQ14 => exact fun _ _ _ h => h
        case hS14 => assumption
        case hy14 =>
          refine Or.inl ⟨by rfl, ?_⟩
          intro w hSw
          try dsimp only at hSw
          go_simp
          try with_reducible rfl
        try simp only [Act.put, List.setIfInBounds_toArray, List.set_cons_zero, List.set_cons_succ]
        refine' wpAnyH_take (i := 8) (oi := ?oi15) (v := ?v15) ?hi15 ?hs15 ?hf15 ?hr15 ?hQ15 ?hy15 ?hS15 ?rest15
        case hi15 => exact rfl
        case hs15 => kernel_rfl
        case hf15 => kernel_rfl
        case hr15 => kernel_rfl
        case hQ15 => exact fun _ _ _ h => h
        case hS15 => assumption
        case hy15 =>
          refine Or.inl ⟨by rfl, ?_⟩
          intro w hSw
          try dsimp only at hSw
          go_simp
          try with_reducible rfl
        try simp only [Act.put, List.setIfInBounds_toArray, List.set_cons_zero, List.set_cons_succ]
        refine wpAnyH_ready (rs := [9]) (by kernel_rfl) (by simp) ?_
        refine' AllReadyH.cons (o := ?o16) ?ho16 ?h16 ?hs16
        case ho16 => exact rfl
        case h16 =>
          intro K hK
          go_simp
          refine hK.out _ _ ?_ (fun hHeld => ?_)
          · (try dsimp only); exact hc9
          clear hK K
          try simp only [Act.put, List.setIfInBounds_toArray, List.set_cons_zero, List.set_cons_succ]
          refine wpAnyH_done (by kernel_rfl) ?_ _
          have c29 := HZ9.out.at.2.2
          go_wp2_with fail
          go_ret
          exact ⟨rfl, HG9.out⟩
        exact AllReadyH.nil
      exact AllReadyH.nil
    exact AllReadyH.nil
  exact AllReadyH.nil

theorem zero_len (h : ZB w p) : Calls Try.prog 22 #[.pointer (some ⟨p, 0, none⟩)] w fun e w' => e = .returned (.int .i64 0) ∧ w.grownBy w' none := by
  obtain ⟨c0, c1, c2⟩ := h.at
  have hq := eql_ptr_nil
  clear h
  go_enter Try.func22, Try.ntmps22
  go_wp2_with fail
  go_ret
  exact ⟨rfl, grown_refl _ _⟩
theorem zero_keys (h : ZB w p) : Calls Try.prog 21 #[.pointer (some ⟨p, 0, none⟩)] w fun e w' => ∃ s c, e = .returned (.slice s 0 c) ∧ w.grownBy w' none := by
  obtain ⟨c0, c1, c2⟩ := h.at
  have hq := eql_ptr_nil
  have HC := Lib.hid (clone_walk (xs := []) (World.ownsRow_nil w 0 29 2) (by simp))
  clear h
  go_enter Try.func21, Try.ntmps21
  go_wp2_with fail
  refine HC.out.mono ?_
  rintro e w2 ⟨v', rfl, h2, g2, _⟩
  obtain ⟨s', c', hv'⟩ := h2.form
  subst hv'
  have HG2 := Lib.hid g2
  clear h2 g2
  go_wp2_with fail
  go_ret
  exact ⟨_, _, rfl, HG2.out⟩
end

/-! ### both -/
section
variable {w : World} {v : Value}
theorem none_find (h : NT w v) (a k : Int) (ha : okI a) (hk : okI k) : Calls Try.prog 19 #[v, .agg #[.int .i64 a, .int .i64 k]] w fun e w' => e = .returned (.tuple #[.agg #[.int .i64 0, .int .i64 0], .bool false]) ∧ w.grownBy w' none := by
  rcases h with rfl | ⟨p, rfl, h⟩
  · exact nil_find w a k
  · exact zero_find h a k ha hk
theorem none_drop2 (h : NT w v) (g : Nat) (cap : Array Value) : Calls Try.prog 24 #[v, .func (.func g) #[] cap] w fun e w' => e = .returned (.int .i64 0) ∧ w.grownBy w' none := by
  rcases h with rfl | ⟨p, rfl, h⟩
  · exact nil_drop w g cap
  · exact zero_drop h g cap
theorem NT.grow {w' : World} (h : NT w v) (g : w.grownBy w' none) : NT w' v := by
  rcases h with rfl | ⟨p, rfl, h⟩
  · exact .inl rfl
  · exact .inr ⟨p, rfl, ZB.grow h g⟩
theorem NT.ptr (h : NT w v) : ∃ a, v = .pointer a := by
  rcases h with rfl | ⟨p, rfl, h⟩
  · exact ⟨_, rfl⟩
  · exact ⟨_, rfl⟩

theorem none_flush (h : NT w v) (a k : Int) (ha : okI a) (hk : okI k) : Calls Try.prog 13 #[v, .agg #[.int .i64 a, .int .i64 k]] w fun e w' => e = .returned (.bool false) ∧ w.grownBy w' none := by
  have ga := World.grownBy_alloc w (.cells #[.int .i64 a, .int .i64 k] 29 (0, 0)) none
  obtain ⟨c0, c1⟩ := (TwoB.new w 29 (.int .i64 a) (.int .i64 k)).at
  have HF := Lib.hid (none_find (h.grow ga) a k ha hk)
  obtain ⟨ad, rfl⟩ := h.ptr
  have HG := Lib.hid ga
  clear ga h
  go_enter Try.func13, Try.ntmps13
  go_wp2_with fail
  refine HF.out.mono ?_
  rintro e w2 ⟨rfl, g2⟩
  go_wp2_with fail
  go_ret
  exact ⟨rfl, grown_trans (grown_trans HG.out g2) (World.grownBy_alloc w2 _ none)⟩
theorem none_asid (h : NT w v) (a : Int) : Calls Try.prog 15 #[v, .int .i64 a] w fun e w' => e = .returned (.int .i64 0) ∧ w.grownBy w' none := by
  have ga := World.grownBy_alloc w (.cells #[.int .i64 a] 3 (0, 0)) none
  have hmf : ∀ (fn : Fn) (first cap : Array Value) (w : World), (Instr.makeFunc fn first cap).run Try.prog w = .ok (.func fn first cap) w := fun _ _ _ _ => rfl
  have HD := Lib.hid (none_drop2 (h.grow ga) 27 #[.pointer (some ⟨w.heap.size, 0, none⟩)])
  obtain ⟨ad, rfl⟩ := h.ptr
  have HG := Lib.hid ga
  clear ga h
  go_enter Try.func15, Try.ntmps15
  go_wp2_with fail
  refine HD.out.mono ?_
  rintro e w2 ⟨rfl, g2⟩
  go_wp2_with fail
  go_ret
  exact ⟨rfl, grown_trans HG.out g2⟩
theorem none_all (h : NT w v) : Calls Try.prog 17 #[v] w fun e w' => e = .returned (.int .i64 0) ∧ w.grownBy w' none := by
  have HD := Lib.hid (none_drop2 h 28 #[])
  obtain ⟨ad, rfl⟩ := h.ptr
  clear h
  go_enter Try.func17, Try.ntmps17
  go_wp2_with fail
  refine HD.out.mono ?_
  rintro e w2 ⟨rfl, g2⟩
  go_wp2_with fail
  go_ret
  exact ⟨rfl, g2⟩
end

theorem noneOk : NoneOk NT where
  nil := fun _ => .inl rfl
  grow := fun h g => h.grow g
  find := fun h a k ha hk => none_find h a k ha hk
  put := fun {w v} h a k f q => by
    rcases h with rfl | ⟨p, rfl, h⟩
    · exact nil_put w a k f q
    · exact zero_put h a k f q
  flush := fun h a k ha hk => none_flush h a k ha hk
  flushAsid := fun h a => none_asid h a
  flushAll := fun h => none_all h
  len := fun {w v} h => by
    rcases h with rfl | ⟨p, rfl, h⟩
    · exact nil_len w
    · exact zero_len h
  keys := fun {w v} h => by
    rcases h with rfl | ⟨p, rfl, h⟩
    · exact nil_keys w
    · exact zero_keys h
end Go.Proofs.Ytmddflhacamnaaa
