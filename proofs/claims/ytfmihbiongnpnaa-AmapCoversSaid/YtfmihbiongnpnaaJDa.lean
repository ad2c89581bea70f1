/- Package spread (landed): its counts; there, all, Len, blank, New, Clone, Runs, Copy. -/
import Derived.Test.YtfmihbiongnpnaaJOk
import Derived.Test.YtfmihbiongnpnaaJLoose
namespace Go.Proofs.Ytfmihbiongnpnaa
open Go.ChangeShapes Go.WideShapes Go.ChangeAt Go.RowKit Go.Deep
set_option linter.unusedVariables false

/-- A row of runs, and room for it. -/
def RunsC (w : World) (u : Value) (R : List JR) : Prop := RowOf runCells 3 w u R ∧ ∀ a l c, u = .slice a l c → l ≤ c
section
variable {w w' : World} {u : Value} {R : List JR}
theorem RunsC.nil (w : World) : RunsC w (.slice none 0 0) [] := ⟨RowAt.nil _ _, fun a l c e => by cases e; exact Nat.le_refl _⟩
theorem RunsC.grow (h : RunsC w u R) (g : w.grownBy w' none) : RunsC w' u R := ⟨h.1.grow g, h.2⟩
theorem RunsC.kept (h : RunsC w u R) (hs : w.heap.size ≤ w'.heap.size) (hb : ∀ b, u.ownBlock = some b → w'.heap[b]? = w.heap[b]?) : RunsC w' u R := ⟨h.1.kept hs fun a l c e => hb a.block (by rw [e]; rfl), h.2⟩
theorem RunsC.form (h : RunsC w u R) : (u = .slice none 0 0 ∧ R = []) ∨ ∃ g o c, u = .slice (some ⟨g, o, none⟩) R.length c ∧ R.length ≤ c ∧ g < w.heap.size := by
  rcases h.1.2 with ⟨h0, h1⟩ | ⟨g, o, c, hv, hg, _⟩
  · exact .inl ⟨h0, List.length_eq_zero_iff.1 h1⟩
  · exact .inr ⟨g, o, c, hv, h.2 _ _ _ hv, hg⟩
theorem RunsC.slice (h : RunsC w u R) : ∃ a c, u = .slice a R.length c ∧ R.length ≤ c := by
  rcases h.form with ⟨rfl, rfl⟩ | ⟨g, o, c, hv, hc, _⟩
  · exact ⟨_, _, rfl, Nat.le_refl _⟩
  · exact ⟨_, c, hv, hc⟩
theorem RunsC.lt (h : RunsC w u R) {b : Nat} (hb : u.ownBlock = some b) : b < w.heap.size := by
  rcases h.form with ⟨rfl, _⟩ | ⟨g, o, c, rfl, _, hg⟩
  · cases hb
  · have e : g = b := by simpa [Value.ownBlock] using hb
    rw [← e]; exact hg
theorem ROwn.runs {base : Nat} (h : ROwn w base u R) : RunsC w u R := by
  refine ⟨OwnOf.row h, fun a l c e => ?_⟩
  rcases h.2 with ⟨h0, _⟩ | ⟨g, cap, cur, hv, _, _, h3, _⟩
  · rw [h0] at e; cases e; exact Nat.le_refl _
  · rw [hv] at e; cases e; exact h3
theorem RunsC.at (h : RunsC w u R) {j : Nat} {r : JR} (hr : R[j]? = some r) :
    ∃ g o c, u = .slice (some ⟨g, o, none⟩) R.length c ∧ w.cell? ⟨g, o + j * 3, none⟩ = some (.int .i64 r.lo) ∧ w.cell? ⟨g, o + j * 3 + 1, none⟩ = some (.int .i64 r.hi) ∧ w.cell? ⟨g, o + j * 3 + 2, none⟩ = some (.int .i64 r.n) := run_cells h.1 hr
end

/-- The landed counts: block p, the runs' value. -/
structure SD (w : World) (p : Nat) (v : Value) (L : List Int) : Prop where
  head : w.heap[p]? = some (.cells #[.bool true, v] 98 (0, 0))
  row : RunsC w v (runsJ L)
  ne : v.ownBlock ≠ some p
def blkS (p : Nat) (v : Value) : List Nat := p :: v.ownBlock.toList
section
variable {w w' w9 : World} {p : Nat} {v v' : Value} {L L' : List Int}
theorem SD.plt (h : SD w p v L) : p < w.heap.size := (Array.getElem?_eq_some_iff.1 h.head).1
theorem SD.lt (h : SD w p v L) : ∀ b, b ∈ blkS p v → b < w.heap.size := fun b hb => by
  unfold blkS at hb
  rcases List.mem_cons.1 hb with rfl | hb
  · exact h.plt
  · exact h.row.lt (by simpa using hb)
theorem SD.kept (h : SD w p v L) (hs : w.heap.size ≤ w'.heap.size) (hb : ∀ b, b ∈ blkS p v → w'.heap[b]? = w.heap[b]?) : SD w' p v L :=
  ⟨(hb p (by simp [blkS])).trans h.head, h.row.kept hs fun b e => hb b (by simp [blkS, e]), h.ne⟩
theorem SD.grow (h : SD w p v L) (g : w.grownBy w' none) : SD w' p v L := h.kept g.size fun b hb => g.block b (h.lt b hb) (by simp)
theorem SD.at (h : SD w p v L) : w.cell? ⟨p, 0, none⟩ = some (.bool true) ∧ w.cell? ⟨p, 1, none⟩ = some v := ⟨by rw [cell_of_row _ _ _ _ _ _ h.head]; rfl, by rw [cell_of_row _ _ _ _ _ _ h.head]; rfl⟩
theorem SD.frozen (h : SD w p v L) (o : Nat) : w.frozen? ⟨p, o, none⟩ = false := frozen_of_row _ _ _ _ _ h.head
theorem SD.side (h : SD w p v L) : Side L 0 (runsJ L) L.length := runsJ_side L
def DS (w : World) (p : Nat) (L : List Int) (O : List Nat) : Prop := ∃ v, SD w p v L ∧ O = blkS p v
theorem dsOk : StOk DS := ⟨fun ⟨v, h, e⟩ => by rw [e]; exact h.lt, fun ⟨v, h, e⟩ hs hb => ⟨v, h.kept hs (by rw [e] at hb; exact hb), e⟩⟩
theorem SD.same (h : SD w p v L) (g : w.grownBy w' none) : SL DS w w' p (blkS p v) L := ⟨blkS p v, ⟨v, h.grow g, rfl⟩, Turn.grown g, fun b hb => .inl hb⟩
/-- The runs are another row. -/
theorem SD.other (h : SD w p v L) (g : w.grownBy w9 none) (hr : RunsC w9 v' (runsJ L')) (hv : ∀ b, v'.ownBlock = some b → w.heap.size ≤ b) : SL DS w (w9.setCell ⟨p, 1, none⟩ v') p (blkS p v) L' := by
  have h9 := h.grow g
  have hp := h.plt
  have ho : ∀ b, b ≠ p → (w9.setCell ⟨p, 1, none⟩ v').heap[b]? = w9.heap[b]? := fun b hb => heap_setCell_other w9 ⟨p, 1, none⟩ b _ (by first | exact hb | exact hb.symm)
  have hne : ∀ b, v'.ownBlock = some b → b ≠ p := fun b e e2 => by have := hv b e; omega
  refine ⟨blkS p v', ⟨v', ⟨heap_setCell_same w9 p 1 _ _ v' h9.head, hr.kept (by simp) fun b e => ho b (hne b e), fun e => hne p e rfl⟩, rfl⟩, (Turn.grown g).trans' (Turn.setCell (blkS p v) w9 p 1 v' (by simp [blkS])), fun b hb => ?_⟩
  unfold blkS at hb
  rcases List.mem_cons.1 hb with rfl | hb
  · exact .inl (by simp [blkS])
  · exact .inr (hv b (by simpa using hb))
end

theorem neq_ptr_nil (w : World) (a : Addr) : (binOp .neq 79 (.pointer (some a)) (.pointer none)).run Try.prog w = .ok (.bool true) w := by go_simp
theorem eql_ptr_nil (w : World) (a : Addr) : (binOp .eql 79 (.pointer (some a)) (.pointer none)).run Try.prog w = .ok (.bool false) w := by go_simp

section
variable {w w' : World} {p : Nat} {v : Value} {L : List Int}
theorem sp_there (h : SD w p v L) : Calls Try.prog 56 #[.pointer (some ⟨p, 0, none⟩)] w fun e w' => e = .returned (.bool true) ∧ w' = w := by
  obtain ⟨c0, c1⟩ := h.at
  have hq := neq_ptr_nil
  clear h
  go_enter Try.func56, Try.ntmps56
  go_wp2_with fail
  go_ret
  exact ⟨rfl, rfl⟩
theorem sp_all (h : SD w p v L) : Calls Try.prog 52 #[.pointer (some ⟨p, 0, none⟩)] w fun e w' => e = .returned v ∧ w' = w := by
  obtain ⟨c0, c1⟩ := h.at
  obtain ⟨a, c, rfl, -⟩ := h.row.slice
  have hq := eql_ptr_nil
  clear h
  go_enter Try.func52, Try.ntmps52
  go_wp2_with fail
  go_ret
  exact ⟨rfl, rfl⟩
theorem runs_le (hk : JOk L) : (runsJ L).length ≤ 4096 := by
  have h1 := (runsJ_side L).len
  have h2 := hk.len
  omega
theorem sp_len (h : SD w p v L) (hk : JOk L) : Calls Try.prog 43 #[.pointer (some ⟨p, 0, none⟩)] w fun e w' => e = .returned (.int .i64 L.length) ∧ w' = w := by
  have HA := Lib.hid (sp_all h)
  have hsd := runsJ_side L
  have hle := runs_le hk
  have hrow := h.row
  obtain ⟨R, hR⟩ : ∃ R, runsJ L = R := ⟨_, rfl⟩
  rw [hR] at hsd hrow hle
  rcases List.eq_nil_or_concat R with rfl | ⟨A, r, rfl⟩
  · have h0 : (0 : Int) = L.length := hsd
    rw [← h0]
    obtain ⟨a, c, rfl, -⟩ := hrow.slice
    clear h hsd hrow hR h0
    go_enter Try.func43, Try.ntmps43
    go_wp2_with fail
    refine HA.out.mono ?_
    rintro e w2 ⟨rfl, e2⟩
    subst w2
    go_wp2_with fail
    go_ret
    exact ⟨rfl, rfl⟩
  · rw [List.concat_eq_append] at *
    have hhi := hsd.loose.last
    obtain ⟨g, o, c, hv, k0, k1, k2⟩ := hrow.at (j := A.length) (r := r) (by simp)
    rw [hhi] at k1
    rw [List.length_append, List.length_singleton] at hv hle
    subst hv
    have hb : (((A.length : Int) + 1) == 0) = false := by simp; omega
    clear h hsd hrow hR hhi k0 k2
    go_enter Try.func43, Try.ntmps43
    go_wp2_with fail
    refine HA.out.mono ?_
    rintro e w2 ⟨rfl, e2⟩
    subst w2
    go_wp2_with fail
    go_ret
    exact ⟨rfl, rfl⟩
end

def blankJ (lo hi : Int) : List JR := if lo = hi then [] else [⟨lo, hi, 0⟩]
theorem blank_ok (w : World) (lo hi : Int) : Calls Try.prog 55 #[.int .i64 lo, .int .i64 hi] w fun e w' => ∃ u, e = .returned u ∧ RunsC w' u (blankJ lo hi) ∧ (∀ b, u.ownBlock = some b → w.heap.size ≤ b) ∧ w.grownBy w' none := by
  by_cases h : lo = hi
  · rw [show blankJ lo hi = [] from if_pos h]
    have hb : (lo == hi) = true := by simp [h]
    clear h
    go_enter Try.func55, Try.ntmps55
    go_wp2_with fail
    go_ret
    exact ⟨_, rfl, RunsC.nil _, (fun b hb => by cases hb), grown_refl _ _⟩
  · rw [show blankJ lo hi = [⟨lo, hi, 0⟩] from if_neg h]
    have hb : (lo == hi) = false := by simp [h]
    have hn := heap_alloc_new w (.cells #[.int .i64 lo, .int .i64 hi, .int .i64 0] 95)
    have HO := Lib.hid (show ROwn (w.alloc (.cells #[.int .i64 lo, .int .i64 hi, .int .i64 0] 95)) w.heap.size (.slice (some ⟨w.heap.size, 0, none⟩) 1 1) [⟨lo, hi, 0⟩] from
      ⟨rfl, .inr ⟨w.heap.size, 1, _, rfl, Nat.le_refl _, hn, Nat.le_refl _, by unfold maxLen; omega, rfl, rfl⟩⟩)
    clear h hn
    go_enter Try.func55, Try.ntmps55
    go_wp2_with fail
    go_ret
    exact ⟨_, rfl, ROwn.runs HO.out, fun b hb => (OwnOf.lt HO.out hb).1, World.grownBy_alloc _ _ _⟩
theorem runsJ_blank (k : Nat) : runsJ (List.replicate k 0) = blankJ 0 k := by
  by_cases h : k = 0
  · subst h; rfl
  · rw [runsJ_zeros (by omega)]
    unfold blankJ
    rw [if_neg (by omega)]

theorem sp_new (k : Nat) (w : World) (hk : k ≤ 4096) : Calls Try.prog 47 #[.int .i64 k] w fun e w' => ∃ p O, e = .returned (.pointer (some ⟨p, 0, none⟩)) ∧ DS w' p (List.replicate k 0) O ∧ w.grownBy w' none ∧ ∀ b, b ∈ O → w.heap.size ≤ b := by
  have HB := Lib.hid (blank_ok w 0 k)
  have d0 : decide ((k : Int) < 0) = false := decide_eq_false (by omega)
  have d1 : decide ((k : Int) > 4096) = false := decide_eq_false (by omega)
  go_enter Try.func47, Try.ntmps47
  go_wp2_with fail
  refine HB.out.mono ?_
  rintro e w2 ⟨u, rfl, hu, ho, g2⟩
  rw [← runsJ_blank] at hu
  obtain ⟨a, c, hv, -⟩ := hu.slice
  have HU := Lib.hid hu
  have HO := Lib.hid ho
  have HG := Lib.hid g2
  have HV := Lib.hid hv
  subst hv
  clear hu ho g2
  go_wp2_with fail
  go_ret
  have ga := World.grownBy_alloc w2 (.cells #[.bool true, .slice a (runsJ (List.replicate k 0)).length c] 98) none
  refine ⟨w2.heap.size, _, rfl, ⟨_, ⟨heap_alloc_new w2 _, HU.out.grow ga, fun e => by have := HU.out.lt e; omega⟩, rfl⟩, grown_trans HG.out ga, fun b hb => ?_⟩
  unfold blkS at hb
  rcases List.mem_cons.1 hb with rfl | hb
  · exact HG.out.size
  · exact HO.out b (by simpa using hb)
theorem sp_new_no (n : Int) (w : World) (h : ¬ (0 ≤ n ∧ n ≤ 4096)) : Calls Try.prog 47 #[.int .i64 n] w fun e w' => e = .returned (.pointer none) ∧ w.grownBy w' none := by
  rcases (show n < 0 ∨ (¬ n < 0 ∧ n > 4096) by omega) with d0 | ⟨d0, d1⟩
  all_goals
    clear h
    go_enter Try.func47, Try.ntmps47
    go_wp2_with fail
    go_ret
    exact ⟨rfl, grown_refl _ _⟩

theorem eql_runs_some (w : World) (a : Addr) (n c : Nat) : (binOp .eql 96 (.slice (some a) n c) (.slice none 0 0)).run Try.prog w = .ok (.bool false) w := by
  have h1 : ∀ d : Nat, (Op.equalIn (d + 1) 96 (.slice (some a) n c) (.slice none 0 0)).run Try.prog w = .ok false w := fun d => by
    simp [Op.equalIn, run_underlying Try.underlying96]
  simp only [binOp]
  simp [Op.equal, Op.maxDepth, h1 9999]
theorem eql_runs_none (w : World) : (binOp .eql 96 (.slice none 0 0) (.slice none 0 0)).run Try.prog w = .ok (.bool true) w := by kernel_rfl
theorem clone_ok {w : World} {u : Value} {R : List JR} (h : RunsC w u R) (hl : R.length ≤ 4096) : Calls Try.prog 68 #[u] w fun e w' => ∃ u', e = .returned u' ∧ RunsC w' u' R ∧ (∀ b, u'.ownBlock = some b → w.heap.size ≤ b) ∧ w.grownBy w' none := by
  rcases h.form with ⟨rfl, rfl⟩ | ⟨g, o, c, rfl, hc, hg⟩
  · have hq := eql_runs_none
    clear h
    go_enter Try.func68, Try.ntmps68
    go_wp2_with fail
    go_ret
    exact ⟨_, rfl, RunsC.nil _, (fun b hb => by cases hb), grown_refl _ _⟩
  · have hq := fun wx => eql_runs_some wx ⟨g, o, none⟩ R.length c
    have HA := Lib.hid (h.grow (World.grownBy_alloc w (.cells #[] 95) none))
    clear h
    go_enter Try.func68, Try.ntmps68
    go_wp2_with (at_builtin; refine wpList_rcopy w rfl _ _ rfl _ R w.heap.size rfl rfl rfl HA.out.1 (by omega) ?_; intro g8 c8 w8 hown8 hg8; have HO8 := Lib.hid hown8; have HG8 := Lib.hid hg8; clear hown8 hg8)
    go_ret
    exact ⟨_, rfl, ROwn.runs HO8.out, fun b hb => (OwnOf.lt HO8.out hb).1, HG8.out⟩

section
variable {w w' : World} {p : Nat} {v : Value} {L : List Int}
theorem sp_runs (h : SD w p v L) (hk : JOk L) : Calls Try.prog 64 #[.pointer (some ⟨p, 0, none⟩)] w fun e w' => ∃ u, e = .returned u ∧ RowOf runCells 3 w' u (runsJ L) ∧ (∀ b, u.ownBlock = some b → w.heap.size ≤ b) ∧ w.grownBy w' none := by
  have HA := Lib.hid (sp_all h)
  have HC := Lib.hid (clone_ok h.row (runs_le hk))
  obtain ⟨a, c, rfl, -⟩ := h.row.slice
  clear h hk
  go_enter Try.func64, Try.ntmps64
  go_wp2_with fail
  refine HA.out.mono ?_
  rintro e w2 ⟨rfl, e2⟩
  subst w2
  go_wp2_with fail
  refine HC.out.mono ?_
  rintro e w2 ⟨u, rfl, hu, ho, g2⟩
  obtain ⟨a2, c2, hv, -⟩ := hu.slice
  have HU := Lib.hid hu
  have HO := Lib.hid ho
  have HG := Lib.hid g2
  subst hv
  clear hu ho g2
  go_wp2_with fail
  go_ret
  exact ⟨_, rfl, HU.out.1, HO.out, HG.out⟩
end
end Go.Proofs.Ytfmihbiongnpnaa
