/- Package file (landed): what files are; made, mayBe, Size, check, fails, Plan, Peek, Read. -/
import Derived.Test.YtlaniifbfgcfaaaIMap
namespace Go.Proofs.Ytlaniifbfgcfaaa
open Go.ChangeShapes Go.WideShapes Go.ChangeAt Go.RowKit Go.Deep
open Extern.Stop (cell)
set_option linter.unusedVariables false

/-- Files: block p, the row of their sizes v, their map in block M. -/
structure SI (w : World) (p : Nat) (s : IS) (v : Value) (M n : Nat) : Prop where
  head : w.heap[p]? = some (.cells #[v, .map (some M), .int .i64 s.left] 64 (0, 0))
  sizes : ZOwn w 0 v s.Z
  pages : IMap w M n s.P
def blk (p : Nat) (v : Value) (M : Nat) : List Nat := p :: M :: v.ownBlock.toList
section
variable {w w' : World} {p M n : Nat} {s s' : IS} {v : Value}
theorem SI.plt (h : SI w p s v M n) : p < w.heap.size := (Array.getElem?_eq_some_iff.1 h.head).1
theorem SI.ne (h : SI w p s v M n) : M ≠ p := h.pages.ne h.head
theorem ZOwn.cells {g : Nat} {xs : List Int} (h : ZOwn w 0 v xs) (hg : v.ownBlock = some g) : ∃ cs, w.heap[g]? = some (.cells cs 3 (0, 0)) := by
  rcases h.2 with ⟨rfl, _⟩ | ⟨g', cap, cur, rfl, hb, hgg, _⟩
  · cases hg
  · have : g' = g := by simpa [Value.ownBlock] using hg
    subst this
    exact ⟨_, hgg⟩
theorem SI.vp (h : SI w p s v M n) : v.ownBlock ≠ some p := fun e => by
  obtain ⟨cs, hc⟩ := h.sizes.cells e
  have := h.head.symm.trans hc
  simp at this
theorem SI.vM (h : SI w p s v M n) : v.ownBlock ≠ some M := fun e => by
  obtain ⟨cs, hc⟩ := h.sizes.cells e
  exact h.pages.ne hc rfl
theorem SI.kept (h : SI w p s v M n) (hb : ∀ b, b ∈ blk p v M → w'.heap[b]? = w.heap[b]?) : SI w' p s v M n :=
  ⟨(hb p (by simp [blk])).trans h.head, h.sizes.kept fun g hg => hb g (by simp [blk, hg]), h.pages.kept (hb M (by simp [blk]))⟩
theorem SI.lt (h : SI w p s v M n) : ∀ b, b ∈ blk p v M → b < w.heap.size := by
  intro b hb
  simp [blk] at hb
  rcases hb with rfl | rfl | hb
  · exact h.plt
  · exact h.pages.lt
  · exact (h.sizes.lt hb).2
theorem SI.grow (h : SI w p s v M n) (k : w.grownBy w' none) : SI w' p s v M n := h.kept fun b hb => k.block b (h.lt b hb) (by simp)
theorem SI.at (h : SI w p s v M n) : w.cell? ⟨p, 0, none⟩ = some v ∧ w.cell? ⟨p, 1, none⟩ = some (.map (some M)) ∧ w.cell? ⟨p, 2, none⟩ = some (.int .i64 s.left) :=
  ⟨by rw [cell_of_row _ _ _ _ _ _ h.head]; rfl, by rw [cell_of_row _ _ _ _ _ _ h.head]; rfl, by rw [cell_of_row _ _ _ _ _ _ h.head]; rfl⟩
theorem SI.frozen (h : SI w p s v M n) (o : Nat) : w.frozen? ⟨p, o, none⟩ = false := frozen_of_row _ _ _ _ _ h.head
theorem SI.form (h : SI w p s v M n) : ∃ a c, v = .slice a s.Z.length c := (RowAt.own h.sizes).form
theorem SI.size (h : SI w p s v M n) {i : Int} (hi : s.has i) : ∃ g o c, v = .slice (some ⟨g, o, none⟩) s.Z.length c ∧ w.cell? ⟨g, o + (i - 1).toNat, none⟩ = some (.int .i64 (s.size i)) := by
  obtain ⟨g, o, c, hv, hc⟩ := RowOf.at z_len (show RowOf zCells 1 w v s.Z from RowAt.own h.sizes) (IS.size_get hi)
  refine ⟨g, o, c, hv, ?_⟩
  have := hc 0 _ rfl
  rwa [Nat.mul_one, Nat.add_zero] at this
/-- The plan turns, and nothing else. -/
theorem SI.put (h : SI w p s v M n) (q : Int) : SI (w.setCell ⟨p, 2, none⟩ (.int .i64 q)) p ⟨s.Z, s.P, q⟩ v M n := by
  have ho : ∀ b, b ≠ p → (w.setCell ⟨p, 2, none⟩ (.int .i64 q)).heap[b]? = w.heap[b]? := fun b hb => heap_setCell_other w ⟨p, 2, none⟩ b _ (by first | exact hb | exact hb.symm)
  exact ⟨heap_setCell_same w p 2 _ _ (.int .i64 q) h.head, h.sizes.kept fun g hg => ho g (fun e => h.vp (e ▸ hg)), h.pages.kept (ho M h.ne)⟩

theorem neq_st10 (w : World) (a : Addr) : (binOp .neq 25 (.pointer (some a)) (.pointer none)).run Try.prog w = .ok (.bool true) w := by
  have h1 : ∀ d : Nat, (Op.equalIn (d + 1) 25 (.pointer (some a)) (.pointer none)).run Try.prog w = .ok false w := fun d => by
    simp [Op.equalIn, run_underlying Try.underlying25]
  simp only [binOp]
  simp [Op.equal, Op.maxDepth, h1 9999]
theorem neq_map10 (w : World) (b : Nat) : (binOp .neq 62 (.map (some b)) (.map none)).run Try.prog w = .ok (.bool true) w := by
  have h1 : ∀ d : Nat, (Op.equalIn (d + 1) 62 (.map (some b)) (.map none)).run Try.prog w = .ok false w := fun d => by
    simp [Op.equalIn, run_underlying Try.underlying62]
  simp only [binOp]
  simp [Op.equal, Op.maxDepth, h1 9999]
theorem made_ok (h : SI w p s v M n) : Calls Try.prog 30 #[.pointer (some ⟨p, 0, none⟩)] w fun e w' => e = .returned (.bool true) ∧ w' = w := by
  obtain ⟨c0, c1, c2⟩ := h.at
  have q1 := neq_st10
  have q2 := neq_map10
  clear h
  go_enter Try.func30, Try.ntmps30
  go_wp2_with fail
  go_ret
  exact ⟨rfl, rfl⟩
theorem mayBe_ok (w : World) (n : Int) (b : Bool) (hb : decide (0 ≤ n ∧ n ≤ 4096) = b) : Calls Try.prog 31 #[.int .i64 n] w fun e w' => e = .returned (.bool b) ∧ w' = w := by
  have hb2 : b = (decide (n ≥ 0) && decide (n ≤ 4096)) := by
    rw [← hb, ← Bool.decide_and]
  clear hb
  by_cases h0 : n ≥ 0
  · have d0 : decide (n ≥ 0) = true := decide_eq_true h0
    have d1 : decide (0 ≤ n) = true := decide_eq_true h0
    have HB : Hid (b = decide (n ≤ 4096)) := Lib.hid (by rw [hb2, d0]; rfl)
    clear hb2 h0
    go_enter Try.func31, Try.ntmps31
    go_wp2_with fail
    go_ret
    exact ⟨by rw [HB.out]; rfl, rfl⟩
  · have d0 : decide (n ≥ 0) = false := decide_eq_false h0
    have d1 : decide (0 ≤ n) = false := decide_eq_false h0
    have HB : Hid (b = false) := Lib.hid (by rw [hb2, d0]; rfl)
    clear hb2 h0
    go_enter Try.func31, Try.ntmps31
    go_wp2_with fail
    go_ret
    exact ⟨by rw [HB.out]; rfl, rfl⟩

theorem fl_size (h : SI w p s v M n) (hlen : s.Z.length ≤ 16) (i : Int) (hi : okI i) :
    Calls Try.prog 24 #[.pointer (some ⟨p, 0, none⟩), .int .i64 i] w fun e w' => e = .returned (.tuple #[.int .i64 (sizeI s i).1, .bool (sizeI s i).2]) ∧ w' = w := by
  obtain ⟨c0, c1, c2⟩ := h.at
  have HM := Lib.hid (made_ok h)
  by_cases hs : s.has i
  · obtain ⟨m, hm⟩ := Int.eq_ofNat_of_zero_le (show 0 ≤ i - 1 by have := hs.1; omega)
    obtain ⟨g, o, c, hv, hc⟩ := h.size hs
    rw [show sizeI s i = (s.size i, true) from if_pos hs]
    obtain ⟨Q, hQ⟩ : ∃ Q, s.size i = Q := ⟨_, rfl⟩
    rw [hQ] at hc ⊢
    rw [show (i - 1).toNat = m by omega] at hc
    obtain rfl : i = m + 1 := by omega
    subst hv
    have hm2 : m < s.Z.length := by have := hs.2; omega
    have d0 : decide ((m : Int) + 1 < 1) = false := decide_eq_false (by omega)
    have d1 : decide ((m : Int) + 1 > (s.Z.length : Int)) = false := decide_eq_false (by omega)
    have d2 : (m : Int) + 1 - 1 = m := by omega
    have d3 : decide (s.Z.length ≤ m) = false := decide_eq_false (by omega)
    clear h hs hQ hm hi
    go_enter Try.func24, Try.ntmps24
    go_wp2_with fail
    refine HM.out.mono ?_
    rintro e w2 ⟨rfl, e2⟩
    subst w2
    go_wp2_with fail
    go_ret2
    exact ⟨rfl, rfl⟩
  · rw [show sizeI s i = (0, false) from if_neg hs]
    obtain ⟨a, c, e1⟩ := h.form
    subst e1
    unfold IS.has at hs
    rcases (show i < 1 ∨ (¬ i < 1 ∧ i > (s.Z.length : Int)) by omega) with h1 | ⟨h1, h2⟩
    · have d0 : decide (i < 1) = true := decide_eq_true h1
      clear h hs h1 hi
      go_enter Try.func24, Try.ntmps24
      go_wp2_with fail
      refine HM.out.mono ?_
      rintro e w2 ⟨rfl, e2⟩
      subst w2
      go_wp2_with fail
      go_ret2
      exact ⟨rfl, rfl⟩
    · have d0 : decide (i < 1) = false := decide_eq_false h1
      have d1 : decide (i > (s.Z.length : Int)) = true := decide_eq_true h2
      clear h hs h1 h2 hi
      go_enter Try.func24, Try.ntmps24
      go_wp2_with fail
      refine HM.out.mono ?_
      rintro e w2 ⟨rfl, e2⟩
      subst w2
      go_wp2_with fail
      go_ret2
      exact ⟨rfl, rfl⟩

/-- What is wrong with a page's place. -/
def chkI (s : IS) (i n : Int) : Int := if s.has i then (if s.page i n then 0 else 2) else 7
theorem fl_check (h : SI w p s v M n) (hlen : s.Z.length ≤ 16) (i q : Int) (hi : okI i) :
    Calls Try.prog 33 #[.pointer (some ⟨p, 0, none⟩), .int .i64 i, .int .i64 q] w fun e w' => e = .returned (.int .i64 (chkI s i q)) ∧ w' = w := by
  have HM := Lib.hid (made_ok h)
  have hz := fl_size h hlen i hi
  by_cases hs : s.has i
  · rw [show sizeI s i = (s.size i, true) from if_pos hs] at hz
    have HZ := Lib.hid hz
    by_cases hp : s.page i q
    · rw [show chkI s i q = 0 by unfold chkI; rw [if_pos hs, if_pos hp]]
      have d0 : decide (q < 0) = false := decide_eq_false (by have := hp.2.1; omega)
      have d1 : decide (q ≥ s.size i) = false := decide_eq_false (by have := hp.2.2; omega)
      obtain ⟨Q, hQ⟩ : ∃ Q, s.size i = Q := ⟨_, rfl⟩
      rw [hQ] at HZ d1
      clear h hs hp hz hQ
      go_enter Try.func33, Try.ntmps33
      go_wp2_with fail
      refine HM.out.mono ?_
      rintro e w2 ⟨rfl, e2⟩
      subst w2
      go_wp2_with fail
      refine HZ.out.mono ?_
      rintro e w2 ⟨rfl, e2⟩
      subst w2
      go_wp2_with fail
      go_ret
      exact ⟨rfl, rfl⟩
    · rw [show chkI s i q = 2 by unfold chkI; rw [if_pos hs, if_neg hp]]
      obtain ⟨Q, hQ⟩ : ∃ Q, s.size i = Q := ⟨_, rfl⟩
      have hp2 : q < 0 ∨ (¬ q < 0 ∧ q ≥ Q) := by
        by_cases h1 : q < 0
        · exact .inl h1
        · refine .inr ⟨h1, ?_⟩
          by_cases h2 : q ≥ Q
          · exact h2
          · exact absurd (show s.page i q from ⟨hs, by omega, by omega⟩) hp
      rw [hQ] at HZ
      clear h hs hp hz hQ
      rcases hp2 with h1 | ⟨h1, h2⟩
      · have d0 : decide (q < 0) = true := decide_eq_true h1
        clear h1
        go_enter Try.func33, Try.ntmps33
        go_wp2_with fail
        refine HM.out.mono ?_
        rintro e w2 ⟨rfl, e2⟩
        subst w2
        go_wp2_with fail
        refine HZ.out.mono ?_
        rintro e w2 ⟨rfl, e2⟩
        subst w2
        go_wp2_with fail
        go_ret
        exact ⟨rfl, rfl⟩
      · have d0 : decide (q < 0) = false := decide_eq_false h1
        have d1 : decide (q ≥ Q) = true := decide_eq_true h2
        clear h1 h2
        go_enter Try.func33, Try.ntmps33
        go_wp2_with fail
        refine HM.out.mono ?_
        rintro e w2 ⟨rfl, e2⟩
        subst w2
        go_wp2_with fail
        refine HZ.out.mono ?_
        rintro e w2 ⟨rfl, e2⟩
        subst w2
        go_wp2_with fail
        go_ret
        exact ⟨rfl, rfl⟩
  · rw [show sizeI s i = (0, false) from if_neg hs] at hz
    have HZ := Lib.hid hz
    rw [show chkI s i q = 7 from if_neg hs]
    clear h hs hz
    go_enter Try.func33, Try.ntmps33
    go_wp2_with fail
    refine HM.out.mono ?_
    rintro e w2 ⟨rfl, e2⟩
    subst w2
    go_wp2_with fail
    refine HZ.out.mono ?_
    rintro e w2 ⟨rfl, e2⟩
    subst w2
    go_wp2_with fail
    go_ret
    exact ⟨rfl, rfl⟩

theorem fl_fails (h : SI w p s v M n) (hk : s.Ok) :
    Calls Try.prog 34 #[.pointer (some ⟨p, 0, none⟩)] w fun e w' => e = .returned (.bool (decide (s.left = 1))) ∧ SI w' p (failI s) v M n ∧ w.grownBy w' (some p) := by
  obtain ⟨c0, c1, c2⟩ := h.at
  have f2 := h.frozen 2
  have p0 := hk.left0
  have p1 := hk.left1
  by_cases hz : s.left = 0
  · have H2 := Lib.hid (show SI w p (failI s) v M n by
      have e : failI s = s := by unfold failI decI; rw [if_pos hz]; obtain ⟨a, b, c⟩ := s; simp only at hz; rw [hz]
      rw [e]; exact h)
    rw [hz] at c2 ⊢
    clear h hk hz p0 p1
    go_enter Try.func34, Try.ntmps34
    go_wp2_with fail
    go_ret
    exact ⟨rfl, H2.out, grown_refl _ _⟩
  · have hzb : (s.left == 0) = false := by simpa using hz
    have H2 := Lib.hid (show SI (w.setCell ⟨p, 2, none⟩ (.int .i64 (s.left - 1))) p (failI s) v M n by
      have e : failI s = ⟨s.Z, s.P, s.left - 1⟩ := by unfold failI decI; rw [if_neg hz]
      rw [e]; exact h.put _)
    have HG := Lib.hid (grown_set w p 2 (.int .i64 (s.left - 1)))
    have hd : (s.left - 1 == 0) = decide (s.left = 1) := by
      by_cases e : s.left = 1
      · rw [e]; rfl
      · rw [decide_eq_false e]; exact beq_eq_false_iff_ne.2 (by omega)
    obtain ⟨d, hd2⟩ : ∃ d, decide (s.left = 1) = d := ⟨_, rfl⟩
    rw [hd2] at hd ⊢
    clear h hk hd2
    go_enter Try.func34, Try.ntmps34
    go_wp2_with fail
    go_ret
    exact ⟨rfl, H2.out, HG.out⟩

theorem fl_plan (h : SI w p s v M n) (q : Int) :
    Calls Try.prog 22 #[.pointer (some ⟨p, 0, none⟩), .int .i64 q] w fun e w' => e = .returned (.int .i64 (planI s q).1) ∧ SI w' p (planI s q).2 v M n ∧ w.grownBy w' (some p) := by
  obtain ⟨c0, c1, c2⟩ := h.at
  have f2 := h.frozen 2
  have HM := Lib.hid (made_ok h)
  by_cases hn : q < 0
  · rw [show planI s q = (2, s) from if_pos hn]
    have HH := Lib.hid h
    have d : decide (q < 0) = true := decide_eq_true hn
    clear h hn
    go_enter Try.func22, Try.ntmps22
    go_wp2_with fail
    refine HM.out.mono ?_
    rintro e w2 ⟨rfl, e2⟩
    subst w2
    go_wp2_with fail
    go_ret
    exact ⟨rfl, HH.out, grown_refl _ _⟩
  · rw [show planI s q = (0, ⟨s.Z, s.P, q⟩) from if_neg hn]
    have d : decide (q < 0) = false := decide_eq_false hn
    have H2 := Lib.hid (h.put q)
    have HG := Lib.hid (grown_set w p 2 (.int .i64 q))
    clear h hn
    go_enter Try.func22, Try.ntmps22
    go_wp2_with fail
    refine HM.out.mono ?_
    rintro e w2 ⟨rfl, e2⟩
    subst w2
    go_wp2_with fail
    go_ret
    exact ⟨rfl, H2.out, HG.out⟩

set_option maxHeartbeats 1000000 in
theorem fl_peek (h : SI w p s v M n) (hk : s.Ok) (i q : Int) (hi : okI i) (hq : okI q) : Calls Try.prog 26 #[.pointer (some ⟨p, 0, none⟩), .int .i64 i, .int .i64 q] w fun e w' => ∃ u, e = .returned u ∧ Fresh w w' (blk p v M) u (peekI s i q) ∧ w.grownBy w' none := by
  obtain ⟨c0, c1, c2⟩ := h.at
  have hch := fl_check h hk.len i q hi
  by_cases hs : s.page i q
  · rw [show chkI s i q = 0 by unfold chkI; rw [if_pos hs.1, if_pos hs]] at hch
    have HH := Lib.hid hch
    have hpk : peekI s i q = s.P i q := if_pos hs
    rw [hpk]
    have hpl := hk.bytes i q
    have hlook := h.pages.look hi hq
    obtain ⟨pg, hpg⟩ : ∃ pg, s.P i q = pg := ⟨_, rfl⟩
    rw [hpg] at hpl hlook ⊢
    have hz := zero_page
    have hst := run_cells_page w pageZ pg pageZ_length hpl
    have hst2 := run_store_page w pageZ pg pageZ_length hpl
    have hxs := pgC_size hpl
    have hsl := run_slice_page
    have HG := Lib.hid (World.grownBy_alloc w (.cells (pgC pg) 78 (0, 0)) none)
    have HBs := Lib.hid (show Bs (w.alloc (.cells (pgC pg) 78 (0, 0))) w.heap.size pg from ⟨_, _, heap_alloc_new w _, by rw [pgC_size hpl, hpl]; exact Nat.le_refl _, by
      rw [hpl, List.take_of_length_le (by rw [Array.length_toList, pgC_size hpl]; exact Nat.le_refl _)]
      rfl⟩)
    have HPl := Lib.hid hpl
    have HL := Lib.hid h.lt
    obtain ⟨X, hX⟩ : ∃ X, pgC pg = X := ⟨_, rfl⟩
    obtain ⟨Z, hZ⟩ : ∃ Z, pgC pageZ = Z := ⟨_, rfl⟩
    rw [hX] at hlook hst hst2 hxs HG HBs
    rw [hZ] at hst hst2 hz
    clear h hs hk hpk hpl hX hZ hpg hch
    go_enter Try.func26, Try.ntmps26
    go_wp2_with fail
    refine HH.out.mono ?_
    rintro e w2 ⟨rfl, e2⟩
    subst w2
    go_wp2_with fail
    go_ret
    exact ⟨.slice (some ⟨w.heap.size, 0, none⟩) 4096 4096, rfl, ⟨some ⟨w.heap.size, 0, none⟩, 4096, by rw [HPl.out], .inr ⟨w.heap.size, rfl, Nat.le_refl _, fun hm => absurd (HL.out _ hm) (Nat.lt_irrefl _), HBs.out⟩⟩, HG.out⟩
  · have hpk : peekI s i q = [] := if_neg hs
    rw [hpk]
    have hc : chkI s i q = 7 ∨ chkI s i q = 2 := by unfold chkI; split <;> simp [hs]
    rcases hc with hc | hc
    all_goals
      rw [hc] at hch
      have HH := Lib.hid hch
      clear h hs hk hpk hc hch
      go_enter Try.func26, Try.ntmps26
      go_wp2_with fail
      refine HH.out.mono ?_
      rintro e w2 ⟨rfl, e2⟩
      subst w2
      go_wp2_with fail
      go_ret
      exact ⟨_, rfl, Fresh.nil _ _ _ _ _, grown_refl _ _⟩

set_option maxHeartbeats 1000000 in
theorem fl_read (h : SI w p s v M n) (hk : s.Ok) (i q : Int) (hi : okI i) (hq : okI q) :
    Calls Try.prog 16 #[.pointer (some ⟨p, 0, none⟩), .int .i64 i, .int .i64 q] w fun e w' => ∃ u, e = .returned (.tuple #[u, .int .i64 (readI s i q).1]) ∧ Fresh w w' (blk p v M) u (readI s i q).2.1 ∧ SI w' p (readI s i q).2.2 v M n ∧ w.grownBy w' (some p) := by
  have hch := fl_check h hk.len i q hi
  by_cases hs : s.page i q
  · rw [show chkI s i q = 0 by unfold chkI; rw [if_pos hs.1, if_pos hs]] at hch
    have HC := Lib.hid hch
    have hf := fl_fails h hk
    by_cases h1 : s.left = 1
    · rw [show readI s i q = (6, [], failI s) by unfold readI; rw [if_pos hs.1, if_pos hs, if_pos h1]]
      rw [decide_eq_true h1] at hf
      have HF := Lib.hid hf
      clear h hs hk h1 hch hf
      go_enter Try.func16, Try.ntmps16
      go_wp2_with fail
      refine HC.out.mono ?_
      rintro e w2 ⟨rfl, e2⟩
      subst w2
      go_wp2_with fail
      refine HF.out.mono ?_
      rintro e w2 ⟨rfl, h2, g2⟩
      have H2 := Lib.hid h2
      have HG := Lib.hid g2
      clear h2 g2
      go_wp2_with fail
      go_ret2
      exact ⟨_, rfl, Fresh.nil _ _ _ _ _, H2.out, HG.out⟩
    · have hpk : peekI (failI s) i q = s.P i q := if_pos (show (failI s).page i q from hs)
      rw [show readI s i q = (0, s.P i q, failI s) by unfold readI; rw [if_pos hs.1, if_pos hs, if_neg h1], ← hpk]
      rw [decide_eq_false h1] at hf
      have HF := Lib.hid hf
      have HK := Lib.hid hk.fail
      clear h hs hk h1 hch hf hpk
      go_enter Try.func16, Try.ntmps16
      go_wp2_with fail
      refine HC.out.mono ?_
      rintro e w2 ⟨rfl, e2⟩
      subst w2
      go_wp2_with fail
      refine HF.out.mono ?_
      rintro e w2 ⟨rfl, h2, g2⟩
      have HP := Lib.hid (fl_peek h2 HK.out i q hi hq)
      have H2 := Lib.hid h2
      have HG := Lib.hid g2
      clear h2 g2
      go_wp2_with fail
      refine HP.out.mono ?_
      rintro e w3 ⟨u, rfl, f3, g3⟩
      have H3 := Lib.hid (H2.out.grow g3)
      have HG3 := Lib.hid (grown_trans HG.out (grown_none g3))
      have HF3 := Lib.hid (show Fresh w w3 (blk p v M) u (peekI (failI s) i q) by
        obtain ⟨a, c, e, h0 | ⟨g, e2, hg, hr⟩⟩ := f3
        · exact ⟨a, c, e, .inl h0⟩
        · exact ⟨a, c, e, .inr ⟨g, e2, Nat.le_trans HG.out.size hg, hr⟩⟩)
      clear f3 g3 HP
      go_wp2_with fail
      go_ret2
      exact ⟨u, rfl, HF3.out, H3.out, HG3.out⟩
  · have hrd : readI s i q = (chkI s i q, [], s) := by
      unfold readI chkI
      split <;> simp [hs]
    have hc : chkI s i q = 7 ∨ chkI s i q = 2 := by unfold chkI; split <;> simp [hs]
    rw [hrd]
    have HH := Lib.hid h
    rcases hc with hc | hc
    all_goals
      rw [hc] at hch ⊢
      have HC := Lib.hid hch
      clear h hs hk hrd hc hch
      go_enter Try.func16, Try.ntmps16
      go_wp2_with fail
      refine HC.out.mono ?_
      rintro e w2 ⟨rfl, e2⟩
      subst w2
      go_wp2_with fail
      go_ret2
      exact ⟨_, rfl, Fresh.nil _ _ _ _ _, HH.out, grown_refl _ _⟩
end
end Go.Proofs.Ytlaniifbfgcfaaa
