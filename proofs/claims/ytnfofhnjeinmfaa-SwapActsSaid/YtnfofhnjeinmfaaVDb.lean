/- Package swap (landed): New, fails, Plan, Count, Places, Read. -/
import Derived.Test.YtnfofhnjeinmfaaVDa
namespace Go.Proofs.Ytnfofhnjeinmfaa
open Go.ChangeShapes Go.WideShapes Go.ChangeAt Go.RowKit Go.Deep
open Extern.Stop (cell)
set_option linter.unusedVariables false

theorem sw_new_no (n : Int) (w : World) (h : ¬ (0 ≤ n ∧ n ≤ 256)) : Calls Try.prog 10 #[.int .i64 n] w fun e w' => e = .returned (.pointer none) ∧ w.grownBy w' none := by
  rcases (show n < 0 ∨ (¬ n < 0 ∧ 256 < n) by omega) with h1 | ⟨h1, h2⟩
  all_goals
    clear h
    go_enter Try.func10, Try.ntmps10
    go_wp2_with fail
    go_ret
    exact ⟨rfl, grown_refl _ _⟩
theorem sw_new_ok (n : Nat) (w : World) (hn : n ≤ 256) :
    Calls Try.prog 10 #[.int .i64 (n : Int)] w fun e w' => ∃ p M, e = .returned (.pointer (some ⟨p, 0, none⟩)) ∧ SD w' p (newV n) M 0 ∧ w.grownBy w' none ∧ ∀ b, b ∈ [p, M] → w.heap.size ≤ b := by
  have hmk : (Instr.makeMap 56 none).run Try.prog w = .ok (.map (some w.heap.size)) (w.alloc (.map #[] 0)) := rfl
  have hm := PMap.made w n
  have ga := World.grownBy_alloc w (.map #[] 0) none
  have hsz := World.size_alloc w (.map #[] 0)
  generalize hwA : w.alloc (.map #[] 0) = wA at *
  have gb := World.grownBy_alloc wA (.cells #[.int .i64 (n : Int), .map (some w.heap.size), .int .i64 0, .int .i64 0, .int .i64 0, .int .i64 0] 60) none
  have hb := heap_alloc_new wA (.cells #[.int .i64 (n : Int), .map (some w.heap.size), .int .i64 0, .int .i64 0, .int .i64 0, .int .i64 0] 60)
  have HS := Lib.hid (show SD _ wA.heap.size (newV n) w.heap.size 0 from ⟨by rw [hb]; simp [newV], hm.kept (gb.block _ hm.lt (by simp)), by simp [newV]; exact hn, fun q hq => by rw [(List.mem_replicate.1 hq).2]; exact pageZ_length⟩)
  have HG := Lib.hid (grown_trans ga gb)
  have HZ := Lib.hid hsz
  have d0 : decide ((n : Int) < 0) = false := decide_eq_false (by omega)
  have d1 : decide ((n : Int) > 256) = false := decide_eq_false (by omega)
  clear hm ga gb hb hsz
  go_enter Try.func10, Try.ntmps10
  go_wp2_with fail
  go_ret
  exact ⟨_, _, rfl, HS.out, HG.out, by intro b hb; have := HZ.out; simp at hb; omega⟩

section
variable {w w' : World} {p M n : Nat} {s s' : VS}
theorem SD.frozen (h : SD w p s M n) (o : Nat) : w.frozen? ⟨p, o, none⟩ = false := frozen_of_row _ _ _ _ _ h.head
theorem SD.put (h : SD w p s M n) (hL : s'.L = s.L) (hh : w'.heap[p]? = some (.cells #[.int .i64 (s.L.length : Int), .map (some M), .int .i64 s'.cw, .int .i64 s'.pw, .int .i64 s'.cr, .int .i64 s'.pr] 60 (0, 0))) (k : w.grownBy w' (some p)) : SD w' p s' M n := by
  refine ⟨by rw [hL]; exact hh, by rw [hL]; exact h.pages.kept (k.block M h.pages.lt (fun e => h.ne (Option.some.inj e))), by rw [hL]; exact h.len, by rw [hL]; exact h.page⟩
theorem sw_count (h : SD w p s M n) : Calls Try.prog 20 #[.pointer (some ⟨p, 0, none⟩)] w fun e w' => e = .returned (.tuple #[.int .i64 s.cw, .int .i64 s.cr]) ∧ w.grownBy w' none := by
  obtain ⟨c0, c1, c2, c3, c4, c5⟩ := h.at
  have q1 := eql_dev9
  clear h
  go_enter Try.func20, Try.ntmps20
  go_wp2_with fail
  try go_quiet (fail)
  go_wp2_with fail
  go_ret2
  exact ⟨rfl, by first | exact grown_refl _ _ | exact grown_draws _ _⟩
theorem set_ok {w : World} {p : Nat} {cs : Array Value} {t : TypeId} (o : Nat) (x y : Int) (hh : w.heap[p]? = some (.cells cs t (0, 0))) (hx : cs[o + 1]? = some (.int .i64 y)) : Calls Try.prog 29 #[.pointer (some ⟨p, o, none⟩), .int .i64 x] w fun e w' => e = .returned (.tuple #[]) ∧ w' = w.setCell ⟨p, o + 1, none⟩ (.int .i64 x) := by
  have c0 : w.cell? ⟨p, o + 1, none⟩ = some (.int .i64 y) := by rw [cell_of_row _ _ _ _ _ _ hh]; exact hx
  have f0 : w.frozen? ⟨p, o + 1, none⟩ = false := frozen_of_row _ _ _ _ _ hh
  clear hh hx
  go_enter Try.func29, Try.ntmps29
  go_wp2_with fail
  first
    | go_ret
      exact ⟨rfl, rfl⟩
    | go_end0
      exact ⟨rfl, rfl⟩
theorem sw_plan (h : SD w p s M n) (b : Bool) (q : Int) : Calls Try.prog 18 #[.pointer (some ⟨p, 0, none⟩), .bool b, .int .i64 q] w fun e w' => e = .returned (.int .i64 (planV s b q).1) ∧ SD w' p (planV s b q).2 M n ∧ w.grownBy w' (some p) := by
  obtain ⟨c0, c1, c2, c3, c4, c5⟩ := h.at
  have f2 := h.frozen 3
  have f4 := h.frozen 5
  have HM := Lib.hid (made_ok h)
  by_cases hn : q < 0
  · rw [show planV s b q = (2, s) from if_pos hn]
    have HH := Lib.hid h
    have d : decide (q < 0) = true := decide_eq_true hn
    clear h hn
    go_enter Try.func18, Try.ntmps18
    go_wp2_with fail
    refine HM.out.mono ?_
    rintro e w2 ⟨rfl, e2⟩
    subst w2
    go_wp2_with fail
    go_ret
    exact ⟨rfl, HH.out, grown_refl _ _⟩
  · have d : decide (q < 0) = false := decide_eq_false hn
    cases b
    · rw [show planV s false q = (0, ⟨s.L, q, s.pw, s.cr, s.cw⟩) by unfold planV; rw [if_neg hn]; rfl]
      have H2 := Lib.hid (h.put (s' := ⟨s.L, q, s.pw, s.cr, s.cw⟩) rfl (heap_setCell_same w p 5 _ _ (.int .i64 q) h.head) (grown_set w p 5 _))
      have HG := Lib.hid (grown_set w p 5 (.int .i64 q))
      have HS := Lib.hid (set_ok (w := w) (p := p) 4 q s.pr h.head rfl)
      clear h hn
      go_enter Try.func18, Try.ntmps18
      go_wp2_with fail
      refine HM.out.mono ?_
      rintro e w2 ⟨rfl, e2⟩
      subst w2
      go_wp2_with fail
      refine HS.out.mono ?_
      rintro e w2 ⟨rfl, e2⟩
      subst w2
      go_wp2_with fail
      go_ret
      exact ⟨rfl, H2.out, HG.out⟩
    · rw [show planV s true q = (0, ⟨s.L, s.pr, q, s.cr, s.cw⟩) by unfold planV; rw [if_neg hn]; rfl]
      have H2 := Lib.hid (h.put (s' := ⟨s.L, s.pr, q, s.cr, s.cw⟩) rfl (heap_setCell_same w p 3 _ _ (.int .i64 q) h.head) (grown_set w p 3 _))
      have HG := Lib.hid (grown_set w p 3 (.int .i64 q))
      have HS := Lib.hid (set_ok (w := w) (p := p) 2 q s.pw h.head rfl)
      clear h hn
      go_enter Try.func18, Try.ntmps18
      go_wp2_with fail
      refine HM.out.mono ?_
      rintro e w2 ⟨rfl, e2⟩
      subst w2
      go_wp2_with fail
      refine HS.out.mono ?_
      rintro e w2 ⟨rfl, e2⟩
      subst w2
      go_wp2_with fail
      go_ret
      exact ⟨rfl, H2.out, HG.out⟩

theorem sw_failW (h : SD w p s M n) {k : Int} (hk : s.Ok k) (hk2 : k ≤ 1000000) :
    Calls Try.prog 27 #[.pointer (some ⟨p, 2, none⟩)] w fun e w' => e = .returned (.bool (decide (s.pw = 1))) ∧ SD w' p (failW s) M n ∧ w.grownBy w' (some p) := by
  obtain ⟨c0, c1, c2, c3, c4, c5⟩ := h.at
  have f2 := h.frozen 2
  have f3 := h.frozen 3
  have p0 := hk.pw0
  have p1 := hk.pw1
  have n0 := hk.cw0
  have n1 := hk.cw1
  have t1 := heap_setCell_same w p 2 _ _ (.int .i64 (s.cw + 1)) h.head
  have t2 := heap_setCell_same _ p 3 _ _ (.int .i64 (s.pw - 1)) t1
  by_cases hz : s.pw = 0
  · have H2 := Lib.hid (h.put (s' := failW s) rfl (by unfold failW decV; rw [if_pos hz]; simp only; rw [hz] at t1; exact t1) (grown_set w p 2 (.int .i64 (s.cw + 1))))
    have HG := Lib.hid (grown_set w p 2 (.int .i64 (s.cw + 1)))
    rw [hz] at c3 ⊢
    clear h t1 t2 hk
    go_enter Try.func27, Try.ntmps27
    go_wp2_with fail
    go_ret
    exact ⟨rfl, H2.out, HG.out⟩
  · have hzb : (s.pw == 0) = false := by simpa using hz
    have HG := Lib.hid (grown_trans (grown_set w p 2 (.int .i64 (s.cw + 1))) (grown_set _ p 3 (.int .i64 (s.pw - 1))))
    have H2 := Lib.hid (h.put (s' := failW s) rfl (by unfold failW decV; rw [if_neg hz]; exact t2) HG.out)
    have hd : (s.pw - 1 == 0) = decide (s.pw = 1) := by
      by_cases e : s.pw = 1
      · rw [e]; rfl
      · rw [decide_eq_false e]; exact beq_eq_false_iff_ne.2 (by omega)
    obtain ⟨d, hd2⟩ : ∃ d, decide (s.pw = 1) = d := ⟨_, rfl⟩
    rw [hd2] at hd ⊢
    clear h t1 t2 hk hd2
    go_enter Try.func27, Try.ntmps27
    go_wp2_with fail
    go_ret
    exact ⟨rfl, H2.out, HG.out⟩
theorem sw_failR (h : SD w p s M n) {k : Int} (hk : s.Ok k) (hk2 : k ≤ 1000000) :
    Calls Try.prog 27 #[.pointer (some ⟨p, 4, none⟩)] w fun e w' => e = .returned (.bool (decide (s.pr = 1))) ∧ SD w' p (failR s) M n ∧ w.grownBy w' (some p) := by
  obtain ⟨c0, c1, c2, c3, c4, c5⟩ := h.at
  have f2 := h.frozen 4
  have f3 := h.frozen 5
  have p0 := hk.pr0
  have p1 := hk.pr1
  have n0 := hk.cr0
  have n1 := hk.cr1
  have t1 := heap_setCell_same w p 4 _ _ (.int .i64 (s.cr + 1)) h.head
  have t2 := heap_setCell_same _ p 5 _ _ (.int .i64 (s.pr - 1)) t1
  by_cases hz : s.pr = 0
  · have H2 := Lib.hid (h.put (s' := failR s) rfl (by unfold failR decV; rw [if_pos hz]; simp only; rw [hz] at t1; exact t1) (grown_set w p 4 (.int .i64 (s.cr + 1))))
    have HG := Lib.hid (grown_set w p 4 (.int .i64 (s.cr + 1)))
    rw [hz] at c5 ⊢
    clear h t1 t2 hk
    go_enter Try.func27, Try.ntmps27
    go_wp2_with fail
    go_ret
    exact ⟨rfl, H2.out, HG.out⟩
  · have hzb : (s.pr == 0) = false := by simpa using hz
    have HG := Lib.hid (grown_trans (grown_set w p 4 (.int .i64 (s.cr + 1))) (grown_set _ p 5 (.int .i64 (s.pr - 1))))
    have H2 := Lib.hid (h.put (s' := failR s) rfl (by unfold failR decV; rw [if_neg hz]; exact t2) HG.out)
    have hd : (s.pr - 1 == 0) = decide (s.pr = 1) := by
      by_cases e : s.pr = 1
      · rw [e]; rfl
      · rw [decide_eq_false e]; exact beq_eq_false_iff_ne.2 (by omega)
    obtain ⟨d, hd2⟩ : ∃ d, decide (s.pr = 1) = d := ⟨_, rfl⟩
    rw [hd2] at hd ⊢
    clear h t1 t2 hk hd2
    go_enter Try.func27, Try.ntmps27
    go_wp2_with fail
    go_ret
    exact ⟨rfl, H2.out, HG.out⟩
set_option maxHeartbeats 1000000 in
theorem sw_read (h : SD w p s M n) {k : Int} (hk : s.Ok k) (hk2 : k ≤ 1000000) (i : Int) :
    Calls Try.prog 15 #[.pointer (some ⟨p, 0, none⟩), .int .i64 i] w fun e w' => ∃ u, e = .returned (.tuple #[u, .int .i64 (readV s i).1]) ∧ Fresh w w' [p, M] u (readV s i).2.1 ∧ SD w' p (readV s i).2.2 M n ∧ w.grownBy w' (some p) := by
  obtain ⟨c0, c1, c2, c3, c4, c5⟩ := h.at
  have HM := Lib.hid (made_ok h)
  have HF := Lib.hid (sw_failR h hk hk2)
  have HH := Lib.hid h
  have hlen := h.len
  by_cases hs : s.has i
  · have HA := Lib.hid (has_ok h i true (decide_eq_true hs))
    obtain ⟨m, rfl⟩ := Int.eq_ofNat_of_zero_le hs.1
    have hm : m < s.L.length := by have := hs.2; omega
    have d0 : decide ((m : Int) < 0) = false := decide_eq_false (by omega)
    have d1 : decide ((m : Int) ≥ (s.L.length : Int)) = false := decide_eq_false (by omega)
    have d2 : decide (s.L.length ≤ m) = false := decide_eq_false (by omega)
    by_cases h1 : s.pr = 1
    · rw [show readV s m = (6, [], failR s) by unfold readV failR decV; rw [if_pos hs, if_pos h1, if_neg (by omega), h1]; rfl]
      rw [decide_eq_true h1] at HF
      clear h hs hk h1
      go_enter Try.func15, Try.ntmps15
      go_wp2_with fail
      refine HM.out.mono ?_
      rintro e w2 ⟨rfl, e2⟩
      subst w2
      go_wp2_with fail
      refine HA.out.mono ?_
      rintro e w2 ⟨rfl, e2⟩
      subst w2
      go_wp2_with fail
      refine HF.out.mono ?_
      rintro e w2 ⟨rfl, h2, g2⟩
      have H2 := Lib.hid h2
      have HG := Lib.hid g2
      clear h2 g2
      go_wp2_with fail
      go_ret2
      exact ⟨_, rfl, Fresh.nil _ _ _ _ _, H2.out, HG.out⟩
    · have hrd : readV s m = (0, peekV (failR s) m, failR s) := by
        have hs2 : (failR s).has m := hs
        unfold readV peekV
        rw [if_pos hs, if_neg h1, if_pos hs2]
        rfl
      rw [hrd]
      rw [decide_eq_false h1] at HF
      clear h hs hk h1 hrd
      go_enter Try.func15, Try.ntmps15
      go_wp2_with fail
      refine HM.out.mono ?_
      rintro e w2 ⟨rfl, e2⟩
      subst w2
      go_wp2_with fail
      refine HA.out.mono ?_
      rintro e w2 ⟨rfl, e2⟩
      subst w2
      go_wp2_with fail
      refine HF.out.mono ?_
      rintro e w2 ⟨rfl, h2, g2⟩
      have HP := Lib.hid (sw_peek h2 m)
      have H2 := Lib.hid h2
      have HG := Lib.hid g2
      clear h2 g2
      go_wp2_with fail
      refine HP.out.mono ?_
      rintro e w3 ⟨u, rfl, f3, g3⟩
      have H3 := Lib.hid (H2.out.grow g3)
      have HG3 := Lib.hid (grown_trans HG.out (grown_none g3))
      have HF3 := Lib.hid (show Fresh w w3 [p, M] u (peekV (failR s) m) by
        obtain ⟨a, c, e, h0 | ⟨g, e2, hg, hr⟩⟩ := f3
        · exact ⟨a, c, e, .inl h0⟩
        · exact ⟨a, c, e, .inr ⟨g, e2, Nat.le_trans HG.out.size hg, hr⟩⟩)
      clear f3 g3 HP
      go_wp2_with fail
      go_ret2
      exact ⟨u, rfl, HF3.out, H3.out, HG3.out⟩
  · rw [show readV s i = (2, [], s) from if_neg hs]
    have HA := Lib.hid (has_ok h i false (decide_eq_false hs))
    clear h hs hk
    go_enter Try.func15, Try.ntmps15
    go_wp2_with fail
    refine HM.out.mono ?_
    rintro e w2 ⟨rfl, e2⟩
    subst w2
    go_wp2_with fail
    refine HA.out.mono ?_
    rintro e w2 ⟨rfl, e2⟩
    subst w2
    go_wp2_with fail
    go_ret2
    exact ⟨_, rfl, Fresh.nil _ _ _ _ _, HH.out, grown_refl _ _⟩
end
end Go.Proofs.Ytnfofhnjeinmfaa
