/- The document's device of layer 9: Plan, Peek, Read. -/
import Derived.Test.YtnfofhnjeinmfaaVRef1
namespace Go.Proofs.Ytnfofhnjeinmfaa
open Go.ChangeShapes Go.WideShapes Go.ChangeAt Go.RowKit Go.Deep
open Extern.Stop (cell)
set_option linter.unusedVariables false

/-- append([]byte{}, b...): a row of its own with b's bytes. -/
theorem run_bytes (w : World) (g : Nat) (ty : TypeId) (hb : w.heap[g]? = some (.cells #[] 5 (0, 0))) (s : Option Addr) (l c : Nat) (bs : List UInt8) (hs : Src w s l bs) (hl : l ≤ 1000000) :
    ∃ g' cap w', (Builtin.append_ #[29, 29] ty #[.slice (some ⟨g, 0, none⟩) 0 0, .slice s l c]).run Try.prog w = .ok (.slice (some ⟨g', 0, none⟩) l cap) w' ∧ g ≤ g' ∧ (∃ cur, w'.heap[g']? = some (.cells cur 5 (0, 0)) ∧ l ≤ cur.size ∧ cur.toList.take l = bs.map cell) ∧ w.grownBy w' (some g) := by
  have hglt := (Array.getElem?_eq_some_iff.1 hb).1
  obtain ⟨i0, hi, hz0, hz1, hz2⟩ := info_parts (show (Try.prog.info? 5).map (fun i => (i.zero, i.size, i.bytes)) = some (some (.int .u8 0), 1, 1) by kernel_rfl)
  have hown : w.ownsRow g 5 1 (.slice (some ⟨g, 0, none⟩) 0 0) 0 [] := ⟨rfl, .inr ⟨g, 0, #[], rfl, Nat.le_refl _, hb, Nat.le_refl _, by simp [maxLen], rfl, rfl⟩⟩
  by_cases h0 : l = 0
  · have hbs : bs = [] := by have := hs.1; cases bs <;> simp_all
    subst h0 hbs
    refine ⟨g, 0, w, ?_, Nat.le_refl _, ⟨#[], hb, by simp, by simp⟩, grown_refl _ _⟩
    cases s with
    | none => simp [Builtin.append_, run_underlying Try.underlying29, sizeOf, typeInfo, hi, Builtin.lenOf, Builtin.firstCells, storeCells]
    | some ad =>
      have hf := run_firstCells_some (P := Try.prog) w i0.size 0 ad 0 c [] (by simp) (by simp)
      simp [Builtin.append_, run_underlying Try.underlying29, sizeOf, typeInfo, hi, Builtin.lenOf, storeCells, hf]
  · rcases hs.2 with h | ⟨b, p, rfl, hr⟩
    · exact absurd h h0
    · obtain ⟨v', w', hrun, hown', hgr, hnil⟩ := run_append_own (P := Try.prog) w g 29 ty 5 i0 (.int .u8 0) 1 1 Try.underlying29 hi hz0 hz1 hz2 rfl (by omega) _ 0 [] hown ⟨b, p, none⟩ l c (bs.map cell)
        (by simpa using hs.1) (fun j u hu => by rw [Addr.add_mid]; exact hr j u hu) (one_cells _) (by unfold maxLen; omega) (by omega) (by omega)
      have hown2 : w'.ownsRow g 5 1 v' l (bs.map cell) := by simpa using hown'
      rcases hown2.2 with ⟨hn, h2⟩ | ⟨g', cap, cur, rfl, hgg, hcell, hle, _, hsz, htk⟩
      · exact absurd h2 h0
      · exact ⟨g', cap, w', hrun, hgg, ⟨cur, hcell, by omega, by simpa using htk⟩, by simpa [Value.ownBlock] using hgr⟩
theorem wpList_bytes {ops : Array Oper} {rest : List Oper} {o : Oper} {a : Act} {Q : Exit → Act → World → Prop} {w : World} (hg : o.guard = none) (x y : Operand)
    (hop : o.op = Op.call { callee := Callee.builtin Builtin.append, args := #[x, y], argTypes := #[29, 29] })
    (g : Nat) (hb : w.heap[g]? = some (.cells #[] 5 (0, 0))) (hx : a.eval x = .slice (some ⟨g, 0, none⟩) 0 0)
    (s : Option Addr) (l c : Nat) (bs : List UInt8) (hy : a.eval y = .slice s l c) (hs : Src w s l bs) (hl : l ≤ 1000000)
    (hK : ∀ g' cap w', g ≤ g' → (∃ cur, w'.heap[g']? = some (.cells cur 5 (0, 0)) ∧ l ≤ cur.size ∧ cur.toList.take l = bs.map cell) → w.grownBy w' (some g) → wpList Try.prog ops Q rest (a.put o.dst (.slice (some ⟨g', 0, none⟩) l cap)) w') :
    wpList Try.prog ops Q (o :: rest) a w := by
  obtain ⟨g', cap, w', hrun, h1, h2, h3⟩ := run_bytes w g o.type hb s l c bs hs hl
  refine wpList_plain hg fun K hK' => ?_
  have hfin := hK g' cap w' h1 h2 h3
  unfold Oper.wp
  simp [execOp, hop, resolve, invoke, builtin, hx, hy, hrun, Result.andThen]
  exact hK' _ _ hfin

section
variable {w w' : World} {q : Nat} {s s' : VS} {v : Value} {P : List (Nat × Nat)}
theorem rf_plan (h : RV w q s v P) (b : Bool) (n : Int) :
    Calls Try.prog 19 #[.pointer (some ⟨q, 0, none⟩), .bool b, .int .i64 n] w fun e w' => e = .returned (.int .i64 (planV s b n).1) ∧ RV w' q (planV s b n).2 v P ∧ w.grownBy w' (some q) := by
  obtain ⟨c0, c1, c2, c3, c4⟩ := h.at
  have f1 := h.frozen 1
  have f2 := h.frozen 2
  by_cases hn : n < 0
  · rw [show planV s b n = (2, s) from if_pos hn]
    have HH := Lib.hid h
    have d : decide (n < 0) = true := decide_eq_true hn
    clear h hn
    go_enter Try.func19, Try.ntmps19
    go_wp2_with fail
    go_ret
    exact ⟨rfl, HH.out, grown_refl _ _⟩
  · have d : decide (n < 0) = false := decide_eq_false hn
    cases b
    · rw [show planV s false n = (0, ⟨s.L, n, s.pw, s.cr, s.cw⟩) by unfold planV; rw [if_neg hn]; rfl]
      have H2 := Lib.hid (h.put (s' := ⟨s.L, n, s.pw, s.cr, s.cw⟩) rfl (heap_setCell_same w q 1 _ _ (.int .i64 n) h.head) (grown_set w q 1 _))
      have HG := Lib.hid (grown_set w q 1 (.int .i64 n))
      clear h hn
      go_enter Try.func19, Try.ntmps19
      go_wp2_with fail
      go_ret
      exact ⟨rfl, H2.out, HG.out⟩
    · rw [show planV s true n = (0, ⟨s.L, s.pr, n, s.cr, s.cw⟩) by unfold planV; rw [if_neg hn]; rfl]
      have H2 := Lib.hid (h.put (s' := ⟨s.L, s.pr, n, s.cr, s.cw⟩) rfl (heap_setCell_same w q 2 _ _ (.int .i64 n) h.head) (grown_set w q 2 _))
      have HG := Lib.hid (grown_set w q 2 (.int .i64 n))
      clear h hn
      go_enter Try.func19, Try.ntmps19
      go_wp2_with fail
      go_ret
      exact ⟨rfl, H2.out, HG.out⟩

theorem has_cases (s : VS) (i : Int) (hs : ¬ s.has i) : (decide (i < 0) = true) ∨ (decide (i < 0) = false ∧ decide (i ≥ (s.L.length : Int)) = true) := by
  unfold VS.has at hs
  by_cases h0 : i < 0
  · exact .inl (decide_eq_true h0)
  · exact .inr ⟨decide_eq_false h0, decide_eq_true (by omega)⟩

set_option maxHeartbeats 1000000 in
theorem rf_peek (h : RV w q s v P) (i : Int) :
    Calls Try.prog 22 #[.pointer (some ⟨q, 0, none⟩), .int .i64 i] w fun e w' => ∃ u, e = .returned u ∧ Fresh w w' (blocksV q v P) u (peekV s i) ∧ w.grownBy w' none := by
  obtain ⟨c0, c1, c2, c3, c4⟩ := h.at
  obtain ⟨a, c, hv, hat⟩ := h.tab
  subst hv
  have hlen := h.len
  by_cases hs : s.has i
  · obtain ⟨k, rfl⟩ := Int.eq_ofNat_of_zero_le hs.1
    have hk : k < s.L.length := by have := hs.2; omega
    obtain ⟨x, p, hx, hp, hb, hpl⟩ := h.get hk
    obtain ⟨f, rfl, cx⟩ := hat k x hx
    have ga := World.grownBy_alloc w (.cells #[] 5 (0, 0)) none
    have HN := Lib.hid (heap_alloc_new w (.cells #[] 5 (0, 0)))
    have hpk : peekV s k = p := by unfold peekV; rw [if_pos hs, Int.toNat_natCast, List.getD_eq_getElem?_getD, hp]; rfl
    rw [hpk]
    have hb2 := (hb.grow ga).src
    rw [hpl] at hb2
    have HS := Lib.hid hb2
    have k0 : (w.alloc (.cells #[] 5 (0, 0))).cell? ⟨q, 0, none⟩ = some (.slice (some ⟨f, 0, none⟩) s.L.length c) := Lib.cell?_alloc_some _ c0
    have k1 : (w.alloc (.cells #[] 5 (0, 0))).cell? ⟨f, k, none⟩ = some (.slice (some ⟨x.1, 0, none⟩) 4096 x.2) := Lib.cell?_alloc_some _ cx
    have HG := Lib.hid ga
    have HL := Lib.hid h.lt
    have d0 : decide ((k : Int) < 0) = false := decide_eq_false (by omega)
    have d1 : decide ((k : Int) ≥ (s.L.length : Int)) = false := decide_eq_false (by omega)
    have d2 : decide (s.L.length ≤ k) = false := decide_eq_false (by omega)
    have HPl := Lib.hid hpl
    clear h hs hb hb2 ga hx hp hpl hpk hat
    go_enter Try.func22, Try.ntmps22
    go_wp2_with (at_builtin; refine wpList_bytes rfl _ _ rfl w.heap.size HN.out rfl _ 4096 _ p rfl HS.out (by omega) ?_; intro g9 c9 w9 hle9 hb9 gr9; have HLE := Lib.hid hle9; have HB9 := Lib.hid hb9; have G9 := Lib.hid gr9; clear hle9 hb9 gr9)
    go_ret
    refine ⟨_, rfl, ⟨some ⟨g9, 0, none⟩, c9, by rw [HPl.out]; rfl, .inr ⟨g9, rfl, HLE.out, fun hm => ?_, ?_⟩⟩, grown_at HG.out G9.out (Nat.le_refl _)⟩
    · have := HL.out g9 hm; have := HLE.out; omega
    · obtain ⟨cur, t1, t2, t3⟩ := HB9.out
      exact ⟨cur, _, t1, by rw [HPl.out]; exact t2, by rw [HPl.out]; exact t3⟩
  · have hpk : peekV s i = [] := if_neg hs
    rw [hpk]
    have hc := has_cases s i hs
    clear h hs hpk hat
    rcases hc with d0 | ⟨d0, d1⟩
    all_goals
      go_enter Try.func22, Try.ntmps22
      go_wp2_with fail
      go_ret
      exact ⟨_, rfl, Fresh.nil _ _ _ _ _, grown_refl _ _⟩

set_option maxHeartbeats 1000000 in
theorem rf_read (h : RV w q s v P) {k : Int} (hk : s.Ok k) (hk2 : k ≤ 1000000) (i : Int) :
    Calls Try.prog 16 #[.pointer (some ⟨q, 0, none⟩), .int .i64 i] w fun e w' => ∃ u, e = .returned (.tuple #[u, .int .i64 (readV s i).1]) ∧ Fresh w w' (blocksV q v P) u (readV s i).2.1 ∧ RV w' q (readV s i).2.2 v P ∧ w.grownBy w' (some q) := by
  obtain ⟨c0, c1, c2, c3, c4⟩ := h.at
  obtain ⟨a, c, hv, hat⟩ := h.tab
  have hlen := h.len
  have HF := Lib.hid (rf_failR h hk hk2)
  have HH := Lib.hid h
  by_cases hs : s.has i
  · obtain ⟨m, rfl⟩ := Int.eq_ofNat_of_zero_le hs.1
    have hm : m < s.L.length := by have := hs.2; omega
    obtain ⟨x, p, hx, hp, hb, hpl⟩ := h.get hm
    have d0 : decide ((m : Int) < 0) = false := decide_eq_false (by omega)
    have d1 : decide ((m : Int) ≥ (s.L.length : Int)) = false := decide_eq_false (by omega)
    have d2 : decide (s.L.length ≤ m) = false := decide_eq_false (by omega)
    by_cases h1 : s.pr = 1
    · rw [show readV s m = (6, [], failR s) by unfold readV failR decV; rw [if_pos hs, if_pos h1, if_neg (by omega), h1]; rfl]
      rw [decide_eq_true h1] at HF
      subst hv
      clear h hs hb hx hp hpl hat hk h1
      go_enter Try.func16, Try.ntmps16
      go_wp2_with fail
      refine HF.out.mono ?_
      rintro e w2 ⟨rfl, h2, g2⟩
      have H2 := Lib.hid h2
      have HG := Lib.hid g2
      clear h2 g2
      go_wp2_with fail
      go_ret2
      exact ⟨_, rfl, Fresh.nil _ _ _ _ _, H2.out, HG.out⟩
    · have hrd : readV s m = (0, p, failR s) := by
        unfold readV failR
        rw [if_pos hs, if_neg h1, Int.toNat_natCast, List.getD_eq_getElem?_getD, hp]
        rfl
      rw [hrd]
      rw [decide_eq_false h1] at HF
      have HPl := Lib.hid hpl
      have HL := Lib.hid h.lt
      have HX := Lib.hid hx
      have HP := Lib.hid hp
      have HV := Lib.hid hv
      subst hv
      clear h hs hb hx hp hpl hat hk h1 hrd
      go_enter Try.func16, Try.ntmps16
      go_wp2_with fail
      refine HF.out.mono ?_
      rintro e w2 ⟨rfl, h2, g2⟩
      obtain ⟨a2, c2', hv2, hat2⟩ := h2.tab
      simp only [Value.slice.injEq] at hv2
      obtain ⟨rfl, -, rfl⟩ := hv2
      obtain ⟨f, rfl, cx⟩ := hat2 m x HX.out
      have ga := World.grownBy_alloc w2 (.cells #[] 5 (0, 0)) none
      have HN := Lib.hid (heap_alloc_new w2 (.cells #[] 5 (0, 0)))
      have hb2 := ((h2.pages m x p HX.out HP.out).grow ga).src
      rw [HPl.out] at hb2
      have HS := Lib.hid hb2
      have k0 : (w2.alloc (.cells #[] 5 (0, 0))).cell? ⟨q, 0, none⟩ = some (.slice (some ⟨f, 0, none⟩) s.L.length c) := Lib.cell?_alloc_some _ h2.at.1
      have k1 : (w2.alloc (.cells #[] 5 (0, 0))).cell? ⟨f, m, none⟩ = some (.slice (some ⟨x.1, 0, none⟩) 4096 x.2) := Lib.cell?_alloc_some _ cx
      have H2 := Lib.hid h2
      have HG2 := Lib.hid g2
      have HGa := Lib.hid ga
      clear h2 g2 hat2 ga hb2 cx
      go_wp2_with (at_builtin; refine wpList_bytes rfl _ _ rfl w2.heap.size HN.out rfl _ 4096 _ p rfl HS.out (by omega) ?_; intro g9 c9 w9 hle9 hb9 gr9; have HLE := Lib.hid hle9; have HB9 := Lib.hid hb9; have G9 := Lib.hid gr9; clear hle9 hb9 gr9)
      go_ret2
      have hge := HG2.out.size
      have hg29 := grown_at HGa.out G9.out (Nat.le_refl _)
      refine ⟨_, rfl, ⟨some ⟨g9, 0, none⟩, c9, by rw [HPl.out]; rfl, .inr ⟨g9, rfl, by have := HLE.out; omega, fun hm => ?_, ?_⟩⟩, H2.out.grow hg29, grown_trans HG2.out (grown_none hg29)⟩
      · have := HL.out g9 hm; have := HLE.out; omega
      · obtain ⟨cur, t1, t2, t3⟩ := HB9.out
        exact ⟨cur, _, t1, by rw [HPl.out]; exact t2, by rw [HPl.out]; exact t3⟩
  · rw [show readV s i = (2, [], s) from if_neg hs]
    have hc := has_cases s i hs
    subst hv
    clear h hs hat hk
    rcases hc with d0 | ⟨d0, d1⟩
    all_goals
      go_enter Try.func16, Try.ntmps16
      go_wp2_with fail
      go_ret2
      exact ⟨_, rfl, Fresh.nil _ _ _ _ _, HH.out, grown_refl _ _⟩
end
end Go.Proofs.Ytnfofhnjeinmfaa
