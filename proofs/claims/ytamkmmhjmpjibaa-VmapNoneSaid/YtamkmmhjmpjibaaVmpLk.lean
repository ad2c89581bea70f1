/- Layer 16 (landed): Fork. -/
import Derived.Test.YtamkmmhjmpjibaaVmpLj
namespace Go.Proofs.Ytamkmmhjmpjibaa
open Go.ChangeShapes Go.WideShapes Go.ChangeAt Go.RowKit Go.Deep
set_option linter.unusedVariables false
set_option linter.unusedSimpArgs false

theorem child_take {L : List En} {q : Nat} {x : En} (hx : L[q]? = some x) : childL (L.take (q + 1)) = childL (L.take q) ++ (if x.i ≠ 2 then [unwire x] else []) := by
  unfold childL
  rw [takel_at hx, List.filter_append, List.map_append]
  by_cases h : x.i ≠ 2
  · rw [if_pos h]
    have e : List.filter (fun x => decide (x.i ≠ 2)) [x] = [x] := by simp [h]
    rw [e]
    rfl
  · rw [if_neg h]
    have e : List.filter (fun x => decide (x.i ≠ 2)) [x] = [] := by simpa using h
    rw [e]
    rfl
theorem step_app_run {P : Program} {w : World} {ops : Array Oper} {o : Oper} {a : Act} {K : Act → World → Prop} {Q : Exit → Act → World → Prop} {E : Prop} (hgd : o.guard = none) (s x : Operand) (t tn : TypeId)
    (ho : o.op = .call { callee := .builtin .append, args := #[s, x], argTypes := #[t, tn] }) (vs vx : Value) (hs : a.eval s = vs) (hx : a.eval x = vx)
    (v' : Value) (w' : World) (hr : (Builtin.append_ #[t, tn] o.type #[vs, vx]).run P w = .ok v' w') (h : K (a.put o.dst v') w') : if Region.wanted o (yielded ops a.tmps) = true then Oper.wp P o a w K Q else E := by
  have hw : Region.wanted o (yielded ops a.tmps) = true := by simp [Region.wanted, hgd]
  rw [if_pos hw]
  exact Lib.wp_append_run w s x t tn ho vs vx hs hx v' w' hr h
/-- 'append(l, x)', x in a block of its own: what it comes to. -/
theorem app_one {w : World} {base H : Nat} {vv : Value} {A : List En} {y : En} (h : EOwn w base vv A) (hy : w.heap[H]? = some (.cells #[.int .i64 y.s, .int .i64 y.e, .int .i64 y.f, .int .i64 y.o, .bool y.sh, .int .i64 y.p, .int .i64 y.m, .int .i64 y.i, .int .i64 y.a, .bool y.wi] 31 (0, 0))) (hl : A.length ≤ 100000) (hb : base ≤ w.heap.size) :
    ∃ g' c' w', (Builtin.append_ #[27, 27] 27 #[vv, .slice (some ⟨H, 0, none⟩) 1 1]).run Try.prog w = .ok (.slice (some ⟨g', 0, none⟩) (A.length + 1) c') w' ∧ EOwn w' base (.slice (some ⟨g', 0, none⟩) (A.length + 1) c') (A ++ [y]) ∧ w.grownBy w' vv.ownBlock ∧ (vv.ownBlock = some g' ∨ g' = w.heap.size) := by
  obtain ⟨i0, hi, hz0, hz1, hz2⟩ := en_info
  obtain ⟨v', w', h1, h2, h3, h4, h5⟩ := run_append_own_at (P := Try.prog) w base 27 27 31 i0 (.agg #[.int .i64 0, .int .i64 0, .int .i64 0, .int .i64 0, .bool false, .int .i64 0, .int .i64 0, .int .i64 0, .int .i64 0, .bool false]) 10 80 Try.underlying27 hi hz0 hz1 hz2 rfl (by decide) vv A.length (A.flatMap enCells) h ⟨H, 0, none⟩ 1 1 (enCells y) (by rw [en_len]) (fun j u hu => by rw [Addr.add_mid, Nat.zero_add, cell_of_row _ _ _ _ _ _ hy]; simpa [enCells] using hu) (en_one y) (by unfold maxLen; omega) (by omega) hb
  have hown : EOwn w' base v' (A ++ [y]) := by
    unfold EOwn OwnOf
    rw [List.length_append, List.flatMap_append]
    simpa using h2
  obtain ⟨g', c', hv⟩ := OwnOf.there hown (by simp)
  rw [List.length_append] at hv
  have hv : v' = .slice (some ⟨g', 0, none⟩) (A.length + 1) c' := hv
  subst hv
  refine ⟨g', c', w', h1, hown, h3, ?_⟩
  rcases h5 with e | e
  · exact .inl e.symm
  · exact .inr (Option.some.inj e)
set_option maxRecDepth 100000 in
set_option maxHeartbeats 4000000 in
theorem fork_ok {w : World} {r : Nat} {v : Value} {L : List En} (h : VM w r v L) (hm : MapL L) (hl : L.length ≤ 900) :
    Calls Try.prog 18 #[.pointer (some ⟨r, 0, none⟩)] w fun e w' => ∃ rc v', e = .returned (.pointer (some ⟨rc, 0, none⟩)) ∧ w.heap.size ≤ rc ∧ VM w' rc v' (forkV L) ∧ (∀ b, v'.ownBlock = some b → w.heap.size ≤ b) ∧ w.grownBy w' none := by
  have HM := Lib.hid (made_ok h)
  have HN := Lib.hid (new_ok w)
  obtain ⟨a, c, hv⟩ := h.form
  subst hv
  have HH := Lib.hid h
  obtain ⟨n, hn⟩ : ∃ n, L.length = n := ⟨_, rfl⟩
  have HNn := Lib.hid hn
  have HMl := Lib.hid hm
  rw [hn] at hl HH
  clear h hm hn
  go_enter Try.func18, Try.ntmps18
  go_wp2_with fail
  refine HM.out.mono ?_
  rintro e w1 ⟨rfl, e1⟩
  subst e1
  go_wp2_with fail
  refine HN.out.mono ?_
  rintro e w2 ⟨rfl, k1, g2⟩
  obtain ⟨rc, hrc⟩ : ∃ rc, w1.heap.size = rc := ⟨_, rfl⟩
  rw [hrc] at k1 ⊢
  have hrl : r ≠ rc := by have := HH.out.lt; omega
  have c2 := (HH.out.grow g2).at0
  have HI := Lib.hid (show VM w2 rc (.slice none 0 0) (childL (L.take 0)) from k1)
  have HG2 := Lib.hid g2
  clear k1 g2
  go_wp2_with fail
  go_loopw [15] (fun iv wr => ∃ (q : Nat) (vv : Value), q ≤ n ∧ iv = .int .i64 q ∧ Hid (VM wr rc vv (childL (L.take q))) ∧ Hid (w1.grownBy wr none)) (fun iv _ => n - (intOf iv).toNat)
  case atStart => exact ⟨0, _, by omega, rfl, HI, HG2⟩
  case round =>
    clear HI HG2
    obtain ⟨q, vv, hq, rfl, HV, HG⟩ := hrel
    by_cases hlt : q < n
    · obtain ⟨x, hx⟩ : ∃ x, L[q]? = some x := ⟨_, List.getElem?_eq_getElem (by rw [HNn.out]; exact hlt)⟩
      obtain ⟨g, o, c3, hv1, ka0, ka1, ka2, ka3, ka4, ka5, ka6, ka7, ka8, ka9⟩ := en_cells (HH.out.grow HG.out).row hx
      rw [HNn.out] at hv1
      injection hv1 with e1 e2 e3
      subst e1 e3
      have HCt := Lib.hid (child_take hx)
      have hkx := (EnB.new wr x).all
      have hfx := (EnB.new wr x).frozen
      obtain ⟨k0, k1, k2, k3, k4, k5, k6, k7, k8, k9⟩ := hkx
      by_cases hi2 : x.i = 2
      · rw [if_neg (by simpa using hi2), List.append_nil] at HCt
        have b0 : (x.i == 2) = true := by simpa using hi2
        clear hx
        go_wp2_with fail
        go_roundw
        case rel => exact ⟨q + 1, vv, by omega, by go_num, by rw [HCt.out]; exact Lib.hid (HV.out.grow (World.grownBy_alloc _ _ _)), Lib.hid (grown_trans HG.out (World.grownBy_alloc _ _ _))⟩
        case measure => simp [intOf]; omega
      · rw [if_pos (by simpa using hi2)] at HCt
        have b0 : (x.i == 2) = false := by simpa using hi2
        clear hx
        go_upto_region 9 with fail
        obtain ⟨wb, hwb⟩ : ∃ wb, wr.alloc (.cells #[.int .i64 (unwire x).s, .int .i64 (unwire x).e, .int .i64 (unwire x).f, .int .i64 (unwire x).o, .bool (unwire x).sh, .int .i64 (unwire x).p, .int .i64 (unwire x).m, .int .i64 (unwire x).i, .int .i64 (unwire x).a, .bool (unwire x).wi] 31) = wb := ⟨_, rfl⟩
        have hBb : EnB wb wr.heap.size (unwire x) := by rw [← hwb]; exact EnB.new wr (unwire x)
        have gb : wr.grownBy wb none := by rw [← hwb]; exact World.grownBy_alloc _ _ _
        have hVb := HV.out.grow gb
        have HGb := Lib.hid (grown_trans HG.out gb)
        have gA : wb.grownBy ((wb.alloc (.cells #[.int .i64 x.s, .int .i64 x.e, .int .i64 x.f, .int .i64 x.o, .bool x.sh, .int .i64 x.p, .int .i64 x.m, .int .i64 x.i, .int .i64 x.a, .bool false] 31)).drew) none := grown_trans (World.grownBy_alloc _ _ _) (grown_drew1 _)
        obtain ⟨g', c', w5, hap, hown5, g5, hat5⟩ := app_one (y := unwire x) (hVb.grow gA).own (heap_alloc_new wb (.cells #[.int .i64 x.s, .int .i64 x.e, .int .i64 x.f, .int .i64 x.o, .bool x.sh, .int .i64 x.p, .int .i64 x.m, .int .i64 x.i, .int .i64 x.a, .bool false] 31)) (by have := child_len (L.take q); rw [List.length_take, HNn.out] at this; omega) (by have := (hVb.grow gA).lt; omega)
        have hd5 : w5.heap[rc]? = some (.cells #[vv, .bool true] 50 (0, 0)) := (g5.block rc (hVb.grow gA).lt (fun e => (hVb.grow gA).ne e.symm rfl)).trans (hVb.grow gA).head
        have c5 : w5.cell? ⟨rc, 0, none⟩ = some vv := by rw [cell_of_row _ _ _ _ _ _ hd5]; rfl
        have f5 : w5.frozen? ⟨rc, 0, none⟩ = false := frozen_of_row _ _ _ _ _ hd5
        have HV5 := Lib.hid (VM.put hd5 hown5)
        have hv0 : ∀ b, vv.ownBlock = some b → w1.heap.size ≤ b := fun b hb => by have := (OwnOf.lt HV.out.own hb).1; omega
        have HG5 := Lib.hid (grown_at (grown_own (grown_trans HGb.out gA) g5 hv0) (grown_set w5 rc 0 (.slice (some ⟨g', 0, none⟩) ((childL (L.take q)).length + 1) c')) (by omega))
        have d0 := hVb.at0
        have d1 := (hVb.grow gA).at0
        have q0 := hBb.all
        obtain ⟨q0, q1, q2, q3, q4, q5, q6, q7, q8, q9⟩ := q0
        obtain ⟨nl, hnl⟩ : ∃ nl, (childL (L.take q)).length + 1 = nl := ⟨_, rfl⟩
        rw [hnl] at hap HV5 HG5
        have HAP := Lib.hid hap
        have hwb' : wr.alloc (.cells #[.int .i64 x.s, .int .i64 x.e, .int .i64 x.f, .int .i64 x.o, .bool x.sh, .int .i64 x.p, .int .i64 x.m, .int .i64 x.i, .int .i64 x.a, .bool false] 31) = wb := hwb
        rw [hwb']
        have hq0 : wb.cell? ⟨wr.heap.size, 0, none⟩ = some (.int .i64 x.s) := q0
        have hq1 : wb.cell? ⟨wr.heap.size, 1, none⟩ = some (.int .i64 x.e) := q1
        have hq2 : wb.cell? ⟨wr.heap.size, 2, none⟩ = some (.int .i64 x.f) := q2
        have hq3 : wb.cell? ⟨wr.heap.size, 3, none⟩ = some (.int .i64 x.o) := q3
        have hq4 : wb.cell? ⟨wr.heap.size, 4, none⟩ = some (.bool x.sh) := q4
        have hq5 : wb.cell? ⟨wr.heap.size, 5, none⟩ = some (.int .i64 x.p) := q5
        have hq6 : wb.cell? ⟨wr.heap.size, 6, none⟩ = some (.int .i64 x.m) := q6
        have hq7 : wb.cell? ⟨wr.heap.size, 7, none⟩ = some (.int .i64 x.i) := q7
        have hq8 : wb.cell? ⟨wr.heap.size, 8, none⟩ = some (.int .i64 x.a) := q8
        have hq9 : wb.cell? ⟨wr.heap.size, 9, none⟩ = some (.bool false) := q9
        clear hap hown5 g5 hat5 hd5 hv0 hVb gA gb hBb hwb hwb' q0 q1 q2 q3 q4 q5 q6 q7 q8 q9 hnl k0 k1 k2 k3 k4 k5 k6 k7 k8 k9 hfx ka0 ka1 ka2 ka3 ka4 ka5 ka6 ka7 ka8 ka9
        go_region_law (refine step_app_run rfl _ _ _ _ rfl _ _ (by simp [Act.eval, Act.put]) (by simp [Act.eval, Act.put]) _ _ HAP.out ?_)
        all_goals
          go_wp2_with fail
          go_roundw
          case rel => exact ⟨q + 1, _, by omega, by go_num, by rw [HCt.out]; exact HV5, HG5⟩
          case measure => simp [intOf]; omega
    · obtain rfl : q = n := by omega
      have hV := HV.out
      rw [List.take_of_length_le (by rw [HNn.out]; exact Nat.le_refl _)] at hV
      obtain ⟨va, vc, hvf⟩ := hV.form
      subst hvf
      have hrf := rf_child HMl.out.rf
      have hcl := child_len L
      rw [HNn.out] at hcl
      have HMg := Lib.hid (merge_ok vc hV.row hrf (by omega))
      have HVV := Lib.hid hV
      have c5 := hV.at0
      clear hV hrf HV
      go_wp2_with fail
      refine HMg.out.mono ?_
      rintro e w5 ⟨u5, rfl, hown5, g5⟩
      obtain ⟨a5, c6, hvf⟩ := OwnOf.form hown5
      subst hvf
      have hd5 := (HVV.out.grow g5).head
      have d5 := (HVV.out.grow g5).at0
      have f5 := (HVV.out.grow g5).frozen
      have hlow : EOwn w5 (rc + 1) (.slice a5 (mergeE (childL L)).length c6) (mergeE (childL L)) := OwnOf.lower hown5 (by have := HVV.out.lt; omega)
      have HF := Lib.hid (VM.put hd5 hlow)
      have HG5 := Lib.hid (grown_at (grown_trans HG.out g5) (grown_set w5 rc 0 (.slice a5 (mergeE (childL L)).length c6)) (by omega))
      have HB := Lib.hid (fun b (hb : (Value.slice a5 (mergeE (childL L)).length c6).ownBlock = some b) => (OwnOf.lt hown5 hb).1)
      have hsz := HG.out.size
      clear hown5 g5 hd5 hlow
      go_wp2_with fail
      go_ret
      exact ⟨rc, _, rfl, by omega, HF.out, fun b hb => Nat.le_trans hsz (HB.out b hb), HG5.out⟩
end Go.Proofs.Ytamkmmhjmpjibaa
