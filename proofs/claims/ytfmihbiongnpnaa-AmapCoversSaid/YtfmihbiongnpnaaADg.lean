/- Package amap (landed): Copy, where it copies. -/
import Derived.Test.YtfmihbiongnpnaaADf
namespace Go.Proofs.Ytfmihbiongnpnaa
open Go.ChangeShapes Go.WideShapes Go.ChangeAt Go.RowKit Go.Deep
set_option linter.unusedVariables false
attribute [local go_sem] Oper.semAt_some

section
variable {w w1 w' : World} {p most : Nat} {v : Value} {L : AmL} {S : Nat → AmP}
set_option maxRecDepth 100000 in
set_option maxHeartbeats 1000000 in
theorem pa_copy_yes (h : PA w p most v L S) (hg : GoodL most L) {i l m k : Nat} {a : AmV} (ha : L[i]? = some (some a)) (hk : m = l + k) (hk0 : 1 ≤ k) (hm : m ≤ a.as.length) (hno : ¬ most ≤ (idsA L).length) : Calls Try.prog 20 #[.pointer (some ⟨p, 0, none⟩), .int .i64 ((i : Int) + 1), .int .i64 l, .int .i64 m] w (CopyS PAS w p most (blkA p v L S) (copyA most L ((i : Int) + 1) l m)) := by
  have hga := ofA_good hg (ofA_at ha)
  have HO := Lib.hid (pa_find_some h hg ha)
  have ham := h.am.each i a ha
  have c0 := ham.at.1
  have hlen := spOk.len ham.d hga.cs
  rw [hga.len] at hlen
  have HLn := Lib.hid hlen
  have hle : a.as.length ≤ 4096 := by have h2 := hga.cs.len; have h3 := hga.len; omega
  have HE := Lib.hid (copy_eq (lo := (l : Int)) (hi := (m : Int)) (k := k) ha ⟨by omega, by omega, by omega⟩ (by omega) hno)
  have hG := copyA_good (id := (i : Int) + 1) (lo := (l : Int)) (hi := (m : Int)) hg
  rw [HE.out] at hG
  have HG0 := Lib.hid hG
  obtain ⟨f, hf⟩ : ∃ f, firstA L = f := ⟨_, rfl⟩
  have hfd : liveA L f = false := by
    rw [← hf]
    rcases Nat.lt_or_ge (firstA L) L.length with h1 | h1
    · exact liveA_none (first_free h1)
    · exact liveA_out h1
  have hfl : f ≤ L.length := by rw [← hf]; exact first_le
  have hne : i ≠ f := fun e => by rw [← e, liveA_some ha] at hfd; cases hfd
  have HK := Lib.hid (fun W (g : w.grownBy W none) => pa_lay (PoolA.grow dsS h g) hg k hk0 (by omega) hno)
  rw [hf] at HE HG0
  simp only [hf] at HK
  have HH := Lib.hid h
  have HA := Lib.hid ha
  have d0 : decide ((l : Int) < 0) = false := decide_eq_false (by omega)
  have d1 : decide (a.as.length < m) = false := decide_eq_false (by omega)
  have d2 : decide (m ≤ l) = false := decide_eq_false (by omega)
  have hsub : (m : Int) - (l : Int) = (k : Int) := by omega
  have hwr : IntKind.i64.wrap ((m : Int) - (l : Int)) = (k : Int) := by rw [IntKind.wrap_i64]; omega
  have hwk : IntKind.i64.wrap (k : Int) = (k : Int) := by rw [IntKind.wrap_i64]; omega
  have HM := Lib.hid hk
  clear h hga hg ham hlen hG hf hfd hno ha hk
  refine (callsIn_wide (n := 9)).1 ?_
  refine callsIn_of_wp_marks Try.func20 rfl trivial ?_ rfl
  simp only [Try.ntmps20, List.size_toArray, List.length_cons, List.length_nil, Nat.reduceAdd, Nat.reduceSub, Array.replicate_succ, Array.replicate_zero, List.push_toArray, List.append_toArray, List.nil_append, List.cons_append]
  refine wpIn_wide.2 ?_
  go_wp2_with fail
  refine HO.out.mono ?_
  rintro e w2 ⟨rfl, e2⟩
  subst w2
  go_wp2_with fail
  refine HLn.out.mono ?_
  rintro e w1 ⟨rfl, g1⟩
  have HK1 := Lib.hid (HK.out _ g1)
  have HG1 := Lib.hid g1
  clear g1 HK
  go_wp2_with fail
  refine HK1.out.mono ?_
  rintro e w6 ⟨P, rfl, hP, hT, hO, hF⟩
  have hAi := hP.am.each i a (by rw [put_at hfl, if_neg hne]; exact HA.out)
  have hAf := hP.am.each f (newA k) (by rw [put_at hfl, if_pos rfl])
  rw [updA_same] at hAf
  rw [updA_other hne] at hAi
  have ga1 := World.grownBy_alloc w6 (.cells #[.pointer (some ⟨P.a, 0, none⟩)] 73) none
  have ga2 := World.grownBy_alloc (w6.alloc (.cells #[.pointer (some ⟨P.a, 0, none⟩)] 73)) (.cells #[.slice none 0 0] 39) none
  have hA8 := (hAi.grow dsS ga1).grow dsS ga2
  have c8 := hA8.at.2
  have HA8 := Lib.hid hA8
  have HAf := Lib.hid hAf
  have HPa := Lib.hid hP
  have HTa := Lib.hid hT
  have HOa := Lib.hid hO
  have HFa := Lib.hid hF
  clear hAi hAf hA8 hP hT hO hF ga1 ga2 c0 HK1
  go_wp2_with fail
  refine (used_of _ _ _ _).mono ?_
  rintro e w7 ⟨rfl, e7⟩
  subst w7
  go_wp2_with fail
  have bO := ((Boxed.new w6 73 (.pointer (some ⟨P.a, 0, none⟩))).alloc (.cells #[.slice none 0 0] 39)).alloc (.cells #[.slice (some ⟨(S i).g, l, none⟩) (m - l) (a.as.length - l)] 39)
  have bB := (Boxed.new (w6.alloc (.cells #[.pointer (some ⟨P.a, 0, none⟩)] 73)) 39 (.slice none 0 0)).alloc (.cells #[.slice (some ⟨(S i).g, l, none⟩) (m - l) (a.as.length - l)] 39)
  have bS := Boxed.new ((w6.alloc (.cells #[.pointer (some ⟨P.a, 0, none⟩)] 73)).alloc (.cells #[.slice none 0 0] 39)) 39 (.slice (some ⟨(S i).g, l, none⟩) (m - l) (a.as.length - l))
  have g8 := grown_trans (World.grownBy_alloc w6 (.cells #[.pointer (some ⟨P.a, 0, none⟩)] 73) none) (World.grownBy_alloc (w6.alloc (.cells #[.pointer (some ⟨P.a, 0, none⟩)] 73)) (.cells #[.slice none 0 0] 39) none)
  have g9 := grown_trans g8 (World.grownBy_alloc ((w6.alloc (.cells #[.pointer (some ⟨P.a, 0, none⟩)] 73)).alloc (.cells #[.slice none 0 0] 39)) (.cells #[.slice (some ⟨(S i).g, l, none⟩) (m - l) (a.as.length - l)] 39) none)
  have hsz : (((w6.alloc (.cells #[.pointer (some ⟨P.a, 0, none⟩)] 73)).alloc (.cells #[.slice none 0 0] 39)).alloc (.cells #[.slice (some ⟨(S i).g, l, none⟩) (m - l) (a.as.length - l)] 39)).heap.size = w6.heap.size + 3 := by simp
  rw [World.size_alloc] at bB bS
  rw [World.size_alloc] at bS
  have hA9 := HA8.out.grow dsS (World.grownBy_alloc ((w6.alloc (.cells #[.pointer (some ⟨P.a, 0, none⟩)] 73)).alloc (.cells #[.slice none 0 0] 39)) (.cells #[.slice (some ⟨(S i).g, l, none⟩) (m - l) (a.as.length - l)] 39) none)
  have hR9 := row_part (c' := a.as.length - l) (OwnOf.row hA9.row) (l := l) (m := m) (by have := HM.out; omega) hm
  have hzl : (partA a.as (l : Int) (m : Int)).length = k := by rw [part_len (by omega) (by have := HM.out; omega) (by omega)]; omega
  have hC9 : CopyI w6 (((w6.alloc (.cells #[.pointer (some ⟨P.a, 0, none⟩)] 73)).alloc (.cells #[.slice none 0 0] 39)).alloc (.cells #[.slice (some ⟨(S i).g, l, none⟩) (m - l) (a.as.length - l)] 39)) P (newA k) := CopyI.grown ⟨HAf.out, Turn.refl _ _, HAf.out.lt dsS⟩ g9 (fun r e => by cases e)
  have hgg : (S i).g ≠ P.g := fun e => by
    have h1 := HH.out.am.lt dsS (S i).g (mem_blks.2 ⟨i, liveA_some HA.out, AmP.mem.2 (.inr (.inl rfl))⟩)
    have h2 := HFa.out P.g (AmP.mem.2 (.inr (.inl rfl)))
    have h3 := HG1.out.size
    omega
  have hgl : (S i).g < w6.heap.size := by
    have h1 := HH.out.am.lt dsS (S i).g (mem_blks.2 ⟨i, liveA_some HA.out, AmP.mem.2 (.inr (.inl rfl))⟩)
    have h2 := HG1.out.size
    have h3 := HTa.out.size
    omega
  have HE2 := HE
  obtain ⟨zs, hzs⟩ : ∃ zs, partA a.as (l : Int) (m : Int) = zs := ⟨_, rfl⟩
  rw [hzs] at hR9 hzl HE2 HG0
  have HGG := Lib.hid hgg
  have HGL := Lib.hid hgl
  have HZL := Lib.hid hzl
  have hz4 : zs.length ≤ 4096 := by omega
  have hul := uAll_len (zs := zs)
  obtain ⟨i0, hi, hz0, hz1, hz2⟩ := info_parts info_int11
  clear hA9 c8 HA8 g8 hgg hgl hzs HE
  generalize hw9 : (((w6.alloc (.cells #[.pointer (some ⟨P.a, 0, none⟩)] 73 (0, 0))).alloc (.cells #[.slice none 0 0] 39 (0, 0))).alloc (.cells #[.slice (some ⟨(S i).g, l, none⟩) (m - l) (a.as.length - l)] 39 (0, 0))) = w9 at *
  refine (wpIn_wide (n := 9)).1 ?_
  refine wpIn_rangeFunc_ownG rfl (by omega) (gf := 53) (lb := #[.pointer (some ⟨w6.heap.size + 1 + 1, 0, none⟩)]) rfl trivial (enters_of Try.func53 (by kernel_rfl) rfl)
    (used1_stops 8 (by omega) (w6.heap.size + 1 + 1) _ zs hz4 [(S i).g] (fun g e => by have e : (S i).g = g := (by simpa [Value.ownBlock] using e); rw [← e]; simp) _ bS.cell hR9) (fun h k => kpG_t h k) (fun W l o o' hl ho hc _ => kpG_b (B := w9.heap.size) (fun k hk => by have e := List.mem_singleton.1 hk; have := HGL.out; omega) W l o' hl) (Below.refl _ _) (fun _ => rfl)
    (fun pre W => (∃ v, Boxed W (w6.heap.size + 1) 39 v ∧ W.ownsRow (w6.heap.size + 1) 3 1 v (outU pre).length ((outU pre).map (Value.int .i64)) ∧ True) ∧ Boxed W w6.heap.size 73 (.pointer (some ⟨P.a, 0, none⟩)) ∧ CopyI w6 W P ⟨List.replicate k 1, writeU (List.replicate k 0) pre⟩)
    (fun c pre W => False)
    (OwnFrom.and (Own.from (holdsRow_own (w6.heap.size + 1) (w6.heap.size + 1) 39 3 1 (fun pre : List (UI zs.length) => (outU pre).length) (fun pre : List (UI zs.length) => (outU pre).map (Value.int .i64)) (fun _ _ => True)) _) (OwnFrom.and (Own.from (boxed_own _ _ _) _) (fun s A B row hs hg hr => CopyI.grown hs hg fun x e => by have := (hr x e).1; omega)))
    (fun c s A B row hs hg hr => hs)
    ⟨⟨_, bB, World.ownsRow_nil _ _ _ _, trivial⟩, bO, hC9⟩
    (fun (x : UI zs.length) => { tmps := #[Value.pointer (some { block := p, off := 0 }), Value.int IntKind.i64 (↑i + 1), Value.int IntKind.i64 ↑l, Value.int IntKind.i64 ↑m, undef, undef, undef, undef, Value.int IntKind.i64 0, Value.slice none 0 0, Value.int IntKind.i64 0, Value.pointer (some { block := (S i).a, off := 0 }), Value.int IntKind.i64 0, Value.int IntKind.i64 (↑f + 1), Value.pointer (some { block := w6.heap.size, off := 0 }), Value.pointer (some { block := w6.heap.size + 1, off := 0 }), Value.int IntKind.i64 x.1.i, Value.int IntKind.i64 x.1.n, Value.tuple #[Value.pointer (some { block := (S i).a, off := 0 }), Value.int IntKind.i64 0], Value.pointer (some { block := p, off := 0 }), Value.int IntKind.i64 (↑i + 1), Value.tuple #[Value.pointer (some { block := (S i).a, off := 0 }), Value.int IntKind.i64 0], Value.pointer (some { block := (S i).a, off := 0 }), Value.int IntKind.i64 0, Value.bool false, Value.int IntKind.i64 0, Value.bool false, undef, Value.bool false, Value.int IntKind.i64 ↑l, Value.bool false, Value.bool false, Value.int IntKind.i64 ↑m, Value.pointer (some { block := (S i).a, off := 0 }), Value.pointer (some { block := (S i).a, off := 0 }), Value.pointer (some { block := (S i).a, off := 0 }), Value.pointer (some { block := (S i).p, off := 0 }), Value.int IntKind.i64 ↑a.as.length, Value.bool false, Value.bool false, Value.bool false, Value.int IntKind.i64 ↑l, Value.int IntKind.i64 ↑m, Value.bool false, Value.bool false, Value.tuple #[Value.int IntKind.i64 (↑f + 1), Value.pointer (some { block := P.a, off := 0 }), Value.int IntKind.i64 0], Value.pointer (some { block := p, off := 0 }), Value.int IntKind.i64 ↑m, Value.int IntKind.i64 ↑l, Value.int IntKind.i64 ↑k, Value.tuple #[Value.int IntKind.i64 (↑f + 1), Value.pointer (some { block := P.a, off := 0 }), Value.int IntKind.i64 0], Value.int IntKind.i64 (↑f + 1), Value.pointer (some { block := P.a, off := 0 }), Value.int IntKind.i64 0, Value.int IntKind.i64 0, Value.bool false, undef, Value.pointer (some { block := (S i).a, off := 0 }), Value.pointer (some { block := (S i).a, off := 0 }), Value.pointer (some { block := (S i).a, off := 1 }), Value.slice (some { block := (S i).g, off := 0 }) a.as.length a.as.length, Value.int IntKind.i64 ↑l, Value.int IntKind.i64 ↑m, Value.slice (some { block := (S i).g, off := l }) (m - l) (a.as.length - l), Value.func (Fn.func 53) #[] #[Value.pointer (some { block := w6.heap.size + 1 + 1, off := 0 })], Value.int IntKind.i64 x.1.i, Value.int IntKind.i64 x.1.n, undef, undef, undef, undef, undef, undef, undef, undef, undef, undef, undef, undef, undef], defers := [] }) ?assign ?body ?done ?stop
  case assign =>
    intro l x W K hK
    simp only [encU, encI]
    gi_wp2
    exact hK
  case body =>
    rintro l9 pre ⟨⟨xi, xn⟩, hx0, hx1⟩ W ⟨⟨v9, hv, hrow, _⟩, hy, hC⟩ hlt
    have hx0 : 0 ≤ xi := hx0
    have hx1 : xi < zs.length := hx1
    obtain ⟨j, rfl⟩ := Int.eq_ofNat_of_zero_le hx0
    have hwl : (writeU (List.replicate k 0) pre).length = k := by rw [writeU_len, List.length_replicate]
    have hjk : j < k := by omega
    obtain ⟨y, hy9⟩ : ∃ y, (writeU (List.replicate k 0) pre)[j]? = some y := ⟨_, List.getElem?_eq_getElem (by omega)⟩
    have e0 := hy.cell
    have e1 := hC.am.at.2
    simp only at e1
    rw [hwl] at e1
    have e2 := hC.am.get hy9
    have e3 := hC.am.frozen j
    have hpg : P.g < w6.heap.size := hC.old _ (AmP.mem.2 (.inr (.inl rfl)))
    have hC1 := hC.set j xn
    simp only at hC1
    have hv1 := hv.other (B' := P.g) (by omega) (u := .int .i64 xn)
    have hrow0 : OwnOf zCells 1 3 W (w6.heap.size + 1) v9 (outU pre) := by unfold OwnOf; rw [z_flat]; exact hrow
    have hrow1 : OwnOf zCells 1 3 (W.setCell ⟨P.g, j, none⟩ (.int .i64 xn)) (w6.heap.size + 1) v9 (outU pre) := OwnOf.kept hrow0 fun b e => heap_setCell_other W ⟨P.g, j, none⟩ b _ (by have h1 := (OwnOf.lt hrow0 e).1; first | exact fun e => by (have e : P.g = b := e); omega | exact fun e => by (have e : b = P.g := e); omega)
    have hv1 : Boxed (W.setCell ⟨P.g, j, none⟩ (.int .i64 xn)) (w6.heap.size + 1) 39 v9 := (heap_setCell_other W ⟨P.g, j, none⟩ _ _ (by first | exact fun e => by (have e : P.g = w6.heap.size + 1 := e); omega | exact fun e => by (have e : w6.heap.size + 1 = P.g := e); omega)).trans hv
    have hy1 : Boxed (W.setCell ⟨P.g, j, none⟩ (.int .i64 xn)) w6.heap.size 73 (.pointer (some ⟨P.a, 0, none⟩)) := (heap_setCell_other W ⟨P.g, j, none⟩ _ _ (by first | exact fun e => by (have e : P.g = w6.heap.size := e); omega | exact fun e => by (have e : w6.heap.size = P.g := e); omega)).trans hy
    have hk1 := KeepsOthers.setCell W ⟨P.g, j, none⟩ (.int .i64 xn)
    have hp1 : (W.setCell ⟨P.g, j, none⟩ (.int .i64 xn)).heap[(S i).g]? = W.heap[(S i).g]? := heap_setCell_other W ⟨P.g, j, none⟩ _ _ (by have h1 := HGG.out; first | exact fun e => h1 e | exact fun e => h1 e.symm)
    have hsn : outU (pre ++ [⟨⟨(j : Int), xn⟩, hx0, hx1⟩]) = outU pre ++ [xn] := outU_snoc
    have hws : writeU (List.replicate k 0) (pre ++ [⟨⟨(j : Int), xn⟩, hx0, hx1⟩]) = (writeU (List.replicate k 0) pre).set j xn := by rw [writeU_snoc]; simp only [Int.toNat_natCast]
    have hs1 := hC1.turn.size
    have hol : (outU pre).length ≤ 4096 := by unfold outU; rw [List.length_map]; omega
    have hrow2 : (W.setCell ⟨P.g, j, none⟩ (.int .i64 xn)).ownsRow (w6.heap.size + 1) 3 1 v9 (outU pre).length ((outU pre).map (Value.int .i64)) := by have := hrow1; unfold OwnOf at this; rwa [z_flat] at this
    have HSn := Lib.hid hsn
    have HWs := Lib.hid hws
    rw [← hws] at hC1
    have HC1 := Lib.hid hC1
    have HV := Lib.hid hv1
    have HR := Lib.hid hrow2
    have HY := Lib.hid hy1
    have HK1 := Lib.hid hk1
    have HP1 := Lib.hid hp1
    have hc := hv1.cell
    have hws := hv1.lt
    obtain ⟨xs, hxs⟩ : ∃ xs, outU pre = xs := ⟨_, rfl⟩
    rw [hxs] at HSn HR hol
    obtain ⟨a9, cc, rfl⟩ := OwnOf.form (cells := zCells) (xs := xs) (by unfold OwnOf; rw [z_flat]; exact HR.out)
    have q2 : (0 : Int) ≤ j := by omega
    have q3 : (j : Int) < (k : Int) := by omega
    clear hv hrow hy hC hC1 hrow0 hrow1 hrow2 hv1 hy1 hk1 hp1 hsn hxs hwl hy9
    generalize hW1 : W.setCell ⟨P.g, j, none⟩ (.int .i64 xn) = W1 at *
    gi_wp2_with (gi_at_builtin; refine wpListIn_append_own _ rfl _ _ 39 rfl (w6.heap.size + 1) 3 i0 (.int .i64 0) 1 8 Try.underlying39 hi hz0 hz1 hz2 rfl (by decide) _ _ _ rfl (HR.out.alloc _) ⟨W1.heap.size, 0, none⟩ 1 1 [.int .i64 xn] rfl rfl (cell_one_new _ _ _) (by simp [Value.oneCell']) (by unfold maxLen; omega) (by omega) (by simp; omega) ?_; intro v' w2 hown' hgrow _; obtain ⟨g', cap', rfl⟩ := ownsRow_succ hown'; obtain ⟨hv1, hv2, hr2, hk2, hb2⟩ := HV.out.appended (by decide) HR.out (by omega) (Nat.le_refl _) hown' hgrow; have hc1 := hv1.cell; have hf1 := hv1.frozen)
    refine ⟨(HK1.out.trans hk2).from _, fun k hk => ?_, ⟨_, hv2, ?_, trivial⟩, (hb2.block _ (Nat.lt_succ_self _)).trans HY.out, HC1.out.kept hb2.os hb2.tape hb2.output hb2.size fun b hb => hb2.block b (by omega)⟩
    · have e := List.mem_singleton.1 hk
      subst e
      exact (hb2.block _ (by have := HGL.out; omega)).trans HP1.out
    · rw [HSn.out, List.map_append, List.length_append]
      exact hr2
  case done =>
    rintro D ys W hD rfl ⟨⟨v, hv, hrow, _⟩, hy, hC⟩ hK
    have hc := hv.cell
    have HR := Lib.hid hrow
    have HC := Lib.hid hC
    have HKD := Lib.hid hK
    obtain ⟨a, cc, rfl⟩ := OwnOf.form (cells := zCells) (xs := outU (uAll zs)) (by unfold OwnOf; rw [z_flat]; exact hrow)
    clear hv hrow hy hC hK
    go_wp2_with fail
    go_quiet (fail)
    have HNq := Lib.hid (grown_draws W nq)
    have HKq := Lib.hid (show (W.drewN nq).heap[D]? = some (.deferred (some [])) from HKD.out)
    have HRq := Lib.hid (OwnOf.grow (cells := zCells) (xs := outU (uAll zs)) (by unfold OwnOf; rw [z_flat]; exact HR.out) (grown_draws W nq))
    generalize hWq : W.drewN nq = Wq at *
    go_wp2_with fail
    refine ⟨by simp, .inl ⟨_, _, rfl, run_takeDeferred HKq.out, ?_⟩⟩
    refine ⟨_, results_tmp3 rfl _ _ _, ?_⟩
    have hgq := grownBy_putObj' Wq D (.deferred none)
    have hw6 : w.heap.size ≤ w6.heap.size := Nat.le_trans HG1.out.size HTa.out.size
    have hC := (HC.out.grown HNq.out (fun r e => by cases e)).grown hgq (fun r e => by cases e; omega)
    rw [← HZL.out, writeU_all, HZL.out] at hC
    have hp9 := PoolA.turned dsS HPa.out (i := f) (x := newA k) (by rw [put_at hfl, if_pos rfl]) hC.am (by rw [updA_same]) (by rw [updA_same]; exact hC.turn.mono fun b hb => AmP.mem.2 (.inr (.inl (List.mem_singleton.1 hb)))) (fun b hb => by rw [updA_same]; exact .inl hb)
    rw [put_set hfl, upd_upd] at hp9
    obtain ⟨m1, m2, m3⟩ := hp9
    have hw1 := HG1.out.size
    rw [HE2.out]
    refine ⟨_, _, rfl, ?_, fun b e => ?_, ⟨⟨v, updA S f P, m1, HG0.out, rfl⟩, ((Turn.grown HG1.out).trans' HTa.out).trans m2 (fun b hb => ?_), fun b hb => ?_⟩, fun b e hb => ?_⟩
    · rw [← outU_all]
      refine OwnOf.row (base := w6.heap.size + 1) (t := 3) ?_
      unfold OwnOf
      have := HRq.out
      unfold OwnOf at this
      rw [z_flat] at this ⊢
      exact ownsRow_putObj this _ HKq.out rfl
    · have := (OwnOf.lt HRq.out e).1
      omega
    · rcases HOa.out b hb with h | h
      · exact .inl h
      · exact .inr (Nat.le_trans hw1 h)
    · rcases m3 b hb with h | h
      · rcases HOa.out b h with h | h
        · exact .inl h
        · exact .inr (Nat.le_trans hw1 h)
      · exact .inr (Nat.le_trans hw6 h)
    · have h1 := (OwnOf.lt HRq.out e).1
      have h2 := HPa.out.lt dsS b (blkA_same hfl hb)
      omega
  case stop =>
    intro D c pre W _ _ hx
    exact hx.elim
end
end Go.Proofs.Ytfmihbiongnpnaa
