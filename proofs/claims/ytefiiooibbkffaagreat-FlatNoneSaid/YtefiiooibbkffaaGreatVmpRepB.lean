/- Layer 16: slices.Replace at entries: its ways. Layer 16: slices.Insert and slices.Replace at entries, whatever the room. -/
import Derived.Test.YtefiiooibbkffaaGreatVmpInsG
import Derived.BigQuiet
namespace Go.Proofs.YtefiiooibbkffaaGreat
open Go.ChangeShapes Go.WideShapes Go.ChangeAt Go.RowKit Go.Deep
set_option linter.unusedVariables false
set_option linter.unusedSimpArgs false
set_option maxHeartbeats 4000000 in
set_option maxRecDepth 100000 in
/-- There is no room: a new row. -/
theorem replace_grow {w : World} {base bu g cap : Nat} {u : Value} {L M : List En} {C : List Value} (hg : Slab w g C) (hCl : C.length = cap * 10) (hC : C.take (L.length * 10) = L.flatMap enCells) (hlc : L.length ≤ cap) (hu : EOwn w bu u M) (hb : base ≤ w.heap.size) (hl : L.length ≤ 100000) (hm : M.length ≤ 100000) (i j : Nat) (hij : i < j) (hj : j < L.length) (HNO : cap < i + M.length + (L.length - j)) :
    Calls Tryz.prog 186 #[.slice (some ⟨g, 0, none⟩) L.length cap, .int .i64 i, .int .i64 j, u] w fun e w' => ∃ v', e = .returned v' ∧ EOwn w' base v' (L.take i ++ M ++ L.drop j) ∧ (∀ b, v'.ownBlock = some b → w.heap.size ≤ b) ∧ w.grownBy w' none := by
  obtain ⟨su, cu, hv2⟩ := OwnOf.form hu
  subst hv2
  obtain ⟨n, hn⟩ : ∃ n, L.length = n := ⟨_, rfl⟩
  obtain ⟨m, hm'⟩ : ∃ m, M.length = m := ⟨_, rfl⟩
  rw [hn] at hl hj hC hlc ⊢
  try rw [hn] at HNO
  rw [hm'] at hm hu ⊢
  try rw [hm'] at HNO
  obtain ⟨d, hd⟩ : ∃ d, n - j = d := ⟨_, rfl⟩
  have hz : ¬ ((i : Int) = (j : Int)) := by omega
  have hz2 : ¬ ((j : Int) = (n : Int)) := by omega
  have hs0 := fun W => run_between W (some ⟨g, 0, none⟩) n cap i j (by omega) (by omega)
  obtain ⟨p0, e0, -, -⟩ := sl_at g i j cap
  rw [e0] at hs0
  have hs1 := fun W => run_to W (some ⟨g, 0, none⟩) n cap i (by omega)
  obtain ⟨p1, e1, -, q1⟩ := sl_at g 0 i cap
  rw [e1, q1 (by omega)] at hs1
  simp only [Nat.zero_mul, Nat.sub_zero] at hs1
  have hs4 := fun W => run_from W (some ⟨g, 0, none⟩) n cap j (by omega) hlc
  obtain ⟨p4, e4, -, q4⟩ := sl_at g j n cap
  rw [e4, q4 (by omega), hd] at hs4
  have hMl : (M.flatMap enCells).length = m * 10 := by rw [flat_size, hm']
  have hDl : ((L.drop j).flatMap enCells).length = d * 10 := by rw [flat_size, List.length_drop, hn, hd]
  have hlen : (L.take i ++ M ++ L.drop j).length = i + m + d := by simp; omega
  rw [hd] at HNO
  have b1 : decide ((i : Int) + (m : Int) + (d : Int) > (cap : Int)) = true := decide_eq_true (by omega)
  have hw1' : IntKind.i64.wrap ((i : Int) + (m : Int)) = (i : Int) + (m : Int) := by rw [IntKind.wrap_i64]; omega
  have hw2' : IntKind.i64.wrap ((i : Int) + (m : Int) + (d : Int)) = (i : Int) + (m : Int) + (d : Int) := by rw [IntKind.wrap_i64]; omega
  have ha1 : (0 : Int) ≤ (i : Int) + (m : Int) := by omega
  have ha2 : (i : Int) + (m : Int) ≤ (i : Int) + (m : Int) + (d : Int) := by omega
  have ha3 : ((i : Int) + (m : Int)).toNat = i + m := by omega
  have ha4 : ¬ (cap = i) := by omega
  have ha5 : ¬ (cap = j) := by omega
  have ha6 : (i : Int) ≤ (n : Int) := by omega
  have ha7 : (i : Int) ≤ (cap : Int) := by omega
  have ha8 : (j : Int) ≤ (n : Int) := by omega
  have ha9 : ¬ (cap = 0) := by omega
  have hd9 : d ≤ 100000 := by omega
  have hi9 : i ≤ 100000 := by omega
  have hj9 : j ≤ 100000 := by omega
  have HGq0 := Lib.hid hg
  have HCq := Lib.hid hC
  have HU := Lib.hid hu
  have HNn := Lib.hid hn
  have HNm := Lib.hid hm'
  have HLn := Lib.hid hlen
  have HD0 := Lib.hid hd
  have HMl := Lib.hid hMl
  have HDl := Lib.hid hDl
  have HCl := Lib.hid hCl
  have HG0 := Lib.hid hg
  clear hg hC hu hn hm' hlen hd hMl hDl hCl e0 e1 e4 q1 q4
  go_enter Tryz.func186, Tryz.ntmps186
  go_wp2_with fail
  go_quiet (fail)
  rename_i nq
  obtain ⟨wq, hwq⟩ : ∃ wq, w.drewN nq = wq := ⟨_, rfl⟩
  have gq : w.grownBy wq none := by rw [← hwq]; exact grown_draws w nq
  have HGq := Lib.hid (show Slab wq g C by rw [← hwq]; exact HGq0.out)
  rw [hwq]
  clear hwq
  have hn := HNn.out
  have hm' := HNm.out
  have hlen := HLn.out
  have hd := HD0.out
  have hMl := HMl.out
  have hDl := HDl.out
  have hCl := HCl.out
  obtain ⟨cc, D, hap, hcc1, hcc2, hD, hDi⟩ := grow_zeros (w := wq) HGq.out HCq.out (show i ≤ n by omega) HNn.out HCl.out (m + d) (by omega) (by omega) (by omega)
  rw [← Nat.add_assoc] at hcc1
  rw [show ((m + d : Nat) : Int) = (i : Int) + (m : Int) + (d : Int) - (i : Int) by omega, ← Nat.add_assoc] at hap
  obtain ⟨w1, hw1⟩ : ∃ w1, wq.drew.alloc (.cells D.toArray 50) = w1 := ⟨_, rfl⟩
  obtain ⟨G, hG⟩ : ∃ G, wq.heap.size = G := ⟨_, rfl⟩
  simp only [hw1] at hap
  rw [hG] at hap
  have g1 : w.grownBy w1 none := by rw [← hw1]; exact grown_trans gq (grown_trans (grown_drew1 _) (World.grownBy_alloc _ _ _))
  have s1 : Slab w1 G D := by rw [← hw1, ← hG]; exact heap_alloc_new wq.drew _
  have hgG : g < G := by rw [← hG]; exact HGq.out.lt
  have hwG : w.heap.size ≤ G := by rw [← hG]; exact gq.size
  have gs : Slab w1 g C := HG0.out.grow g1 (by simp)
  have hu1 := eown_grow0 HU.out g1
  have hs2 : ∀ W, (Instr.slice 47 (.slice (some ⟨G, 0, none⟩) (i + m + d) cc) (some (.int .i64 (i : Int))) none none).run Tryz.prog W = .ok (sliced (some ⟨G, 0, none⟩) i (i + m + d) cc 10) W := fun W => run_from W (some ⟨G, 0, none⟩) (i + m + d) cc i (by omega) hcc1
  obtain ⟨p2, e2, -, q2⟩ := sl_at G i (i + m + d) cc
  rw [e2, q2 (by omega)] at hs2
  have hcp1 := fun ty => run_copy10 w1 ty (some ⟨G, i * 10, none⟩) su (i + m + d - i) (cc - i) m cu m G (i * 10) D (M.flatMap enCells) (by simp only [Nat.min_def]; split <;> omega) HMl.out (fun h => ⟨rfl, row_src hu1 (by rw [HNm.out]; exact h)⟩) s1 (by omega) (en_ones M)
  obtain ⟨w2, hw2⟩ : ∃ w2, w1.setRow G (putC D (i * 10) (M.flatMap enCells)).toArray = w2 := ⟨_, rfl⟩
  simp only [hw2] at hcp1
  have s2 : Slab w2 G (putC D (i * 10) (M.flatMap enCells)) := by rw [← hw2]; exact slab_put s1
  have g2 : w1.grownBy w2 (some G) := by rw [← hw2]; exact grown_put _ _ _
  have gs2 : Slab w2 g C := gs.grow g2 (by simp; omega)
  have hs3 : ∀ W, (Instr.slice 47 (.slice (some ⟨G, 0, none⟩) (i + m + d) cc) (some (.int .i64 ((i : Int) + (m : Int)))) none none).run Tryz.prog W = .ok (sliced (some ⟨G, 0, none⟩) (i + m) (i + m + d) cc 10) W := fun W => by
    have := run_from W (some ⟨G, 0, none⟩) (i + m + d) cc (i + m) (by omega) hcc1
    rwa [Int.natCast_add] at this
  obtain ⟨p3, e3, -, q3⟩ := sl_at G (i + m) (i + m + d) cc
  rw [e3, q3 (by omega)] at hs3
  have hPl : (putC D (i * 10) (M.flatMap enCells)).length = cc * 10 := by rw [putC_len (by rw [HMl.out]; omega), hD]
  have hcp2 := fun ty => run_copy10 w2.drew ty (some ⟨G, (i + m) * 10, none⟩) (some ⟨g, j * 10, none⟩) (i + m + d - (i + m)) (cc - (i + m)) d (cap - j) d G ((i + m) * 10) _ ((L.drop j).flatMap enCells) (by simp only [Nat.min_def]; split <;> omega) HDl.out
    (fun h => ⟨rfl, _, rfl, fun q v hq => by rw [Addr.add_mid]; exact Slab.cell (C := C) gs2 (slab_part HCq.out HNn.out j hq)⟩) s2 (by omega) (en_ones _)
  obtain ⟨E, hE⟩ : ∃ E, putC (putC D (i * 10) (M.flatMap enCells)) ((i + m) * 10) ((L.drop j).flatMap enCells) = E := ⟨_, rfl⟩
  rw [hE] at hcp2
  obtain ⟨w3, hw3⟩ : ∃ w3, w2.drew.setRow G E.toArray = w3 := ⟨_, rfl⟩
  simp only [hw3] at hcp2
  have s3 : Slab w3 G E := by rw [← hw3]; exact slab_put (w := w2.drew) s2
  have g3 : w2.grownBy w3 (some G) := by rw [← hw3]; exact grown_at' (grown_drew1 w2) (grown_put _ _ _)
  have hEl : E.length = cc * 10 := by rw [← hE, putC_len (by rw [HDl.out]; omega), hPl]
  have hown : EOwn w3 base (.slice (some ⟨G, 0, none⟩) (i + m + d) cc) (L.take i ++ M ++ L.drop j) := by
    rw [← HLn.out]
    refine slab_own (by omega) s3 (by omega) hcc2 hEl (three_take (i := i) (m := m) (d := d) (by rw [List.length_take, HNn.out]; omega) HNm.out (by rw [List.length_drop, HNn.out, HD0.out]) (fun q hq => ?_) (fun q hq => ?_) fun q hq => ?_)
    · rw [← hE, putC_get (by first | omega | (rw [HMl.out]; omega) | (rw [HDl.out]; omega)), if_pos (by omega), putC_get (by first | omega | (rw [HMl.out]; omega) | (rw [HDl.out]; omega)), if_pos hq]
      exact hDi q hq
    · rw [← hE, putC_get (by first | omega | (rw [HMl.out]; omega) | (rw [HDl.out]; omega)), if_pos (by omega), putC_get (by first | omega | (rw [HMl.out]; omega) | (rw [HDl.out]; omega)), if_neg (by omega), if_pos (by omega)]
      congr 1
      omega
    · rw [← hE, putC_get (by first | omega | (rw [HMl.out]; omega) | (rw [HDl.out]; omega)), if_neg (by omega), if_pos (by omega)]
      congr 1
      omega
  have hb2 : ¬ (cc = i + m) := by omega
  have HW := Lib.hid (grown_at (grown_at g1 g2 (by omega)) g3 (by omega))
  have HO := Lib.hid hown
  have HAP := Lib.hid hap
  have HC2 := Lib.hid hcp2
  clear hap hcp2 hown g1 s1 gs hu1 s2 g2 gs2 s3 g3 hE hw1 hw2 hw3 hEl hPl hD hDi e2 e3 q2 q3 gq hn hm' hlen hd hMl hDl hCl
  go_wp2_with (at_builtin; refine Lib.wpList_append_run _ rfl _ _ _ _ rfl _ _ rfl rfl _ _ (HAP.out _) ?_)
  go_region_law (refine step_copyE rfl _ _ rfl _ _ (by simp [Act.eval, Act.put]) (by simp [Act.eval, Act.put]) (HC2.out _) ?_)
  go_wp2_with fail
  go_ret
  exact ⟨_, rfl, HO.out, fun b hb => by have e : G = b := Option.some.inj hb; omega, HW.out⟩

set_option maxHeartbeats 4000000 in
set_option maxRecDepth 100000 in
/-- What is put in is not longer than what goes: the rest goes down. -/
theorem replace_down {w : World} {base bu g cap : Nat} {u : Value} {L M : List En} {C : List Value} (hbg : base ≤ g) (hg : Slab w g C) (hCl : C.length = cap * 10) (hcm : cap ≤ maxLen) (hC : C.take (L.length * 10) = L.flatMap enCells) (hlc : L.length ≤ cap) (hu : EOwn w bu u M) (hne : u.ownBlock ≠ some g) (hl : L.length ≤ 100000) (hm : M.length ≤ 100000) (i j : Nat) (hij : i < j) (hj : j < L.length) (HNO : i + M.length ≤ j) :
    Calls Tryz.prog 186 #[.slice (some ⟨g, 0, none⟩) L.length cap, .int .i64 i, .int .i64 j, u] w fun e w' => ∃ v', e = .returned v' ∧ EOwn w' base v' (L.take i ++ M ++ L.drop j) ∧ (∀ b, v'.ownBlock = some b → b = g) ∧ w.grownBy w' (some g) := by
  obtain ⟨su, cu, hv2⟩ := OwnOf.form hu
  subst hv2
  obtain ⟨n, hn⟩ : ∃ n, L.length = n := ⟨_, rfl⟩
  obtain ⟨m, hm'⟩ : ∃ m, M.length = m := ⟨_, rfl⟩
  rw [hn] at hl hj hC hlc ⊢
  try rw [hn] at HNO
  rw [hm'] at hm hu ⊢
  try rw [hm'] at HNO
  obtain ⟨d, hd⟩ : ∃ d, n - j = d := ⟨_, rfl⟩
  have hz : ¬ ((i : Int) = (j : Int)) := by omega
  have hz2 : ¬ ((j : Int) = (n : Int)) := by omega
  have hs0 := fun W => run_between W (some ⟨g, 0, none⟩) n cap i j (by omega) (by omega)
  obtain ⟨p0, e0, -, -⟩ := sl_at g i j cap
  rw [e0] at hs0
  have hs1 := fun W => run_to W (some ⟨g, 0, none⟩) n cap i (by omega)
  obtain ⟨p1, e1, -, q1⟩ := sl_at g 0 i cap
  rw [e1, q1 (by omega)] at hs1
  simp only [Nat.zero_mul, Nat.sub_zero] at hs1
  have hs4 := fun W => run_from W (some ⟨g, 0, none⟩) n cap j (by omega) hlc
  obtain ⟨p4, e4, -, q4⟩ := sl_at g j n cap
  rw [e4, q4 (by omega), hd] at hs4
  have hMl : (M.flatMap enCells).length = m * 10 := by rw [flat_size, hm']
  have hDl : ((L.drop j).flatMap enCells).length = d * 10 := by rw [flat_size, List.length_drop, hn, hd]
  have hlen : (L.take i ++ M ++ L.drop j).length = i + m + d := by simp; omega
  have b1 : decide ((i : Int) + (m : Int) + (d : Int) > (cap : Int)) = false := decide_eq_false (by omega)
  have b2 : decide ((i : Int) + (m : Int) ≤ (j : Int)) = true := decide_eq_true (by omega)
  have hT : i + m + d ≤ n := by omega
  have hs5 : ∀ W, (Instr.slice 47 (.slice (some ⟨g, 0, none⟩) n cap) none (some (.int .i64 ((i : Int) + (m : Int) + (d : Int)))) none).run Tryz.prog W = .ok (.slice (some ⟨g, 0, none⟩) (i + m + d) cap) W := fun W => by
    have := run_to W (some ⟨g, 0, none⟩) n cap (i + m + d) (by omega)
    obtain ⟨p, e, -, q⟩ := sl_at g 0 (i + m + d) cap
    rw [e, q (by omega)] at this
    simp only [Int.natCast_add, Nat.zero_mul, Nat.sub_zero] at this
    exact this
  have hw1' : IntKind.i64.wrap ((i : Int) + (m : Int)) = (i : Int) + (m : Int) := by rw [IntKind.wrap_i64]; omega
  have hw2' : IntKind.i64.wrap ((i : Int) + (m : Int) + (d : Int)) = (i : Int) + (m : Int) + (d : Int) := by rw [IntKind.wrap_i64]; omega
  have ha1 : (0 : Int) ≤ (i : Int) + (m : Int) := by omega
  have ha2 : (i : Int) + (m : Int) ≤ (i : Int) + (m : Int) + (d : Int) := by omega
  have ha3 : ((i : Int) + (m : Int)).toNat = i + m := by omega
  have ha4 : ¬ (cap = i) := by omega
  have ha5 : ¬ (cap = j) := by omega
  have ha6 : (i : Int) ≤ (n : Int) := by omega
  have ha7 : (i : Int) ≤ (cap : Int) := by omega
  have ha8 : (j : Int) ≤ (n : Int) := by omega
  have ha9 : ¬ (cap = 0) := by omega
  have hd9 : d ≤ 100000 := by omega
  have hi9 : i ≤ 100000 := by omega
  have hj9 : j ≤ 100000 := by omega
  have HNE := Lib.hid hne
  have HGq0 := Lib.hid hg
  have HCq := Lib.hid hC
  have HU := Lib.hid hu
  have HNn := Lib.hid hn
  have HNm := Lib.hid hm'
  have HLn := Lib.hid hlen
  have HD0 := Lib.hid hd
  have HMl := Lib.hid hMl
  have HDl := Lib.hid hDl
  have HCl := Lib.hid hCl
  clear hg hC hu hn hm' hlen hd hMl hDl hCl e0 e1 e4 q1 q4
  go_enter Tryz.func186, Tryz.ntmps186
  go_wp2_with fail
  go_quiet (fail)
  rename_i nq
  obtain ⟨wq, hwq⟩ : ∃ wq, w.drewN nq = wq := ⟨_, rfl⟩
  have gq : w.grownBy wq none := by rw [← hwq]; exact grown_draws w nq
  have hg : Slab wq g C := by rw [← hwq]; exact HGq0.out
  rw [hwq]
  clear hwq
  have hn := HNn.out
  have hm' := HNm.out
  have hlen := HLn.out
  have hd := HD0.out
  have hMl := HMl.out
  have hDl := HDl.out
  have hCl := HCl.out
  have hC := HCq.out
  -- the elements that are put in
  have hs2 := fun W => run_from W (some ⟨g, 0, none⟩) (i + m + d) cap i (by omega) (by omega)
  obtain ⟨p2, e2, -, q2⟩ := sl_at g i (i + m + d) cap
  rw [e2, q2 (by omega)] at hs2
  have hu1 := eown_grow0 HU.out gq
  have hcp1 := fun ty => run_copy10 wq ty (some ⟨g, i * 10, none⟩) su (i + m + d - i) (cap - i) m cu m g (i * 10) C (M.flatMap enCells) (by simp only [Nat.min_def]; split <;> omega) hMl (fun h => ⟨rfl, row_src hu1 (by rw [hm']; exact h)⟩) hg (by omega) (en_ones M)
  obtain ⟨w2, hw2⟩ : ∃ w2, wq.setRow g (putC C (i * 10) (M.flatMap enCells)).toArray = w2 := ⟨_, rfl⟩
  simp only [hw2] at hcp1
  have s2 : Slab w2 g (putC C (i * 10) (M.flatMap enCells)) := by rw [← hw2]; exact slab_put hg
  have g2 : wq.grownBy w2 (some g) := by rw [← hw2]; exact grown_put _ _ _
  have hPl : (putC C (i * 10) (M.flatMap enCells)).length = cap * 10 := by rw [putC_len (by omega), hCl]
  -- the rest behind them
  have hs3 : ∀ W, (Instr.slice 47 (.slice (some ⟨g, 0, none⟩) (i + m + d) cap) (some (.int .i64 ((i : Int) + (m : Int)))) none none).run Tryz.prog W = .ok (sliced (some ⟨g, 0, none⟩) (i + m) (i + m + d) cap 10) W := fun W => by
    have := run_from W (some ⟨g, 0, none⟩) (i + m + d) cap (i + m) (by omega) (by omega)
    rwa [Int.natCast_add] at this
  obtain ⟨p3, e3, -, q3⟩ := sl_at g (i + m) (i + m + d) cap
  rw [e3, q3 (by omega)] at hs3
  have hsrc : ∀ (q : Nat) v, ((L.drop j).flatMap enCells)[q]? = some v → (putC C (i * 10) (M.flatMap enCells))[j * 10 + q]? = some v := fun q v hq => by
    rw [putC_get (by omega), if_neg (by omega), if_neg (by omega)]
    exact slab_part hC hn j hq
  have hcp2 := fun ty => run_copy10 w2.drew ty (some ⟨g, (i + m) * 10, none⟩) (some ⟨g, j * 10, none⟩) (i + m + d - (i + m)) (cap - (i + m)) d (cap - j) d g ((i + m) * 10) _ ((L.drop j).flatMap enCells) (by simp only [Nat.min_def]; split <;> omega) hDl
    (fun h => ⟨rfl, _, rfl, fun q v hq => by rw [Addr.add_mid]; exact Slab.cell (w := w2.drew) s2 (hsrc q v hq)⟩) s2 (by omega) (en_ones _)
  obtain ⟨E, hE⟩ : ∃ E, putC (putC C (i * 10) (M.flatMap enCells)) ((i + m) * 10) ((L.drop j).flatMap enCells) = E := ⟨_, rfl⟩
  rw [hE] at hcp2
  obtain ⟨w3, hw3⟩ : ∃ w3, w2.drew.setRow g E.toArray = w3 := ⟨_, rfl⟩
  simp only [hw3] at hcp2
  have s3 : Slab w3 g E := by rw [← hw3]; exact slab_put (w := w2.drew) s2
  have g3 : w2.grownBy w3 (some g) := by rw [← hw3]; exact grown_at' (grown_drew1 w2) (grown_put _ _ _)
  have hEl : E.length = cap * 10 := by rw [← hE, putC_len (by omega), hPl]
  -- what is behind is cleared
  have hs6 : ∀ W, (Instr.slice 47 (.slice (some ⟨g, 0, none⟩) n cap) (some (.int .i64 ((i : Int) + (m : Int) + (d : Int)))) none none).run Tryz.prog W = .ok (sliced (some ⟨g, 0, none⟩) (i + m + d) n cap 10) W := fun W => by
    have := run_from W (some ⟨g, 0, none⟩) n cap (i + m + d) (by omega) (by omega)
    simp only [Int.natCast_add] at this
    exact this
  obtain ⟨p6, e6, -, q6⟩ := sl_at g (i + m + d) n cap
  rw [e6] at hs6
  have hcl := fun ty => run_clear10 w3 ty (some p6) (n - (i + m + d)) (cap - (i + m + d)) g ((i + m + d) * 10) E (fun h => by rw [q6 (by omega)]) s3 (by omega)
  obtain ⟨E2, hE2⟩ : ∃ E2, putC E ((i + m + d) * 10) (zerosC (n - (i + m + d))) = E2 := ⟨_, rfl⟩
  rw [hE2] at hcl
  obtain ⟨w4, hw4⟩ : ∃ w4, w3.setRow g E2.toArray = w4 := ⟨_, rfl⟩
  simp only [hw4] at hcl
  have s4 : Slab w4 g E2 := by rw [← hw4]; exact slab_put s3
  have g4 : w3.grownBy w4 (some g) := by rw [← hw4]; exact grown_put _ _ _
  have hzl := zerosC_len (n - (i + m + d))
  have hE2l : E2.length = cap * 10 := by rw [← hE2, putC_len (by omega), hEl]
  have hbe : ∀ q, q < (i + m + d) * 10 → E2[q]? = E[q]? := fun q hq => by rw [← hE2, putC_get (by omega), if_pos hq]
  have hown : EOwn w4 base (.slice (some ⟨g, 0, none⟩) (i + m + d) cap) (L.take i ++ M ++ L.drop j) := by
    rw [← hlen]
    refine slab_own hbg s4 (by omega) hcm hE2l (three_take (i := i) (m := m) (d := d) (by rw [List.length_take]; omega) hm' (by rw [List.length_drop, hn, hd]) (fun q hq => ?_) (fun q hq => ?_) fun q hq => ?_)
    · rw [hbe q (by omega), ← hE, putC_get (by omega), if_pos (by omega), putC_get (by omega), if_pos hq]
      exact take_get hC i q (by omega) hq
    · rw [hbe _ (by omega), ← hE, putC_get (by omega), if_pos (by omega), putC_get (by omega), if_neg (by omega), if_pos (by omega)]
      congr 1
      omega
    · rw [hbe _ (by omega), ← hE, putC_get (by omega), if_neg (by omega), if_pos (by omega)]
      congr 1
      omega
  have hb2 : ¬ (cap = i + m) := by omega
  have HW := Lib.hid (grown_trans (grown_none gq) (grown_trans (grown_trans g2 g3) g4))
  have HO := Lib.hid hown
  have HC2 := Lib.hid hcp2
  clear hcp2 hown hu1 s2 g2 s3 g3 s4 g4 hE hE2 hw2 hw3 hw4 hEl hE2l hPl hzl hbe hsrc e2 e3 e6 q2 q3 q6 gq hn hm' hlen hd hMl hDl hCl hC hg
  go_wp2_with fail
  go_region_law (refine step_copyE rfl _ _ rfl _ _ (by simp [Act.eval, Act.put]) (by simp [Act.eval, Act.put]) (HC2.out _) ?_)
  go_wp2_with fail
  go_ret
  exact ⟨_, rfl, HO.out, fun b hb => by have e : g = b := Option.some.inj hb; exact e.symm, HW.out⟩

set_option maxHeartbeats 4000000 in
set_option maxRecDepth 100000 in
/-- What is put in is longer than what goes: the rest goes up. -/
theorem replace_up {w : World} {base bu g cap : Nat} {u : Value} {L M : List En} {C : List Value} (hbg : base ≤ g) (hg : Slab w g C) (hCl : C.length = cap * 10) (hcm : cap ≤ maxLen) (hC : C.take (L.length * 10) = L.flatMap enCells) (hlc : L.length ≤ cap) (hu : EOwn w bu u M) (hne : u.ownBlock ≠ some g) (hl : L.length ≤ 100000) (hm : M.length ≤ 100000) (i j : Nat) (hij : i < j) (hj : j < L.length) (HNO : j < i + M.length ∧ i + M.length + (L.length - j) ≤ cap) :
    Calls Tryz.prog 186 #[.slice (some ⟨g, 0, none⟩) L.length cap, .int .i64 i, .int .i64 j, u] w fun e w' => ∃ v', e = .returned v' ∧ EOwn w' base v' (L.take i ++ M ++ L.drop j) ∧ (∀ b, v'.ownBlock = some b → b = g) ∧ w.grownBy w' (some g) := by
  rcases own_slab hu with ⟨-, hnil⟩ | ⟨h, cu, U, hv2, -, hh, hmu, -, hUl, -⟩
  · rw [hnil] at HNO
    simp only [List.length_nil] at HNO
    omega
  subst hv2
  have hgh : h ≠ g := fun e => hne (by rw [e]; rfl)
  obtain ⟨n, hn⟩ : ∃ n, L.length = n := ⟨_, rfl⟩
  obtain ⟨m, hm'⟩ : ∃ m, M.length = m := ⟨_, rfl⟩
  rw [hn] at hl hj hC hlc ⊢
  try rw [hn] at HNO
  rw [hm'] at hm hu ⊢
  try rw [hm'] at HNO
  obtain ⟨d, hd⟩ : ∃ d, n - j = d := ⟨_, rfl⟩
  have hz : ¬ ((i : Int) = (j : Int)) := by omega
  have hz2 : ¬ ((j : Int) = (n : Int)) := by omega
  have hs0 := fun W => run_between W (some ⟨g, 0, none⟩) n cap i j (by omega) (by omega)
  obtain ⟨p0, e0, -, -⟩ := sl_at g i j cap
  rw [e0] at hs0
  have hs1 := fun W => run_to W (some ⟨g, 0, none⟩) n cap i (by omega)
  obtain ⟨p1, e1, -, q1⟩ := sl_at g 0 i cap
  rw [e1, q1 (by omega)] at hs1
  simp only [Nat.zero_mul, Nat.sub_zero] at hs1
  have hs4 := fun W => run_from W (some ⟨g, 0, none⟩) n cap j (by omega) hlc
  obtain ⟨p4, e4, -, q4⟩ := sl_at g j n cap
  rw [e4, q4 (by omega), hd] at hs4
  have hMl : (M.flatMap enCells).length = m * 10 := by rw [flat_size, hm']
  have hDl : ((L.drop j).flatMap enCells).length = d * 10 := by rw [flat_size, List.length_drop, hn, hd]
  have hlen : (L.take i ++ M ++ L.drop j).length = i + m + d := by simp; omega
  rw [hm'] at hmu
  rw [hd] at HNO
  have b1 : decide ((i : Int) + (m : Int) + (d : Int) > (cap : Int)) = false := decide_eq_false (by omega)
  have b2 : decide ((i : Int) + (m : Int) ≤ (j : Int)) = false := decide_eq_false (by omega)
  have hs5 : ∀ W, (Instr.slice 47 (.slice (some ⟨g, 0, none⟩) n cap) none (some (.int .i64 ((i : Int) + (m : Int) + (d : Int)))) none).run Tryz.prog W = .ok (.slice (some ⟨g, 0, none⟩) (i + m + d) cap) W := fun W => by
    have := run_to W (some ⟨g, 0, none⟩) n cap (i + m + d) (by omega)
    obtain ⟨p, e, -, q⟩ := sl_at g 0 (i + m + d) cap
    rw [e, q (by omega)] at this
    simp only [Int.natCast_add, Nat.zero_mul, Nat.sub_zero] at this
    exact this
  have HHh := Lib.hid hh
  have hw1' : IntKind.i64.wrap ((i : Int) + (m : Int)) = (i : Int) + (m : Int) := by rw [IntKind.wrap_i64]; omega
  have hw2' : IntKind.i64.wrap ((i : Int) + (m : Int) + (d : Int)) = (i : Int) + (m : Int) + (d : Int) := by rw [IntKind.wrap_i64]; omega
  have ha1 : (0 : Int) ≤ (i : Int) + (m : Int) := by omega
  have ha2 : (i : Int) + (m : Int) ≤ (i : Int) + (m : Int) + (d : Int) := by omega
  have ha3 : ((i : Int) + (m : Int)).toNat = i + m := by omega
  have ha4 : ¬ (cap = i) := by omega
  have ha5 : ¬ (cap = j) := by omega
  have ha6 : (i : Int) ≤ (n : Int) := by omega
  have ha7 : (i : Int) ≤ (cap : Int) := by omega
  have ha8 : (j : Int) ≤ (n : Int) := by omega
  have ha9 : ¬ (cap = 0) := by omega
  have hd9 : d ≤ 100000 := by omega
  have hi9 : i ≤ 100000 := by omega
  have hj9 : j ≤ 100000 := by omega
  have HUl := Lib.hid hUl
  have HNE := Lib.hid hne
  clear hh hUl hne
  have HGq0 := Lib.hid hg
  have HCq := Lib.hid hC
  have HU := Lib.hid hu
  have HNn := Lib.hid hn
  have HNm := Lib.hid hm'
  have HLn := Lib.hid hlen
  have HD0 := Lib.hid hd
  have HMl := Lib.hid hMl
  have HDl := Lib.hid hDl
  have HCl := Lib.hid hCl
  clear hg hC hu hn hm' hlen hd hMl hDl hCl e0 e1 e4 q1 q4
  go_enter Tryz.func186, Tryz.ntmps186
  go_wp2_with fail
  go_quiet (fail)
  rename_i nq
  obtain ⟨wq, hwq⟩ : ∃ wq, w.drewN nq = wq := ⟨_, rfl⟩
  have gq : w.grownBy wq none := by rw [← hwq]; exact grown_draws w nq
  have hg : Slab wq g C := by rw [← hwq]; exact HGq0.out
  rw [hwq]
  clear hwq
  have hn := HNn.out
  have hm' := HNm.out
  have hlen := HLn.out
  have hd := HD0.out
  have hMl := HMl.out
  have hDl := HDl.out
  have hCl := HCl.out
  have hC := HCq.out
  have hs3 : ∀ W, (Instr.slice 47 (.slice (some ⟨g, 0, none⟩) (i + m + d) cap) (some (.int .i64 ((i : Int) + (m : Int)))) none none).run Tryz.prog W = .ok (sliced (some ⟨g, 0, none⟩) (i + m) (i + m + d) cap 10) W := fun W => by
    have := run_from W (some ⟨g, 0, none⟩) (i + m + d) cap (i + m) (by omega) (by omega)
    rwa [Int.natCast_add] at this
  obtain ⟨p3, e3, -, q3⟩ := sl_at g (i + m) (i + m + d) cap
  rw [e3, q3 (by omega), show i + m + d - (i + m) = d by omega] at hs3
  have hov := fun c x => overlaps_no (w := wq) (n := d) (m := m) (c := c) (d := x) (p := ⟨g, (i + m) * 10, none⟩) (q := ⟨h, 0, none⟩) hg (HHh.out.grow gq (by simp)) (fun e => hgh e.symm) rfl rfl (by rw [HUl.out]; omega) rfl
  have hcp2 := fun ty => run_copy10 wq.drew ty (some ⟨g, (i + m) * 10, none⟩) (some ⟨g, j * 10, none⟩) d (cap - (i + m)) d (cap - j) d g ((i + m) * 10) C ((L.drop j).flatMap enCells) (by simp only [Nat.min_def]; split <;> omega) hDl
    (fun h => ⟨rfl, _, rfl, fun q v hq => by rw [Addr.add_mid]; exact Slab.cell (C := C) (w := wq.drew) hg (slab_part hC hn j hq)⟩) hg (by omega) (en_ones _)
  obtain ⟨w2, hw2⟩ : ∃ w2, wq.drew.setRow g (putC C ((i + m) * 10) ((L.drop j).flatMap enCells)).toArray = w2 := ⟨_, rfl⟩
  simp only [hw2] at hcp2
  have s2 : Slab w2 g (putC C ((i + m) * 10) ((L.drop j).flatMap enCells)) := by rw [← hw2]; exact slab_put (w := wq.drew) hg
  have g2 : wq.grownBy w2 (some g) := by rw [← hw2]; exact grown_at' (grown_drew1 wq) (grown_put _ _ _)
  have hu2 : EOwn w2 bu (.slice (some ⟨h, 0, none⟩) m cu) M := eown_kept0 (eown_grow0 HU.out gq) g2 (fun b hb e => hgh (by cases hb; cases e; rfl))
  have hPl : (putC C ((i + m) * 10) ((L.drop j).flatMap enCells)).length = cap * 10 := by rw [putC_len (by omega), hCl]
  have hs2 := fun W => run_from W (some ⟨g, 0, none⟩) (i + m + d) cap i (by omega) (by omega)
  obtain ⟨p2, e2, -, q2⟩ := sl_at g i (i + m + d) cap
  rw [e2, q2 (by omega)] at hs2
  have hcp1 := fun ty => run_copy10 w2 ty (some ⟨g, i * 10, none⟩) (some ⟨h, 0, none⟩) (i + m + d - i) (cap - i) m cu m g (i * 10) _ (M.flatMap enCells) (by simp only [Nat.min_def]; split <;> omega) hMl (fun h => ⟨rfl, row_src hu2 (by rw [hm']; exact h)⟩) s2 (by omega) (en_ones M)
  obtain ⟨E, hE⟩ : ∃ E, putC (putC C ((i + m) * 10) ((L.drop j).flatMap enCells)) (i * 10) (M.flatMap enCells) = E := ⟨_, rfl⟩
  rw [hE] at hcp1
  obtain ⟨w3, hw3⟩ : ∃ w3, w2.setRow g E.toArray = w3 := ⟨_, rfl⟩
  simp only [hw3] at hcp1
  have s3 : Slab w3 g E := by rw [← hw3]; exact slab_put s2
  have g3 : w2.grownBy w3 (some g) := by rw [← hw3]; exact grown_put _ _ _
  have hEl : E.length = cap * 10 := by rw [← hE, putC_len (by omega), hPl]
  have hown : EOwn w3 base (.slice (some ⟨g, 0, none⟩) (i + m + d) cap) (L.take i ++ M ++ L.drop j) := by
    rw [← hlen]
    refine slab_own hbg s3 (by omega) hcm hEl (three_take (i := i) (m := m) (d := d) (by rw [List.length_take]; omega) hm' (by rw [List.length_drop, hn, hd]) (fun q hq => ?_) (fun q hq => ?_) fun q hq => ?_)
    · rw [← hE, putC_get (by omega), if_pos hq, putC_get (by omega), if_pos (by omega)]
      exact take_get hC i q (by omega) hq
    · rw [← hE, putC_get (by omega), if_neg (by omega), if_pos (by omega)]
      congr 1
      omega
    · rw [← hE, putC_get (by omega), if_neg (by omega), if_neg (by omega), putC_get (by omega), if_neg (by omega), if_pos (by omega)]
      congr 1
      omega
  have hb2 : ¬ (cap = i + m) := by omega
  have HW := Lib.hid (grown_trans (grown_none gq) (grown_trans g2 g3))
  have HO := Lib.hid hown
  have HC2 := Lib.hid hcp2
  clear hcp2 hown hu2 s2 g2 s3 g3 hE hw2 hw3 hEl hPl e2 e3 q2 q3 gq hn hm' hlen hd hMl hDl hCl hC hg
  go_wp2_with (simp only [hov])
  go_region_law (refine step_copyE rfl _ _ rfl _ _ (by simp [Act.eval, Act.put]) (by simp [Act.eval, Act.put]) (HC2.out _) ?_)
  go_wp2_with fail
  go_ret
  exact ⟨_, rfl, HO.out, fun b hb => by have e : g = b := Option.some.inj hb; exact e.symm, HW.out⟩
end Go.Proofs.YtefiiooibbkffaaGreat

namespace Go.Proofs.YtefiiooibbkffaaGreat
open Go.ChangeShapes Go.WideShapes Go.ChangeAt Go.RowKit Go.Deep
set_option linter.unusedVariables false
set_option linter.unusedSimpArgs false

theorem own_take {w : World} {base g cap : Nat} {C : List Value} {L : List En} (hbg : base ≤ g) (hg : Slab w g C) (hCl : C.length = cap * 10) (hcm : cap ≤ maxLen) (hC : C.take (L.length * 10) = L.flatMap enCells) (hlc : L.length ≤ cap) {i : Nat} (hi : i ≤ L.length) : EOwn w base (.slice (some ⟨g, 0, none⟩) i cap) (L.take i) := by
  have hl : (L.take i).length = i := by rw [List.length_take]; omega
  have := slab_own (w := w) (base := base) (L := L.take i) hbg hg (by omega) hcm hCl (by rw [hl, ens_take, ← hC, List.take_take, Nat.min_eq_left (by omega)])
  rwa [hl] at this
set_option maxRecDepth 100000 in
/-- 'append(s[:i], m...)' where there is room. -/
theorem run_append10 {w : World} {g i cap m cu bu : Nat} {su : Option Addr} {C : List Value} {M : List En} (hg : Slab w g C) (hCl : C.length = cap * 10) (hu : EOwn w bu (.slice su m cu) M) (hm : M.length = m) (hroom : i + m ≤ cap) (ty : TypeId) :
    (Builtin.append_ #[47, 47] ty #[.slice (some ⟨g, 0, none⟩) i cap, .slice su m cu]).run Tryz.prog w = .ok (.slice (some ⟨g, 0, none⟩) (i + m) cap) (w.setRow g (putC C (i * 10) (M.flatMap enCells)).toArray) := by
  obtain ⟨i0, hi, hz0, hz1, hz2⟩ := en_info
  have hMl : (M.flatMap enCells).length = m * 10 := by rw [flat_size, hm]
  rcases erow_cases (eown_row hu) with ⟨e, h0⟩ | ⟨ad, c', e, hc⟩
  · injection e with e1 e2 e3
    subst e1 e2 e3 h0
    have e4 : putC C (i * 10) [] = C := by unfold putC; simp
    rw [show (List.flatMap enCells ([] : List En)) = [] from rfl, e4, setRow_self w g _ _ _ hg]
    have hl0 : (loadCells (⟨g, 0, none⟩ : Addr) 0).run Tryz.prog w = .ok #[] w := load_nothing w _
    have hu' : Tryz.prog.underlying 47 = some (.slice 50) := Tryz.underlying47
    have hic : i ≤ cap := by omega
    simp [Builtin.append_, run_underlying hu', sizeOf, typeInfo, hi, hz1, Builtin.lenOf, Builtin.firstCells, hic, storeCells]
  · injection e with e1 e2 e3
    subst e1
    have hr := run_append_room (P := Tryz.prog) w 47 ty 50 i0 Tryz.underlying47 hi g i cap C.toArray hg ad m cu (M.flatMap enCells) (by rw [hMl, hz1]) hc (en_ones M) hroom (by rw [hz1, hMl]; simp; omega)
    rw [hr, hz1]
    unfold putC
    simp
set_option maxHeartbeats 4000000 in
set_option maxRecDepth 100000 in
/-- All from one place on goes, and as much, or more, is put in. -/
theorem replace_end_long {w : World} {base bu g cap : Nat} {u : Value} {L M : List En} {C : List Value} (hb : base ≤ w.heap.size) (hbg : base ≤ g) (hg : Slab w g C) (hCl : C.length = cap * 10) (hcm : cap ≤ maxLen) (hC : C.take (L.length * 10) = L.flatMap enCells) (hlc : L.length ≤ cap) (hu : EOwn w bu u M) (hl : L.length ≤ 100000) (hm : M.length ≤ 100000) (i : Nat) (hi : i < L.length) (HNO : L.length ≤ i + M.length) :
    Calls Tryz.prog 186 #[.slice (some ⟨g, 0, none⟩) L.length cap, .int .i64 i, .int .i64 L.length, u] w fun e w' => ∃ v', e = .returned v' ∧ EOwn w' base v' (L.take i ++ M) ∧ New w (.slice (some ⟨g, 0, none⟩) L.length cap) v' ∧ w.grownBy w' (some g) := by
  have HT := Lib.hid (own_take hbg hg hCl hcm hC hlc (Nat.le_of_lt hi))
  have HU := Lib.hid hu
  obtain ⟨su, cu, hv2⟩ := OwnOf.form hu
  subst hv2
  obtain ⟨n, hn⟩ : ∃ n, L.length = n := ⟨_, rfl⟩
  obtain ⟨m, hm'⟩ : ∃ m, M.length = m := ⟨_, rfl⟩
  have hAM : (L.take i ++ M).length = i + m := by rw [List.length_append, List.length_take]; omega
  have HTl := Lib.hid (show (L.take i).length + M.length ≤ 1000000 by rw [List.length_take]; omega)
  rw [hn] at hl hi hlc HNO ⊢
  rw [hm'] at hm HNO HU ⊢
  obtain ⟨q, hq⟩ : ∃ q, i + m = q := ⟨_, rfl⟩
  rw [hq] at hAM
  have HAM := Lib.hid hAM
  have hz : ¬ ((i : Int) = (n : Int)) := by omega
  have b1 : ¬ (q < n) := by omega
  have hs0 := fun W => run_between W (some ⟨g, 0, none⟩) n cap i n (by omega) (by omega)
  obtain ⟨p0, e0, -, -⟩ := sl_at g i n cap
  rw [e0] at hs0
  have hs1 := fun W => run_to W (some ⟨g, 0, none⟩) n cap i (by omega)
  obtain ⟨p1, e1, -, q1⟩ := sl_at g 0 i cap
  rw [e1, q1 (by omega)] at hs1
  simp only [Nat.zero_mul, Nat.sub_zero] at hs1
  clear hg hC hu hn hm' hAM e0 e1 q1 hq hCl hcm
  go_enter Tryz.func186, Tryz.ntmps186
  go_wp2_with (at_builtin; refine wpList_eappN w rfl _ _ rfl base _ (L.take i) rfl HT.out _ M rfl (eown_row HU.out) HTl.out hb ?_; intro v8 w8 hown8 hg8 hn8; obtain ⟨a8, c8, hvf⟩ := OwnOf.form hown8; rw [HAM.out] at hvf; subst hvf; have HO8 := Lib.hid hown8; have HG8 := Lib.hid hg8; have HN8 := Lib.hid hn8; clear hown8 hg8 hn8)
  go_ret
  exact ⟨_, rfl, HO8.out, HN8.out, HG8.out⟩
set_option maxHeartbeats 4000000 in
set_option maxRecDepth 100000 in
/-- All from one place on goes, and less is put in. -/
theorem replace_end_short {w : World} {base bu g cap : Nat} {u : Value} {L M : List En} {C : List Value} (hbg : base ≤ g) (hg : Slab w g C) (hCl : C.length = cap * 10) (hcm : cap ≤ maxLen) (hC : C.take (L.length * 10) = L.flatMap enCells) (hlc : L.length ≤ cap) (hu : EOwn w bu u M) (hl : L.length ≤ 100000) (hm : M.length ≤ 100000) (i : Nat) (hi : i < L.length) (HNO : i + M.length < L.length) :
    Calls Tryz.prog 186 #[.slice (some ⟨g, 0, none⟩) L.length cap, .int .i64 i, .int .i64 L.length, u] w fun e w' => ∃ v', e = .returned v' ∧ EOwn w' base v' (L.take i ++ M) ∧ (∀ b, v'.ownBlock = some b → b = g) ∧ w.grownBy w' (some g) := by
  obtain ⟨su, cu, hv2⟩ := OwnOf.form hu
  subst hv2
  obtain ⟨n, hn⟩ : ∃ n, L.length = n := ⟨_, rfl⟩
  obtain ⟨m, hm'⟩ : ∃ m, M.length = m := ⟨_, rfl⟩
  rw [hn] at hl hi hlc HNO hC ⊢
  rw [hm'] at hm HNO hu ⊢
  have hap := run_append10 (i := i) hg hCl hu hm' (by omega)
  obtain ⟨E, hE⟩ : ∃ E, putC C (i * 10) (M.flatMap enCells) = E := ⟨_, rfl⟩
  rw [hE] at hap
  obtain ⟨w1, hw1⟩ : ∃ w1, w.setRow g E.toArray = w1 := ⟨_, rfl⟩
  simp only [hw1] at hap
  have s1 : Slab w1 g E := by rw [← hw1]; exact slab_put hg
  have g1 : w.grownBy w1 (some g) := by rw [← hw1]; exact grown_put _ _ _
  have hMl : (M.flatMap enCells).length = m * 10 := by rw [flat_size, hm']
  have hEl : E.length = cap * 10 := by rw [← hE, putC_len (by omega), hCl]
  obtain ⟨q, hq⟩ : ∃ q, i + m = q := ⟨_, rfl⟩
  simp only [hq] at hap
  have hs2 := fun W => run_from W (some ⟨g, 0, none⟩) n cap q (by omega) hlc
  obtain ⟨p2, e2, -, q2⟩ := sl_at g q n cap
  rw [e2, q2 (by omega)] at hs2
  have hcl := fun ty => run_clear10 w1 ty (some ⟨g, q * 10, none⟩) (n - q) (cap - q) g (q * 10) E (fun h => rfl) s1 (by omega)
  obtain ⟨E2, hE2⟩ : ∃ E2, putC E (q * 10) (zerosC (n - q)) = E2 := ⟨_, rfl⟩
  rw [hE2] at hcl
  obtain ⟨w2, hw2⟩ : ∃ w2, w1.setRow g E2.toArray = w2 := ⟨_, rfl⟩
  simp only [hw2] at hcl
  have s2 : Slab w2 g E2 := by rw [← hw2]; exact slab_put s1
  have g2 : w1.grownBy w2 (some g) := by rw [← hw2]; exact grown_put _ _ _
  have hzl := zerosC_len (n - q)
  have hE2l : E2.length = cap * 10 := by rw [← hE2, putC_len (by omega), hEl]
  have hlen : (L.take i ++ M).length = q := by rw [List.length_append, List.length_take]; omega
  have hbe : ∀ j, j < q * 10 → E2[j]? = E[j]? := fun j hj => by rw [← hE2, putC_get (by omega), if_pos hj]
  have hown : EOwn w2 base (.slice (some ⟨g, 0, none⟩) q cap) (L.take i ++ M) := by
    rw [← hlen]
    have h3 := three_take (C := E2) (A := L.take i) (M := M) (D := []) (i := i) (m := m) (d := 0) (by rw [List.length_take]; omega) hm' rfl (fun j hj => by
      rw [hbe j (by omega), ← hE, putC_get (by omega), if_pos hj]
      exact take_get hC i j (by omega) hj) (fun j hj => by
      rw [hbe _ (by omega), ← hE, putC_get (by omega), if_neg (by omega), if_pos (by omega)]
      congr 1
      omega) (fun j hj => by omega)
    rw [List.append_nil] at h3
    exact slab_own hbg s2 (by omega) hcm hE2l h3
  have hz : ¬ ((i : Int) = (n : Int)) := by omega
  have b1 : q < n := by omega
  have hs0 := fun W => run_between W (some ⟨g, 0, none⟩) n cap i n (by omega) (by omega)
  obtain ⟨p0, e0, -, -⟩ := sl_at g i n cap
  rw [e0] at hs0
  have hs1 := fun W => run_to W (some ⟨g, 0, none⟩) n cap i (by omega)
  obtain ⟨p1, e1, -, q1⟩ := sl_at g 0 i cap
  rw [e1, q1 (by omega)] at hs1
  simp only [Nat.zero_mul, Nat.sub_zero] at hs1
  have HO := Lib.hid hown
  have HW := Lib.hid (grown_trans g1 g2)
  have HAP := Lib.hid hap
  clear hap hown s1 g1 s2 g2 hE hE2 hw1 hw2 hMl hEl hE2l hzl hlen hbe hg hC hu hn hm' e0 e1 e2 q1 q2 hq hCl hcm
  go_enter Tryz.func186, Tryz.ntmps186
  go_wp2_with (at_builtin; refine Lib.wpList_append_run _ rfl _ _ _ _ rfl _ _ rfl rfl _ _ (HAP.out _) ?_)
  go_ret
  exact ⟨_, rfl, HO.out, fun b hb => by have e : g = b := Option.some.inj hb; exact e.symm, HW.out⟩
/-- slices.Insert. -/
theorem insertS_ok {w : World} {base bu : Nat} {v u : Value} {L M : List En} (h : EOwn w base v L) (hu : EOwn w bu u M) (hne : ∀ g, v.ownBlock = some g → u.ownBlock ≠ some g) (hb : base ≤ w.heap.size) (hl : L.length ≤ 100000) (hm : M.length ≤ 100000) (i : Nat) (hi : i ≤ L.length) :
    Calls Tryz.prog 201 #[v, .int .i64 i, u] w fun e w' => ∃ v', e = .returned v' ∧ EOwn w' base v' (L.take i ++ M ++ L.drop i) ∧ New w v v' ∧ w.grownBy w' v.ownBlock := by
  by_cases h0 : M.length = 0
  · obtain rfl := List.length_eq_zero_iff.1 h0
    have hu2 : u = .slice none 0 0 ∨ ∃ a c, u = .slice (some a) 0 c := by
      rcases own_slab hu with ⟨e, -⟩ | ⟨b, cap, C, e, -⟩
      · exact .inl e
      · exact .inr ⟨_, _, e⟩
    refine (insert_none h hu2 i hi).mono ?_
    rintro e w' ⟨rfl, rfl⟩
    exact ⟨_, rfl, by rw [List.append_nil, List.take_append_drop]; exact h, New.refl _ _, grown_refl _ _⟩
  · by_cases h1 : i = L.length
    · subst h1
      refine (insert_end h hu hb hl hm h0).mono ?_
      rintro e w' ⟨v', rfl, k1, k2, k3⟩
      exact ⟨_, rfl, by rw [List.take_length, List.drop_length, List.append_nil]; exact k1, k2, k3⟩
    · rcases own_slab h with ⟨-, rfl⟩ | ⟨g, cap, C, rfl, hbg, hg, hlc, hcm, hCl, hC⟩
      · simp at hi h1
        omega
      · by_cases h2 : cap < L.length + M.length
        · refine (insert_grow hg hCl hC hlc hu hb hl hm h0 i (by omega) h2).mono ?_
          rintro e w' ⟨v', rfl, k1, k2, k3⟩
          exact ⟨_, rfl, k1, fun b hb' => .inr (k2 b hb'), grown_none k3⟩
        · refine (insert_shift hbg hg hCl hcm hC hlc hu (hne g rfl) hl hm h0 i (by omega) (by omega)).mono ?_
          rintro e w' ⟨v', rfl, k1, k2, k3⟩
          exact ⟨_, rfl, k1, fun b hb' => .inl (by rw [k2 b hb']; rfl), k3⟩
set_option maxHeartbeats 4000000 in
set_option maxRecDepth 100000 in
/-- Nothing goes: what is put in. -/
theorem replace_ins {w : World} {base bu : Nat} {v u : Value} {L M : List En} (h : EOwn w base v L) (hu : EOwn w bu u M) (hne : ∀ g, v.ownBlock = some g → u.ownBlock ≠ some g) (hb : base ≤ w.heap.size) (hl : L.length ≤ 100000) (hm : M.length ≤ 100000) (i : Nat) (hi : i ≤ L.length) :
    Calls Tryz.prog 186 #[v, .int .i64 i, .int .i64 i, u] w fun e w' => ∃ v', e = .returned v' ∧ EOwn w' base v' (L.take i ++ M ++ L.drop i) ∧ New w v v' ∧ w.grownBy w' v.ownBlock := by
  have HI := Lib.hid (insertS_ok h hu hne hb hl hm i hi)
  have hc := (EOwn.ec h).2
  obtain ⟨sv, cv, hv⟩ := OwnOf.form h
  obtain ⟨su, cu, hv2⟩ := OwnOf.form hu
  subst hv hv2
  have hle : L.length ≤ cv := hc _ _ _ rfl
  obtain ⟨n, hn⟩ : ∃ n, L.length = n := ⟨_, rfl⟩
  obtain ⟨m, hm'⟩ : ∃ m, M.length = m := ⟨_, rfl⟩
  rw [hn] at hl hi hle HI ⊢
  rw [hm'] at hm HI ⊢
  have hs0 := fun W => run_between W sv n cv i i (Nat.le_refl _) (by omega)
  obtain ⟨x0, hx0⟩ : ∃ x0, sliced sv i i cv 10 = x0 := ⟨_, rfl⟩
  rw [hx0] at hs0
  clear h hu hc hn hm' hx0 hne
  go_enter Tryz.func186, Tryz.ntmps186
  go_wp2_with fail
  refine HI.out.mono ?_
  rintro e w2 ⟨v2, rfl, k1, k2, k3⟩
  have H1 := Lib.hid k1
  have H2 := Lib.hid k2
  have H3 := Lib.hid k3
  clear k1 k2 k3
  go_wp2_with fail
  go_ret
  exact ⟨_, rfl, H1.out, H2.out, H3.out⟩
/-- slices.Replace. -/
theorem replace_ok {w : World} {base bu : Nat} {v u : Value} {L M : List En} (h : EOwn w base v L) (hu : EOwn w bu u M) (hne : ∀ g, v.ownBlock = some g → u.ownBlock ≠ some g) (hb : base ≤ w.heap.size) (hl : L.length ≤ 100000) (hm : M.length ≤ 100000) (i j : Nat) (hij : i ≤ j) (hj : j ≤ L.length) :
    Calls Tryz.prog 186 #[v, .int .i64 i, .int .i64 j, u] w fun e w' => ∃ v', e = .returned v' ∧ EOwn w' base v' (L.take i ++ M ++ L.drop j) ∧ New w v v' ∧ w.grownBy w' v.ownBlock := by
  by_cases h0 : i = j
  · subst h0
    exact replace_ins h hu hne hb hl hm i hj
  · rcases own_slab h with ⟨-, rfl⟩ | ⟨g, cap, C, rfl, hbg, hg, hlc, hcm, hCl, hC⟩
    · simp at hj
      omega
    · by_cases h1 : j = L.length
      · subst h1
        rw [List.drop_length, List.append_nil]
        by_cases h2 : L.length ≤ i + M.length
        · exact replace_end_long hb hbg hg hCl hcm hC hlc hu hl hm i (by omega) h2
        · refine (replace_end_short hbg hg hCl hcm hC hlc hu hl hm i (by omega) (by omega)).mono ?_
          rintro e w' ⟨v', rfl, k1, k2, k3⟩
          exact ⟨_, rfl, k1, fun b hb' => .inl (by rw [k2 b hb']; rfl), k3⟩
      · by_cases h2 : cap < i + M.length + (L.length - j)
        · refine (replace_grow hg hCl hC hlc hu hb hl hm i j (by omega) (by omega) h2).mono ?_
          rintro e w' ⟨v', rfl, k1, k2, k3⟩
          exact ⟨_, rfl, k1, fun b hb' => .inr (k2 b hb'), grown_none k3⟩
        · by_cases h3 : i + M.length ≤ j
          · refine (replace_down hbg hg hCl hcm hC hlc hu (hne g rfl) hl hm i j (by omega) (by omega) h3).mono ?_
            rintro e w' ⟨v', rfl, k1, k2, k3⟩
            exact ⟨_, rfl, k1, fun b hb' => .inl (by rw [k2 b hb']; rfl), k3⟩
          · refine (replace_up hbg hg hCl hcm hC hlc hu (hne g rfl) hl hm i j (by omega) (by omega) ⟨by omega, by omega⟩).mono ?_
            rintro e w' ⟨v', rfl, k1, k2, k3⟩
            exact ⟨_, rfl, k1, fun b hb' => .inl (by rw [k2 b hb']; rfl), k3⟩
end Go.Proofs.YtefiiooibbkffaaGreat
