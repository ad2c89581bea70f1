/- Package anon (landed): Ref, where one goes; Ref. -/
import Derived.Test.YtpiemnffbcgbmaaNDd
namespace Go.Proofs.Ytpiemnffbcgbmaa
open Go.ChangeShapes Go.WideShapes Go.ChangeAt Go.RowKit Go.Deep
set_option linter.unusedVariables false

section
variable {w w' w2 : World} {p most M : Nat} {hv : Value} {zs : List Int} {N : List (Int × Nat)} {L : List AnV}
set_option maxHeartbeats 4000000 in
theorem pa_ref_goes (h : PA w p most M hv zs N L) {i : Nat} {x : AnV} (b : Int) (hid : okI ((i : Int) + 1)) (hl : liveB L i = true) (hx : getN L ((i : Int) + 1) = some x) (hg : GoodX x) (hm : mayN x.re b) (h0 : x.re + b = 0) :
    Calls Try.prog 14 #[.pointer (some ⟨p, 0, none⟩), .int .i64 ((i : Int) + 1), .int .i64 b] w fun e w' => e = .returned (ansN ⟨⟨0, x.fr, x.sl⟩, 0, L⟩) ∧ AL DN w w' p most (blkP p M hv N) (L.set i ⟨0, x.fr, x.sl⟩) := by
  have hR := refB_made w b
  generalize hwC : ((w.alloc (.cells #[.int .i64 b] 3 (0, 0))).alloc (.cells #[.int .i64 0, .int .i64 0, .int .i64 0] 36 (0, 0))).alloc (.cells #[.int .i64 0, .int .i64 0, .int .i64 0] 36 (0, 0)) = wC at *
  have hC := h.grow hR.grown
  obtain ⟨y, hy⟩ := hC.there hl
  have hylt : y < w.heap.size := h.lt y (mem_blkP.2 (.inr (.inr (.inr ⟨_, hy, rfl⟩))))
  have hplt := h.free.plt
  have hMlt := h.map.lt
  have hap := h.apart hy
  have hg2 : GoodX ⟨0, x.fr, x.sl⟩ := ⟨Int.le_refl _, by show (0 : Int) ≤ 1000000; decide, hg.fr, hg.sl⟩
  have hF := ref_fn (hC.at_box hy hx) hR.now hg b hR.cell (by omega) (by omega) hm
  rw [h0] at hF
  have HC := Lib.hid (change_yes 30 #[.pointer (some ⟨w.heap.size, 0, none⟩), .pointer (some ⟨w.heap.size + 2, 0, none⟩)] (enters_of Try.func30 (by kernel_rfl) rfl) hC hy hid (fun z w' => z = 0 ∧ AB w' y 36 ⟨0, x.fr, x.sl⟩ ∧ AB w' (w.heap.size + 2) 36 ⟨0, x.fr, x.sl⟩ ∧ Turn [y, w.heap.size + 2] wC w') hF)
  have hzl : zs.length < 4096 := by
    have h1 := ids_free L most
    have h2 := h.nums.length_eq
    have h3 := h.good.most
    have h4 := h.nlen
    rw [idsTo_ge h.good.len, ← h4] at h1
    have h5 : 0 < N.length := List.length_pos_of_mem hy
    omega
  obtain ⟨N1, N2, hN⟩ := List.append_of_mem hy
  have HN := Lib.hid hN
  have HP := Lib.hid h
  have HPC := Lib.hid hC
  have HL := Lib.hid hl
  have HAP := Lib.hid hap
  have HG2 := Lib.hid hg2
  have HR := Lib.hid hR
  obtain ⟨xr, xf, xs⟩ := x
  simp only at *
  unfold ansN anAgg
  simp only
  clear h hl hR hC hy hx hg hm h0 hg2 hF hN hap
  go_enter Try.func14, Try.ntmps14
  go_wp2_with fail
  refine HC.out.mono ?_
  rintro e w2 ⟨z, rfl, rfl, hy2, hn2, t2⟩
  have hsz : w.heap.size + 3 ≤ wC.heap.size := HR.out.now.lt
  have hb2 := HR.out.res.kept (t2.block (w.heap.size + 1) HR.out.res.lt (by simp; omega))
  have hf2 : FreeS w2 p (.map (some M)) hv zs := HPC.out.free.kept fun k hk => t2.block k (HPC.out.free.lt k hk) (by
    have h1 := HP.out.free.lt k hk
    simp
    refine ⟨fun e => ?_, by omega⟩
    unfold blkH at hk
    rcases List.mem_cons.1 hk with e2 | hk
    · exact HAP.out.1 (by rw [← e, e2])
    · exact HAP.out.2.2 (by rw [← e]; simpa using hk))
  have hm2 := HPC.out.map.kept (t2.block M HPC.out.map.lt (by
    simp
    exact ⟨fun e => HAP.out.2.1 e.symm, by omega⟩))
  rw [HN.out] at hm2
  obtain ⟨w3, hdel0, hm3, ht3⟩ := hm2.del lawsN (by have := HPC.out.nodup; rwa [HN.out] at this) (okW_of hid) 0
  have hdel : ∀ ty, (Builtin.delete_ #[58, 3] ty #[.map (some M), .int .i64 ((i : Int) + 1)]).run Try.prog w2 = .ok (.tuple #[]) w3 := fun _ => hdel0
  have g3 := ht3.grown
  have hMk : ∀ k, k < w2.heap.size → k ≠ M → w3.heap[k]? = w2.heap[k]? := fun k hk hne => g3.block k hk (fun e => hne (Option.some.inj e))
  have hMH : ∀ k, k ∈ blkH p hv → k ≠ M := fun k hk e => by
    obtain ⟨es, clock, hmm⟩ := HP.out.map.isMap
    unfold blkH at hk
    rcases List.mem_cons.1 hk with e2 | hk
    · have := HP.out.free.head
      rw [← e2, e, hmm] at this
      cases this
    · have e3 : hv.ownBlock = some k := by simpa using hk
      rcases HP.out.free.own.2 with ⟨e4, _⟩ | ⟨g', cap, cur, e4, _, hgg, _⟩
      · rw [e4] at e3; cases e3
      · rw [e4] at e3
        have e5 : g' = k := by simpa [Value.ownBlock] using e3
        rw [e5, e, hmm] at hgg
        cases hgg
  have hf3 : FreeS w3 p (.map (some M)) hv zs := hf2.kept fun k hk => hMk k (hf2.lt k hk) (hMH k hk)
  have HPut := Lib.hid (heap_put hf3 ((i : Int) + 1) hzl)
  have c0 := hf2.at.1
  have n0 := hn2.at.1
  simp only at n0
  have HN3 := Lib.hid (hn2.kept (hMk _ hn2.lt (by omega)))
  have HB3 := Lib.hid (hb2.kept (hMk _ hb2.lt (by omega)))
  have HT3 := Lib.hid (t2.mono (O' := [y, w.heap.size + 2, M]) (fun k hk => by simp at hk ⊢; omega) |>.trans' (Turn.one g3 (by simp)))
  have HM3 := Lib.hid hm3
  have HF3 := Lib.hid hf3
  have HMH := Lib.hid hMH
  have hs3 : w.heap.size + 3 ≤ w3.heap.size := Nat.le_trans hsz (Nat.le_trans t2.size g3.size)
  clear hy2 hn2 t2 hb2 hf2 hm2 hdel0 hm3 ht3 g3 hMk hMH hf3
  go_wp2_with fail
  refine HPut.out.mono ?_
  rintro e w4 ⟨rfl, zs', hz, hv', hf4, t4, o4⟩
  have hk4 : ∀ k, w.heap.size ≤ k → k < w3.heap.size → w4.heap[k]? = w3.heap[k]? := fun k h1 h2 => t4.block k h2 fun hm => by
    have := HP.out.free.lt k hm
    omega
  have hn4 := HN3.out.kept (hk4 _ (by omega) HN3.out.lt)
  have hb4 := HB3.out.kept (hk4 _ (by omega) HB3.out.lt)
  obtain ⟨n0, n1, n2⟩ := hn4.at
  obtain ⟨r0, r1, r2⟩ := hb4.at
  have z0 := hb4.frozen 0
  have z1 := hb4.frozen 1
  have z2 := hb4.frozen 2
  unfold zeroN at r0 r1 r2
  simp only at n0 n1 n2 r0 r1 r2
  have HB4 := Lib.hid hb4
  have HT4 := Lib.hid t4
  have HF4 := Lib.hid hf4
  have HZ := Lib.hid hz
  have HO4 := Lib.hid o4
  clear t4 hb4 hn4 hf4 hz o4 hk4 c0 hdel
  go_wp2_with fail
  refine bodyPost_ret (results_pair_tmp rfl _ _ (w.heap.size + 1) _ #[.int .i64 0, .int .i64 xf, .int .i64 xs] (0, 0) _ rfl (heap_three _ _ _ _ _ _ HB4.out) Try.underlying36 (by kernel_rfl) (by kernel_rfl)) rfl ?_
  have hgr := grown_three w4 (w.heap.size + 1) 0 (.int .i64 0) (.int .i64 xf) (.int .i64 xs)
  have hPN := HP.out
  rw [HN.out] at hPN
  have hm4 : MapOf Try.prog 3 klI w4 M (N1 ++ N2) := HM3.out.kept (HT4.out.block M HM3.out.lt fun hm => HMH.out M hm rfl)
  have hm5 := hm4.kept (hgr.block M hm4.lt (fun e => by have := Option.some.inj e; omega))
  have hown : ∀ k, k ∈ blkH p hv' → k < w.heap.size ∨ w.heap.size + 3 ≤ k := fun k hk => by
    unfold blkH at hk
    rcases List.mem_cons.1 hk with e2 | hk
    · rw [e2]; exact .inl hplt
    · have e3 : hv'.ownBlock = some k := by simpa using hk
      rcases HO4.out with e4 | ⟨b2, e4, hb2⟩
      · rw [e4] at e3
        exact .inl (HP.out.free.lt k (by unfold blkH; simp [e3]))
      · rw [e4] at e3
        have := Option.some.inj e3
        exact .inr (by omega)
  have hf5 := HF4.out.kept fun k hk => hgr.block k (HF4.out.lt k hk) (fun e => by have e2 := Option.some.inj e; rcases hown k hk with h1 | h1 <;> omega)
  have hbx : ∀ n, n ∈ N1 ++ N2 → (((w4.setCell ⟨w.heap.size + 1, 0, none⟩ (.int .i64 0)).setCell ⟨w.heap.size + 1, 1, none⟩ (.int .i64 xf)).setCell ⟨w.heap.size + 1, 2, none⟩ (.int .i64 xs)).heap[n.2]? = w.heap[n.2]? := fun n hn => by
    have hnN : n ∈ N := by
      rw [HN.out]
      rcases List.mem_append.1 hn with q | q
      · exact List.mem_append_left _ q
      · exact List.mem_append_right _ (List.mem_cons_of_mem _ q)
    have hnlt : n.2 < w.heap.size := HP.out.lt n.2 (mem_blkP.2 (.inr (.inr (.inr ⟨n, hnN, rfl⟩))))
    have hna := HP.out.apart hnN
    have hny : n.2 ≠ y := fun e => by
      have hd := hPN.dist
      have hp : ((N1 ++ ((i : Int) + 1, y) :: N2).map (·.2)).Perm (y :: (N1 ++ N2).map (·.2)) := (List.perm_middle (a := ((i : Int) + 1, y)) (l₁ := N1) (l₂ := N2)).map (·.2)
      have h1 := hp.nodup_iff.1 hd
      rw [List.nodup_cons] at h1
      exact h1.1 (by rw [← e]; exact List.mem_map.2 ⟨n, hn, rfl⟩)
    have hnb : n.2 ∉ blkH p hv := fun hm => by
      unfold blkH at hm
      rcases List.mem_cons.1 hm with e | hm
      · exact hna.1 e
      · exact hna.2.2 (by simpa using hm)
    rw [hgr.block n.2 (by have := HT4.out.size; omega) (fun e => by have := Option.some.inj e; omega), HT4.out.block n.2 (by omega) hnb, HT3.out.block n.2 (by omega) (by simp; exact ⟨hny, by omega, hna.2.1⟩)]
    exact HR.out.grown.block n.2 hnlt (by simp)
  refine ⟨rfl, blkP p M hv' (N1 ++ N2), ⟨M, hv', zs', N1 ++ N2, hPN.gone HL.out rfl HG2.out hf5 HZ.out hm5 hbx, rfl⟩, ?_, fun k hk => ?_⟩
  · have t1 : Turn (blkP p M hv N) w w3 := (Turn.grown HR.out.grown).trans HT3.out fun k hk => by
      simp at hk
      rcases hk with e | e | e
      · exact .inl (mem_blkP.2 (.inr (.inr (.inr ⟨((i : Int) + 1, y), by rw [HN.out]; simp, e.symm⟩))))
      · exact .inr (by omega)
      · exact .inl (mem_blkP.2 (.inr (.inl e)))
    have t2 := t1.trans HT4.out fun k hk => .inl (free_sub hk)
    exact turn_new t2 hgr (by omega)
  · rcases mem_blkP.1 hk with rfl | rfl | e | ⟨n, hn, rfl⟩
    · exact .inl (mem_blkP.2 (.inl rfl))
    · exact .inl (mem_blkP.2 (.inr (.inl rfl)))
    · rcases HO4.out with e4 | ⟨b2, e4, hb2⟩
      · exact .inl (mem_blkP.2 (.inr (.inr (.inl (by rw [← e4]; exact e)))))
      · rw [e4] at e
        have := Option.some.inj e
        exact .inr (by omega)
    · refine .inl (mem_blkP.2 (.inr (.inr (.inr ⟨n, ?_, rfl⟩))))
      rw [HN.out]
      rcases List.mem_append.1 hn with q | q
      · exact List.mem_append_left _ q
      · exact List.mem_append_right _ (List.mem_cons_of_mem _ q)

theorem pa_ref (h : PA w p most M hv zs N L) (id b : Int) (hid : okI id) : Calls Try.prog 14 #[.pointer (some ⟨p, 0, none⟩), .int .i64 id, .int .i64 b] w fun e w' => e = .returned (ansN (refN L id b)) ∧ AL DN w w' p most (blkP p M hv N) (refN L id b).L := by
  rcases get_cases L id with ⟨h0, hno⟩ | ⟨i, x, rfl, h1, h2, h3, h4, h5, h6⟩
  · rw [show refN L id b = ⟨zeroN, 7, L⟩ by unfold refN; rw [h0]]
    exact (pa_ref_none h id b hid hno).mono fun e w' ⟨k1, k2⟩ => ⟨k1, h.same k2⟩
  · have hg := h.good.at h2
    by_cases hm : mayN x.re b
    · rw [show refN L ((i : Int) + 1) b = ⟨⟨x.re + b, x.fr, x.sl⟩, 0, L.set i ⟨x.re + b, x.fr, x.sl⟩⟩ by unfold refN; rw [h4]; simp only; rw [if_pos hm, h6]]
      by_cases hz : x.re + b = 0
      · rw [hz]
        exact pa_ref_goes h b hid h5 h4 hg hm hz
      · exact pa_ref_stays h b hid h5 h4 hg hm hz
    · rw [show refN L ((i : Int) + 1) b = ⟨zeroN, 2, L⟩ by unfold refN; rw [h4]; simp only; rw [if_neg hm]]
      exact (pa_ref_inval h b hid h5 h4 hg hm).mono fun e w' ⟨k1, k2⟩ => ⟨k1, h.same k2⟩
end
end Go.Proofs.Ytpiemnffbcgbmaa
