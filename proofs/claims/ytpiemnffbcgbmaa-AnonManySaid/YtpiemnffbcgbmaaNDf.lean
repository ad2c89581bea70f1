/- Package anon (landed): Make. -/
import Derived.Test.YtpiemnffbcgbmaaNDe
namespace Go.Proofs.Ytpiemnffbcgbmaa
open Go.ChangeShapes Go.WideShapes Go.ChangeAt Go.RowKit Go.Deep
set_option linter.unusedVariables false

section
variable {w w' w2 : World} {p most M : Nat} {hv : Value} {zs : List Int} {N : List (Int × Nat)} {L : List AnV}
/-- The first of the heap is the first free number. -/
theorem PA.first (h : PA w p most M hv zs N L) (hr : ¬ most ≤ (idsN L).length) : zs ≠ [] ∧ zat zs 0 = (firstN L : Int) + 1 := by
  have hne : zs ≠ [] := fun e => by
    have h1 := h.nums
    rw [e] at h1
    exact hr ((free_none h.good.len).1 (List.nil_perm.1 h1))
  have hlen : 0 < zs.length := List.length_pos_iff.2 hne
  refine ⟨hne, ?_⟩
  have h1 : zat zs 0 ∈ freeTo L most := h.nums.mem_iff.1 (List.mem_of_getElem? (get_zat hlen))
  have h2 := free_least h1
  have h3 : (firstN L : Int) + 1 ∈ zs := h.nums.mem_iff.2 (free_first (first_lt h.good.len (by omega)))
  obtain ⟨j, hj⟩ := List.getElem?_of_mem h3
  have h4 := h.free.ok.least j (List.getElem?_eq_some_iff.1 hj).1
  rw [zat_get hj] at h4
  omega
theorem PA.came (h : PA w p most M hv zs N L) {x : AnV} (hr : firstN L < most) (h0 : x.re ≠ 0) (hG : GoodX x) {W : World} {hv' : Value} {zs' : List Int} {a : Nat} (ha : w.heap.size ≤ a)
    (hf : FreeS W p (.map (some M)) hv' zs') (hz : (((firstN L : Int) + 1) :: zs').Perm zs) (hm : MapOf Try.prog 3 klI W M (((firstN L : Int) + 1, a) :: N)) (hx : AB W a 36 x) (hb : ∀ n, n ∈ N → W.heap[n.2]? = w.heap[n.2]?) : PA W p most M hv' zs' (((firstN L : Int) + 1, a) :: N) (putL L (firstN L) x) := by
  have hno : (firstN L : Int) + 1 ∉ idsN L := fun hm => by
    obtain ⟨k, _, h2, h3⟩ := mem_idsTo.1 hm
    have : k = firstN L := by omega
    rw [this, first_dead] at h2
    cases h2
  refine ⟨hf, hm, ?_, fun n hn => ?_, ?_, ?_, h.good.put first_le hr hG⟩
  · rw [List.map_cons]
    exact (h.ids.cons _).trans (come_ids first_le first_dead h0).symm
  · rcases List.mem_cons.1 hn with rfl | hn
    · exact ⟨x, getN_self first_le h0, hx⟩
    · obtain ⟨y, h1, h2⟩ := h.box n hn
      exact ⟨y, by rw [getN_other first_le (h.not hno n hn)]; exact h1, h2.kept (hb n hn)⟩
  · rw [List.map_cons, List.nodup_cons]
    refine ⟨fun hm => ?_, h.dist⟩
    obtain ⟨n, hn, e⟩ := List.mem_map.1 hm
    have := h.lt n.2 (mem_blkP.2 (.inr (.inr (.inr ⟨n, hn, rfl⟩))))
    omega
  · have h1 := (hz.trans h.nums).trans (come_free (x := x) first_le hr first_dead h0)
    exact List.Perm.cons_inv h1

set_option maxHeartbeats 4000000 in
theorem pa_make (h : PA w p most M hv zs N L) (f : Int) (hf : okI f) : Calls Try.prog 12 #[.pointer (some ⟨p, 0, none⟩), .int .i64 f] w fun e w' => e = .returned (.tuple #[.int .i64 (makeN most L f).n, .int .i64 (makeN most L f).e]) ∧ AL DN w w' p most (blkP p M hv N) (makeN most L f).L := by
  have HM := Lib.hid (pa_made h)
  by_cases hfull : most ≤ (idsN L).length
  · have hm : makeN most L f = ⟨0, 5, L⟩ := if_pos hfull
    rw [hm]
    have hz : zs = [] := List.perm_nil.1 (((free_none h.good.len).2 hfull) ▸ h.nums)
    have hfr := h.free
    rw [hz] at hfr
    have HT := Lib.hid (heap_take_none hfr)
    have HS := Lib.hid (h.same (grown_refl _ _))
    clear h hm hfull hz hfr hf
    go_enter Try.func12, Try.ntmps12
    go_wp2_with fail
    refine HM.out.mono ?_
    rintro e w2 ⟨rfl, e2⟩
    subst w2
    go_wp2_with fail
    refine HT.out.mono ?_
    rintro e w2 ⟨rfl, e2⟩
    subst w2
    go_wp2_with fail
    go_ret2
    exact ⟨rfl, HS.out⟩
  · have hm : makeN most L f = ⟨(firstN L : Int) + 1, 0, putL L (firstN L) ⟨1, f, -1⟩⟩ := if_neg hfull
    rw [hm]
    obtain ⟨hne, hz0⟩ := h.first hfull
    have hfl := first_lt h.good.len (show (idsN L).length < most by omega)
    have hmost := h.good.most
    have hT := heap_take h.free hne h.zlen.1
    rw [hz0] at hT
    have HT := Lib.hid hT
    have HP := Lib.hid h
    have HX := Lib.hid hf
    have hNl := h.zlen.2
    have hno : ∀ n, n ∈ N → n.1 ≠ (firstN L : Int) + 1 := h.not fun hm => by
      obtain ⟨k, _, h2, h3⟩ := mem_idsTo.1 hm
      have : k = firstN L := by omega
      rw [this, first_dead] at h2
      cases h2
    have HNo := Lib.hid hno
    clear h hm hfull hz0 hne hf hT hno
    obtain ⟨k, hk⟩ : ∃ k, firstN L = k := ⟨_, rfl⟩
    have HK := Lib.hid hk
    rw [hk] at HT HNo hfl ⊢
    clear hk
    go_enter Try.func12, Try.ntmps12
    go_wp2_with fail
    refine HM.out.mono ?_
    rintro e w2 ⟨rfl, e2⟩
    subst w2
    go_wp2_with fail
    refine HT.out.mono ?_
    rintro e w2 ⟨rfl, zs', hz, hv', hf2, t2, o2⟩
    have hMH : ∀ k, k ∈ blkH p hv → k ≠ M := fun k hk e => by
      obtain ⟨es, clock, hmm⟩ := HP.out.map.isMap
      unfold blkH at hk
      rcases List.mem_cons.1 hk with e2 | hk
      · have := HP.out.free.head
        rw [← e2, e, hmm] at this
        cases this
      · have e3 : hv.ownBlock = some k := by simpa using hk
        rcases HP.out.free.own.2 with ⟨e4, _⟩ | ⟨g', cap, cur, e4, _, hgg, _⟩
        · rw [e4] at e3; cases e3
        · rw [e4] at e3
          have e5 : g' = k := by simpa [Value.ownBlock] using e3
          rw [e5, e, hmm] at hgg
          cases hgg
    have hMlt := HP.out.map.lt
    have hm2 := HP.out.map.kept (t2.block M hMlt fun hm => hMH M hm rfl)
    have ga := World.grownBy_alloc w2 (.cells #[.int .i64 1, .int .i64 f, .int .i64 (-1)] 36 (0, 0)) none
    have hx3 := AB.new w2 36 ⟨1, f, -1⟩
    have hm3 := hm2.kept (ga.block M hm2.lt (by simp))
    have hf3 := hf2.grow ga
    have c0 := hf2.at.1
    have c0A := hf3.at.1
    have hnp := World.new_ne w2 ⟨p, 0, none⟩ c0
    obtain ⟨w4, hup, hm4, ht4⟩ := hm3.put lawsN (by unfold maxLen; omega) w2.heap.size HNo.out (okW_of (show okI ((k : Int) + 1) from ⟨by omega, by omega⟩))
    unfold kvI at hup
    simp only at hx3
    have g4 := ht4.grown
    have hkk : ∀ b, b < w2.heap.size → b ≠ M → w4.heap[b]? = w2.heap[b]? := fun b hb hne => (g4.block b (by simp; omega) (fun e => hne (Option.some.inj e))).trans (ga.block b hb (by simp))
    have hx4 := hx3.kept (g4.block _ hx3.lt (fun e => by have := Option.some.inj e; have := hm2.lt; omega))
    have hnb : ∀ n, n ∈ N → w4.heap[n.2]? = w.heap[n.2]? := fun n hn => by
      have hna := HP.out.apart hn
      have hl := HP.out.lt n.2 (mem_blkP.2 (.inr (.inr (.inr ⟨n, hn, rfl⟩))))
      rw [hkk n.2 (Nat.lt_of_lt_of_le hl t2.size) hna.2.1]
      refine t2.block n.2 hl fun hm => ?_
      unfold blkH at hm
      rcases List.mem_cons.1 hm with e | hm
      · exact hna.1 e
      · exact hna.2.2 (by simpa using hm)
    have hf4 : FreeS w4 p (.map (some M)) hv' zs' := hf2.kept fun b hb => hkk b (hf2.lt b hb) fun e => by
      subst e
      obtain ⟨es, clock, hmm⟩ := hm2.isMap
      unfold blkH at hb
      rcases List.mem_cons.1 hb with e2 | hb
      · have := hf2.head
        rw [← e2, hmm] at this
        cases this
      · have e3 : hv'.ownBlock = some b := by simpa using hb
        rcases hf2.own.2 with ⟨e4, _⟩ | ⟨g', cap, cur, e4, _, hgg, _⟩
        · rw [e4] at e3; cases e3
        · rw [e4] at e3
          have e5 : g' = b := by simpa [Value.ownBlock] using e3
          rw [e5, hmm] at hgg
          cases hgg
    have hfin := HP.out.came (x := ⟨1, f, -1⟩) (by rw [HK.out]; exact hfl) (by show (1 : Int) ≠ 0; decide) ⟨by show (0 : Int) ≤ 1; decide, by show (1 : Int) ≤ 1000000; decide, HX.out, show okI (-1) from ⟨by decide, by decide⟩⟩ t2.size hf4 (by rw [HK.out]; exact hz) (by rw [HK.out]; exact hm4) hx4 hnb
    rw [HK.out] at hfin
    have HFin := Lib.hid hfin
    have HT4 := Lib.hid (show Turn (blkP p M hv N) w w4 from ((t2.mono fun b hb => free_sub hb).trans' (Turn.grown ga)).trans' (Turn.one g4 (mem_blkP.2 (.inr (.inl rfl)))))
    have HO2 := Lib.hid o2
    have HS2 := Lib.hid t2.size
    clear hz hf2 t2 o2 hMH hMlt hm2 ga hx3 hm3 hf3 hm4 ht4 g4 hkk hx4 hnb hf4 hfin
    go_wp2_with fail
    go_ret2
    refine ⟨rfl, blkP p M hv' (((k : Int) + 1, w2.heap.size) :: N), ⟨M, hv', zs', _, HFin.out, rfl⟩, HT4.out, fun b hb => ?_⟩
    rcases mem_blkP.1 hb with rfl | rfl | e | ⟨n, hn, rfl⟩
    · exact .inl (mem_blkP.2 (.inl rfl))
    · exact .inl (mem_blkP.2 (.inr (.inl rfl)))
    · rcases HO2.out with e4 | ⟨b2, e4, hb2⟩
      · exact .inl (mem_blkP.2 (.inr (.inr (.inl (by rw [← e4]; exact e)))))
      · rw [e4] at e
        have := Option.some.inj e
        exact .inr (by omega)
    · rcases List.mem_cons.1 hn with rfl | hn
      · exact .inr HS2.out
      · exact .inl (mem_blkP.2 (.inr (.inr (.inr ⟨n, hn, rfl⟩))))
end
end Go.Proofs.Ytpiemnffbcgbmaa
