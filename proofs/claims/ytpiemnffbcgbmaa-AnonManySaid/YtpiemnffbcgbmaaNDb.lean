/- Package anon (landed): change over a closure whose number is a letter; Put. -/
import Derived.Test.YtpiemnffbcgbmaaNDa
import Derived.Shelf.Abstract
namespace Go.Proofs.Ytpiemnffbcgbmaa
open Go.ChangeShapes Go.WideShapes Go.ChangeAt Go.RowKit Go.Deep
set_option linter.unusedVariables false

section
variable {w w' w2 : World} {p most M : Nat} {hv : Value} {zs : List Int} {N : List (Int × Nat)} {L : List AnV}
theorem AB.apart {w : World} {b k : Nat} {x : AnV} {cs : Array Value} {t : TypeId} {fr : Nat × Nat} (h : AB w b 36 x) (hk : w.heap[k]? = some (.cells cs t fr)) (ht : t ≠ 36) : k ≠ b := fun e => by
  rw [e] at hk
  have := h.symm.trans hk
  simp at this
  exact ht this.2.1.symm
/-- A box and the other blocks of its pool. -/
theorem PA.apart (h : PA w p most M hv zs N L) {n : Int × Nat} (hn : n ∈ N) : n.2 ≠ p ∧ n.2 ≠ M ∧ hv.ownBlock ≠ some n.2 := by
  obtain ⟨x, _, hx⟩ := h.box n hn
  refine ⟨(hx.apart h.free.head (by decide)).symm, fun e => ?_, fun e => ?_⟩
  · obtain ⟨es, clock, hm⟩ := h.map.isMap
    rw [← e] at hm
    have := hx.symm.trans hm
    cases this
  · rcases h.free.own.2 with ⟨e2, _⟩ | ⟨g', cap, cur, e2, _, hgg, _⟩
    · rw [e2] at e; cases e
    · rw [e2] at e
      have e3 : g' = n.2 := by simpa [Value.ownBlock] using e
      exact hx.apart hgg (by decide) e3
theorem one_block {N : List (Int × Nat)} (hd : (N.map (·.2)).Nodup) {m n : Int × Nat} (hm : m ∈ N) (hn : n ∈ N) (e : m.2 = n.2) : m = n := by
  induction N with
  | nil => cases hm
  | cons y N ih =>
    rw [List.map_cons, List.nodup_cons] at hd
    rcases List.mem_cons.1 hm with e1 | hm2
    · rcases List.mem_cons.1 hn with e2 | hn2
      · rw [e1, e2]
      · exact absurd (show y.2 ∈ N.map (·.2) from List.mem_map.2 ⟨n, hn2, by rw [← e, e1]⟩) hd.1
    · rcases List.mem_cons.1 hn with e2 | hn2
      · exact absurd (show y.2 ∈ N.map (·.2) from List.mem_map.2 ⟨m, hm2, by rw [e, e2]⟩) hd.1
      · exact ih hd.2 hm2 hn2
theorem free_sub {k : Nat} (hk : k ∈ blkH p hv) : k ∈ blkP p M hv N := by
  unfold blkH at hk
  rcases List.mem_cons.1 hk with rfl | hk
  · exact mem_blkP.2 (.inl rfl)
  · exact mem_blkP.2 (.inr (.inr (.inl (by simpa using hk))))
/-- One box is another one. -/
theorem PA.setbox (h : PA w p most M hv zs N L) {i b : Nat} (hb : ((i : Int) + 1, b) ∈ N) (hl : liveB L i = true) {W : World} {x : AnV} (hW : AB W b 36 x) (hoth : ∀ k, k ∈ blkP p M hv N → k ≠ b → W.heap[k]? = w.heap[k]?) (h0 : x.re ≠ 0) (hG : GoodX x) : PA W p most M hv zs N (L.set i x) := by
  have hi := live_lt hl
  have ha := h.apart hb
  refine ⟨h.free.kept fun k hk => hoth k (free_sub hk) ?_, h.map.kept (hoth M (mem_blkP.2 (.inr (.inl rfl))) (fun e => ha.2.1 e.symm)), by rw [stay_ids hi hl h0]; exact h.ids, fun n hn => ?_, h.dist, by rw [stay_free hi hl h0]; exact h.nums, h.good.set i hG⟩
  · unfold blkH at hk
    rcases List.mem_cons.1 hk with rfl | hk
    · exact fun e => ha.1 e.symm
    · exact fun e => ha.2.2 (by rw [← e]; simpa using hk)
  · by_cases e : n.1 = (i : Int) + 1
    · have e2 : n = ((i : Int) + 1, b) := by
        have hpw := List.pairwise_map.1 h.nodup
        by_cases e3 : n.2 = b
        · exact Prod.ext e e3
        · exfalso
          have hx := h.nodup
          have : ∀ l : List (Int × Nat), l.Pairwise (fun p q => p.1 ≠ q.1) → n ∈ l → ((i : Int) + 1, b) ∈ l → False := by
            intro l hl
            induction l with
            | nil => simp
            | cons y l ih =>
              obtain ⟨k1, k2⟩ := List.pairwise_cons.1 hl
              intro m1 m2
              rcases List.mem_cons.1 m1 with r1 | r1
              · rcases List.mem_cons.1 m2 with r2 | r2
                · exact e3 (by rw [r1, ← r2])
                · exact k1 _ r2 (by rw [← r1]; exact e)
              · rcases List.mem_cons.1 m2 with r2 | r2
                · exact k1 _ r1 (by rw [← r2]; exact e.symm)
                · exact ih k2 r1 r2
          exact this N hpw hn hb
      rw [e2]
      exact ⟨x, by rw [← putL_set hi]; exact getN_self (Nat.le_of_lt hi) h0, hW⟩
    · obtain ⟨y, h1, h2⟩ := h.box n hn
      refine ⟨y, by rw [← putL_set hi, getN_other (Nat.le_of_lt hi) e]; exact h1, h2.kept (hoth n.2 (mem_blkP.2 (.inr (.inr (.inr ⟨n, hn, rfl⟩)))) fun e2 => e ?_)⟩
      have := one_block h.dist hn hb e2
      rw [this]
theorem PA.boxed (h : PA w p most M hv zs N L) {i b : Nat} (hb : ((i : Int) + 1, b) ∈ N) (hl : liveB L i = true) {W : World} {x : AnV} (hW : AB W b 36 x) (g : w.grownBy W (some b)) (h0 : x.re ≠ 0) (hG : GoodX x) : AL DN w W p most (blkP p M hv N) (L.set i x) :=
  ⟨blkP p M hv N, ⟨M, hv, zs, N, h.setbox hb hl hW (fun k hk hne => g.block k (h.lt k hk) fun e => hne (Option.some.inj e)) h0 hG, rfl⟩, Turn.one g (mem_blkP.2 (.inr (.inr (.inr ⟨_, hb, rfl⟩)))), fun b hb => .inl hb⟩
theorem AL.back {D : World → Nat → Nat → List AnV → List Nat → Prop} {w0 : World} {m : Nat} {O : List Nat} {L' : List AnV} (h : AL D w w' p m O L') (k : w0.grownBy w none) : AL D w0 w' p m O L' := by
  obtain ⟨O', h1, h2, h3⟩ := h
  exact ⟨O', h1, (Turn.grown k).trans' h2, fun b hb => (h3 b hb).imp id fun q => Nat.le_trans k.size q⟩

/-- change, at one that is there. -/
theorem change_yes (gf : Nat) (cap : Array Value) (eg : ∀ args w, (callFunc gf args).run Try.prog w = .ok (.enter gf args) w) (h : PA w p most M hv zs N L) {i b : Nat} (hb : ((i : Int) + 1, b) ∈ N) (hid : okI ((i : Int) + 1)) (Q : Int → World → Prop)
    (HC : Calls Try.prog gf (#[.pointer (some ⟨b, 0, none⟩)] ++ cap) w fun e w' => ∃ z : Int, e = .returned (.int .i64 z) ∧ Q z w') :
    Calls Try.prog 29 #[.pointer (some ⟨p, 0, none⟩), .int .i64 ((i : Int) + 1), .func (.func gf) #[] cap] w fun e w' => ∃ z : Int, e = .returned (.int .i64 z) ∧ Q z w' := by
  have HM := Lib.hid (pa_made h)
  have c0 := h.at.1
  have hk : (Instr.lookup 58 (.map (some M)) (.int .i64 ((i : Int) + 1)) true).run Try.prog w = .ok (.tuple #[.pointer (some ⟨b, 0, none⟩), .bool true]) w := h.map.ok_yes lawsN h.nodup hb (okW_of hid)
  have HC2 := Lib.hid HC
  clear h HC hb hid
  go_enter Try.func29, Try.ntmps29
  go_wp2_with fail
  refine HM.out.mono ?_
  rintro e w2 ⟨rfl, e2⟩
  subst w2
  go_wp2_with (go_at_fn gf; refine HC2.out.mono ?_; rintro e w3 ⟨z, rfl, h3⟩; have H3 := Lib.hid h3; clear h3)
  go_ret
  exact ⟨z, rfl, H3.out⟩
theorem change_no (gf : Nat) (cap : Array Value) (h : PA w p most M hv zs N L) {id : Int} (hno : id ∉ idsN L) (hid : okI id) :
    Calls Try.prog 29 #[.pointer (some ⟨p, 0, none⟩), .int .i64 id, .func (.func gf) #[] cap] w fun e w' => e = .returned (.int .i64 7) ∧ w' = w := by
  have HM := Lib.hid (pa_made h)
  have c0 := h.at.1
  have hk : (Instr.lookup 58 (.map (some M)) (.int .i64 id) true).run Try.prog w = .ok (.tuple #[.pointer none, .bool false]) w := h.map.ok_no lawsN (h.not hno) (okW_of hid)
  clear h hno hid
  go_enter Try.func29, Try.ntmps29
  go_wp2_with fail
  refine HM.out.mono ?_
  rintro e w2 ⟨rfl, e2⟩
  subst w2
  go_wp2_with fail
  go_ret
  exact ⟨rfl, rfl⟩

set_option maxHeartbeats 1000000 in
theorem put_fn {b F S : Nat} {x : AnV} (hx : AB w b 36 x) (f s : Int) (hF : w.cell? ⟨F, 0, none⟩ = some (.int .i64 f)) (hS : w.cell? ⟨S, 0, none⟩ = some (.int .i64 s)) (hFb : F ≠ b) (hSb : S ≠ b) :
    Calls Try.prog 31 (#[.pointer (some ⟨b, 0, none⟩)] ++ #[.pointer (some ⟨F, 0, none⟩), .pointer (some ⟨S, 0, none⟩)]) w fun e w' => ∃ z : Int, e = .returned (.int .i64 z) ∧ z = 0 ∧ AB w' b 36 ⟨x.re, f, s⟩ ∧ w.grownBy w' (some b) := by
  show Calls Try.prog 31 #[.pointer (some ⟨b, 0, none⟩), .pointer (some ⟨F, 0, none⟩), .pointer (some ⟨S, 0, none⟩)] w _
  obtain ⟨x0, x1, x2⟩ := hx.at
  have z1 := hx.frozen 1
  have z2 := hx.frozen 2
  have HX := Lib.hid hx
  clear hx x0
  go_enter Try.func31, Try.ntmps31
  go_wp2_with fail
  go_region
  go_wp2_with fail
  go_ret
  refine ⟨0, rfl, rfl, ?_, grown_then (grown_trans (grown_set _ _ _ _) (grown_set _ _ _ _)) (grown_drew1 _)⟩
  have h1 := heap_setCell_same w b 1 _ _ (.int .i64 f) HX.out
  exact heap_setCell_same _ b 2 _ _ (.int .i64 s) h1

set_option maxHeartbeats 1000000 in
theorem pa_put (h : PA w p most M hv zs N L) (id f s : Int) (hid : okI id) (hf : okI f) (hs : okI s) : Calls Try.prog 16 #[.pointer (some ⟨p, 0, none⟩), .int .i64 id, .int .i64 f, .int .i64 s] w fun e w' => e = .returned (.int .i64 (putN L id f s).e) ∧ AL DN w w' p most (blkP p M hv N) (putN L id f s).L := by
  have ga := World.grownBy_alloc w (.cells #[.int .i64 f] 3 (0, 0)) none
  have gb := World.grownBy_alloc (w.alloc (.cells #[.int .i64 f] 3 (0, 0))) (.cells #[.int .i64 s] 3 (0, 0)) none
  have g2 := grown_trans ga gb
  have hB := h.grow g2
  have cF : ((w.alloc (.cells #[.int .i64 f] 3 (0, 0))).alloc (.cells #[.int .i64 s] 3 (0, 0))).cell? ⟨w.heap.size, 0, none⟩ = some (.int .i64 f) :=
    gb.cell (a := ⟨w.heap.size, 0, none⟩) (by rw [cell_of_row _ _ _ _ _ _ (heap_alloc_new w _)]; rfl) (by simp)
  have cS : ((w.alloc (.cells #[.int .i64 f] 3 (0, 0))).alloc (.cells #[.int .i64 s] 3 (0, 0))).cell? ⟨w.heap.size + 1, 0, none⟩ = some (.int .i64 s) := by
    have h1 := heap_alloc_new (w.alloc (.cells #[.int .i64 f] 3 (0, 0))) (.cells #[.int .i64 s] 3 (0, 0))
    rw [World.size_alloc] at h1
    rw [cell_of_row _ _ _ _ _ _ h1]; rfl
  have HG := Lib.hid g2
  rcases get_cases L id with ⟨h0, hno⟩ | ⟨i, x, rfl, h1, h2, h3, h4, h5, h6⟩
  · rw [show putN L id f s = ⟨0, 7, L⟩ by unfold putN; rw [h0]]
    have HC := Lib.hid (change_no 31 #[.pointer (some ⟨w.heap.size, 0, none⟩), .pointer (some ⟨w.heap.size + 1, 0, none⟩)] hB hno hid)
    have HS := Lib.hid (h.same g2)
    clear h hB ga gb g2 cF cS h0 hno
    go_enter Try.func16, Try.ntmps16
    go_wp2_with fail
    refine HC.out.mono ?_
    rintro e w2 ⟨rfl, e2⟩
    subst w2
    go_wp2_with fail
    go_ret
    exact ⟨rfl, HS.out⟩
  · obtain ⟨b, hb⟩ := hB.there h5
    have hx := hB.at_box hb h4
    have hblt : b < w.heap.size := h.lt b (mem_blkP.2 (.inr (.inr (.inr ⟨_, hb, rfl⟩))))
    have hgx := h.good.at h2
    have HC := Lib.hid (change_yes 31 #[.pointer (some ⟨w.heap.size, 0, none⟩), .pointer (some ⟨w.heap.size + 1, 0, none⟩)] (enters_of Try.func31 (by kernel_rfl) rfl) hB hb hid (fun z w' => z = 0 ∧ AL DN w w' p most (blkP p M hv N) (L.set i ⟨x.re, f, s⟩))
      ((put_fn hx f s cF cS (by omega) (by omega)).mono fun e w' ⟨z, he, hz, hx2, hg2⟩ => ⟨z, he, hz, (hB.boxed hb h5 hx2 hg2 h3 ⟨hgx.r0, hgx.r1, hf, hs⟩).back g2⟩))
    rw [show putN L ((i : Int) + 1) f s = ⟨0, 0, L.set i ⟨x.re, f, s⟩⟩ by unfold putN; rw [h4]; simp only; rw [h6]]
    clear h hB ga gb g2 cF cS h2 h3 h4 h5 h6 hb hx hgx
    go_enter Try.func16, Try.ntmps16
    go_wp2_with fail
    refine HC.out.mono ?_
    rintro e w2 ⟨z, rfl, rfl, h2⟩
    have H2 := Lib.hid h2
    clear h2
    go_wp2_with fail
    go_ret
    exact ⟨rfl, H2.out⟩
end
end Go.Proofs.Ytpiemnffbcgbmaa
