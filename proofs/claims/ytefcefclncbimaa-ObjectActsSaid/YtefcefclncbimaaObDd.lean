/- Package object (landed): Make, New. -/
import Derived.Test.YtefcefclncbimaaObDc
namespace Go.Proofs.Ytefcefclncbimaa
open Go.ChangeShapes Go.WideShapes Go.ChangeAt Go.RowKit Go.Deep
set_option linter.unusedVariables false

section
variable {w w' w2 w4 : World} {p most M1 M2 i b : Nat} {L : ObL} {S : Nat → ObP} {x y : ObV} {P : ObP}
/-- A new object. -/
theorem PO.put (h : PO w p most M1 M2 L S) (hl : i ≤ L.length) (hu : UniqO most (putO L i (some y))) (hb : ObB LPD 79 w y P) (o : ∀ b, b ∈ P.blk → b ∉ blkM p M1 M2 L S) (hs : w.heap.size ≤ w4.heap.size) (k : ∀ b, b < w.heap.size → b ≠ M1 → b ≠ M2 → w4.heap[b]? = w.heap[b]?) (t : Turn (blkM p M1 M2 L S) w w4)
    (m1 : MapV ptrV w4 M1 (nsO (putO L i (some y)) (updO S i P))) (m2 : MapV numV w4 M2 (fsO (putO L i (some y)))) :
    PO w4 p most M1 M2 (putO L i (some y)) (updO S i P) ∧ ∀ b, b ∈ blkM p M1 M2 (putO L i (some y)) (updO S i P) → b ∈ blkM p M1 M2 L S ∨ b ∈ P.blk := by
  have ob : ∀ b, b ∈ P.blk → b ∉ blks L S := fun b hb hm => o b hb (mem_blkM.2 (.inr (.inr (.inr hm))))
  refine ⟨⟨(k _ h.plt (fun e => h.m1.ne h.head e.symm) (fun e => h.m2.ne h.head e.symm)).trans h.head, m1, m2, (h.am.kept lpdOk hs fun b hb => k b (h.am.lt lpdOk b hb) (fun e => h.b1 (e ▸ hb)) (fun e => h.b2 (e ▸ hb))).put hl (hb.kept lpdOk hs fun b hb2 => k b (hb.lt lpdOk b hb2) (fun e => o b hb2 (mem_blkM.2 (.inr (.inl e)))) (fun e => o b hb2 (mem_blkM.2 (.inr (.inr (.inl e)))))) ob, fun hm => ?_, fun hm => ?_, fun hm => ?_, h.ne, hu⟩, fun b hb2 => ?_⟩
  · rcases blks_put hl hm with h1 | h1
    · exact h.pb h1
    · exact o _ h1 (mem_blkM.2 (.inl rfl))
  · rcases blks_put hl hm with h1 | h1
    · exact h.b1 h1
    · exact o _ h1 (mem_blkM.2 (.inr (.inl rfl)))
  · rcases blks_put hl hm with h1 | h1
    · exact h.b2 h1
    · exact o _ h1 (mem_blkM.2 (.inr (.inr (.inl rfl))))
  · rcases mem_blkM.1 hb2 with e | e | e | e
    · exact .inl (mem_blkM.2 (.inl e))
    · exact .inl (mem_blkM.2 (.inr (.inl e)))
    · exact .inl (mem_blkM.2 (.inr (.inr (.inl e))))
    · rcases blks_put hl e with h1 | h1
      · exact .inl (mem_blkM.2 (.inr (.inr (.inr h1))))
      · exact .inr h1
theorem po_make_no (h : PO w p most M1 M2 L S) (hg : GoodOs most L) (f : Int) (hf : okI f) (hno : f < 0 ∨ findO L f ≠ 0) : Calls Try.prog 11 #[.pointer (some ⟨p, 0, none⟩), .int .i64 f] w fun e w' => e = .returned (.tuple #[.int .i64 (makeO most L f).n, .int .i64 (makeO most L f).e]) ∧ ALo DLO w w' p most (blkM p M1 M2 L S) (makeO most L f).L := by
  have HM := Lib.hid (po_made h)
  have HS := Lib.hid (h.same hg (grown_refl w none))
  by_cases h0 : f < 0
  · rw [make_inval h0]
    have d0 : decide (f < 0) = true := decide_eq_true h0
    clear h hg hno hf
    go_enter Try.func11, Try.ntmps11
    go_wp2_with fail
    refine HM.out.mono ?_
    rintro e w2 ⟨rfl, e2⟩
    subst w2
    go_wp2_with fail
    go_ret2
    exact ⟨rfl, HS.out⟩
  · have h1 : findO L f ≠ 0 := by
      rcases hno with h1 | h1
      · exact absurd h1 h0
      · exact h1
    rw [make_busy h0 h1]
    have HO := Lib.hid (po_of h f hf)
    have d0 : decide (f < 0) = false := decide_eq_false h0
    have d1 : (findO L f != 0) = true := by simpa using h1
    clear h hg hno hf h1
    generalize findO L f = z at *
    go_enter Try.func11, Try.ntmps11
    go_wp2_with fail
    refine HM.out.mono ?_
    rintro e w2 ⟨rfl, e2⟩
    subst w2
    go_wp2_with fail
    refine HO.out.mono ?_
    rintro e w2 ⟨rfl, e2⟩
    subst w2
    go_wp2_with fail
    go_ret2
    exact ⟨rfl, HS.out⟩
theorem ids_nsO (h : PO w p most M1 M2 L S) : (nsO L S).length = (idsO L).length := by rw [← nsO_keys h.len, List.length_map]
set_option maxHeartbeats 1000000 in
theorem po_make_full (h : PO w p most M1 M2 L S) (hg : GoodOs most L) (f : Int) (hf : okI f) (h0 : ¬ f < 0) (h1 : findO L f = 0) (hfull : most ≤ (idsO L).length) : Calls Try.prog 11 #[.pointer (some ⟨p, 0, none⟩), .int .i64 f] w fun e w' => e = .returned (.tuple #[.int .i64 (makeO most L f).n, .int .i64 (makeO most L f).e]) ∧ ALo DLO w w' p most (blkM p M1 M2 L S) (makeO most L f).L := by
  have HM := Lib.hid (po_made h)
  have HS := Lib.hid (h.same hg (grown_drew1 w))
  rw [make_full h0 h1 hfull]
  have HO := Lib.hid (po_of h f hf)
  rw [h1] at HO
  have hd := h.grow (grown_drew1 w)
  obtain ⟨c0, c1, -⟩ := hd.at
  have hlen := fun ty => hd.m1.len lawsO ty
  rw [ids_nsO h] at hlen
  have d0 : decide (f < 0) = false := decide_eq_false h0
  have d1 : decide (most ≤ (idsO L).length) = true := decide_eq_true hfull
  generalize (idsO L).length = n at *
  clear h hg h1 hf hd
  go_enter Try.func11, Try.ntmps11
  go_wp2_with fail
  refine HM.out.mono ?_
  rintro e w2 ⟨rfl, e2⟩
  subst w2
  go_wp2_with fail
  refine HO.out.mono ?_
  rintro e w2 ⟨rfl, e2⟩
  subst w2
  go_wp2_with fail
  go_region
  go_wp2_with fail
  go_ret2
  exact ⟨rfl, HS.out⟩
set_option maxRecDepth 100000 in
set_option maxHeartbeats 2000000 in
theorem po_make_yes (h : PO w p most M1 M2 L S) (hg : GoodOs most L) (f : Int) (hf : okI f) (h0 : ¬ f < 0) (h1 : findO L f = 0) (hno : ¬ most ≤ (idsO L).length) : Calls Try.prog 11 #[.pointer (some ⟨p, 0, none⟩), .int .i64 f] w fun e w' => e = .returned (.tuple #[.int .i64 (makeO most L f).n, .int .i64 (makeO most L f).e]) ∧ ALo DLO w w' p most (blkM p M1 M2 L S) (makeO most L f).L := by
  have hrg := make_good (f := f) hg hf.2
  rw [make_eq h0 h1 hno] at hrg ⊢
  have HRg := Lib.hid hrg
  have HM := Lib.hid (po_made h)
  have HO := Lib.hid (po_of h f hf)
  rw [h1] at HO
  have gd := grown_drew1 w
  have hd := h.grow gd
  obtain ⟨c0, c1, c2⟩ := hd.at
  have hlen := fun ty => hd.m1.len lawsO ty
  rw [ids_nsO h] at hlen
  have HLw := Lib.hid (po_lowest hd)
  have d0 : decide (f < 0) = false := decide_eq_false h0
  have d1 : decide (most ≤ (idsO L).length) = false := decide_eq_false hno
  have hlt : firstO L < most := first_room hg.len hno
  have hfl := first_le (L := L)
  have hdead := first_dead (L := L)
  have hmost := hg.most
  have hnf : ∀ j, hasF L f j = false := by
    rcases find_cases hg f with ⟨_, k⟩ | ⟨j, k, _⟩
    · exact k
    · omega
  generalize hWd : w.drew = wd at *
  have hsd : w.heap.size = wd.heap.size := by rw [← hWd]; rfl
  -- the object and its map
  have ga := World.grownBy_alloc wd (.map #[] 0) none
  have mp := MapV.made pgAgg wd
  have gb := World.grownBy_alloc (wd.alloc (.map #[] 0)) (.cells #[.int .i64 f, .int .i64 1, .map (some wd.heap.size)] 79 (0, 0)) none
  have g2 := grown_trans ga gb
  have hsz : (wd.alloc (.map #[] 0)).heap.size = wd.heap.size + 1 := by simp
  have hob : ObB LPD 79 ((wd.alloc (.map #[] 0)).alloc (.cells #[.int .i64 f, .int .i64 1, .map (some wd.heap.size)] 79 (0, 0))) ⟨f, 1, []⟩ ⟨wd.heap.size + 1, .map (some wd.heap.size), [wd.heap.size]⟩ := by
    refine ⟨?_, ⟨wd.heap.size, rfl, mp.grow gb, rfl⟩, fun hm => by have hm := List.mem_singleton.1 hm; have hm : wd.heap.size + 1 = wd.heap.size := hm; omega⟩
    have := heap_alloc_new (wd.alloc (.map #[] 0)) (.cells #[.int .i64 f, .int .i64 1, .map (some wd.heap.size)] 79 (0, 0))
    rw [hsz] at this
    exact this
  have h2 := hd.grow g2
  have c12 := h2.at.2.2
  have hnew : ∀ b, b ∈ ObP.blk ⟨wd.heap.size + 1, .map (some wd.heap.size), [wd.heap.size]⟩ → wd.heap.size ≤ b := fun b hb => by
    rcases ObP.mem.1 hb with e | e
    · have e : b = wd.heap.size + 1 := e; omega
    · have e : b = wd.heap.size := List.mem_singleton.1 e; omega
  have hout : ∀ b, b ∈ ObP.blk ⟨wd.heap.size + 1, .map (some wd.heap.size), [wd.heap.size]⟩ → b ∉ blkM p M1 M2 L S := fun b hb hm => by have := hnew b hb; have := hd.lt b hm; omega
  generalize hW2 : (wd.alloc (.map #[] 0)).alloc (.cells #[.int .i64 f, .int .i64 1, .map (some wd.heap.size)] 79 (0, 0)) = W2 at *
  obtain ⟨w3, r3, k3, g3⟩ := h2.m1.put lawsO (by have := nsO_len (L := L) (S := S); omega) (wd.heap.size + 1) (x := (firstO L : Int) + 1) ⟨by omega, by omega⟩
  have k3' := k3.perm (nsO_put (y := ⟨f, 1, []⟩) (P := ⟨wd.heap.size + 1, .map (some wd.heap.size), [wd.heap.size]⟩) hfl (by omega) hdead)
  have c23 : w3.cell? ⟨p, 2, none⟩ = some (.map (some M2)) := g3.cell c12 (fun e => h2.m1.ne h2.head (Option.some.inj e).symm)
  have G2 := Lib.hid (grown_trans gd g2)
  have Hout := Lib.hid hout
  have HW := Lib.hid (show ∀ b, b ∈ ObP.blk ⟨wd.heap.size + 1, .map (some wd.heap.size), [wd.heap.size]⟩ → w.heap.size ≤ b from fun b hb => by have := hnew b hb; omega)
  unfold ptrV at r3
  have hmk : (Instr.makeMap 77 none).run Try.prog wd = .ok (.map (some wd.heap.size)) (wd.alloc (.map #[] 0)) := rfl
  by_cases hf0 : f = 0
  · subst hf0
    have m2' : MapV numV w3 M2 (fsO (putO L (firstO L) (some ⟨0, 1, []⟩))) := by
      rw [fsO_put0 hfl hdead (by decide)]
      exact h2.m2.kept (g3.block M2 h2.m2.lt fun e => h2.ne (Option.some.inj e).symm)
    have HP := Lib.hid (h2.put hfl hrg.u hob hout g3.size (fun b hb e1 e2 => g3.block b hb fun e => e1 (Option.some.inj e)) (Turn.one g3 (mem_blkM.2 (.inr (.inl rfl)))) k3' m2')
    have HT := Lib.hid (show Turn (blkM p M1 M2 L S) W2 w3 from Turn.one g3 (mem_blkM.2 (.inr (.inl rfl))))
    clear h hg hrg h1 hf hd ga mp gb g2 hob h2 hnew hout k3 k3' g3 m2' hnf hdead hlt hfl hno gd
    go_enter Try.func11, Try.ntmps11
    go_wp2_with fail
    refine HM.out.mono ?_
    rintro e w2 ⟨rfl, e2⟩
    subst w2
    go_wp2_with fail
    refine HO.out.mono ?_
    rintro e w2 ⟨rfl, e2⟩
    subst w2
    go_wp2_with fail
    go_region
    go_wp2_with fail
    refine HLw.out.mono ?_
    rintro e w2 ⟨rfl, e2⟩
    subst w2
    go_wp2_with fail
    go_ret2
    exact ⟨rfl, _, ⟨M1, M2, _, HP.out.1, HRg.out, rfl⟩, (Turn.grown G2.out).trans' HT.out, fun b hb => (HP.out.2 b hb).imp id (HW.out b)⟩
  · have hfp : 0 < f := by omega
    have df : (f != 0) = true := by simpa using hf0
    have hm3 := h2.m2.kept (g3.block M2 h2.m2.lt fun e => h2.ne (Option.some.inj e).symm)
    obtain ⟨w4, r4, k4, g4⟩ := hm3.put lawsF (by have := fsO_len (L := L); omega) ((firstO L : Int) + 1) hf
    have k4' := k4.perm (fsO_put (y := ⟨f, 1, []⟩) hfl (by omega) hdead hfp hnf)
    have m1' := k3'.kept (g4.block M1 k3'.lt fun e => h2.ne (Option.some.inj e))
    have ht : Turn (blkM p M1 M2 L S) W2 w4 := (Turn.one g3 (mem_blkM.2 (.inr (.inl rfl)))).trans' (Turn.one g4 (mem_blkM.2 (.inr (.inr (.inl rfl)))))
    have HP := Lib.hid (h2.put hfl hrg.u hob hout (Nat.le_trans g3.size g4.size) (fun b hb e1 e2 => (g4.block b (Nat.lt_of_lt_of_le hb g3.size) fun e => e2 (Option.some.inj e)).trans (g3.block b hb fun e => e1 (Option.some.inj e))) ht m1' k4')
    have HT := Lib.hid ht
    unfold numV at r4
    clear h hg hrg h1 hf hd ga mp gb g2 hob h2 hnew hout k3 k3' g3 hnf hdead hlt hfl hno gd hm3 k4 k4' g4 m1' ht hfp hf0
    go_enter Try.func11, Try.ntmps11
    go_wp2_with fail
    refine HM.out.mono ?_
    rintro e w2 ⟨rfl, e2⟩
    subst w2
    go_wp2_with fail
    refine HO.out.mono ?_
    rintro e w2 ⟨rfl, e2⟩
    subst w2
    go_wp2_with fail
    go_region
    go_wp2_with fail
    refine HLw.out.mono ?_
    rintro e w2 ⟨rfl, e2⟩
    subst w2
    go_wp2_with fail
    go_ret2
    exact ⟨rfl, _, ⟨M1, M2, _, HP.out.1, HRg.out, rfl⟩, (Turn.grown G2.out).trans' HT.out, fun b hb => (HP.out.2 b hb).imp id (HW.out b)⟩
theorem po_make (h : PO w p most M1 M2 L S) (hg : GoodOs most L) (f : Int) (hf : okI f) : Calls Try.prog 11 #[.pointer (some ⟨p, 0, none⟩), .int .i64 f] w fun e w' => e = .returned (.tuple #[.int .i64 (makeO most L f).n, .int .i64 (makeO most L f).e]) ∧ ALo DLO w w' p most (blkM p M1 M2 L S) (makeO most L f).L := by
  by_cases h0 : f < 0
  · exact po_make_no h hg f hf (.inl h0)
  · by_cases h1 : findO L f = 0
    · by_cases h2 : most ≤ (idsO L).length
      · exact po_make_full h hg f hf h0 h1 h2
      · exact po_make_yes h hg f hf h0 h1 h2
    · exact po_make_no h hg f hf (.inr h1)
end
set_option maxRecDepth 100000 in
theorem po_new (n : Nat) (w : World) (hn : n ≤ 4096) : Calls Try.prog 8 #[.int .i64 n] w fun e w' => ∃ p O, e = .returned (.pointer (some ⟨p, 0, none⟩)) ∧ DLO w' p n [] O ∧ w.grownBy w' none ∧ ∀ b, b ∈ O → w.heap.size ≤ b := by
  have d0 : decide ((n : Int) < 0) = false := decide_eq_false (by omega)
  have d1 : decide ((n : Int) > 4096) = false := decide_eq_false (by omega)
  have ga := World.grownBy_alloc w (.map #[] 0) none
  have ma := MapV.made ptrV w
  have e1 : (w.alloc (.map #[] 0)).heap.size = w.heap.size + 1 := by simp
  have gb := World.grownBy_alloc (w.alloc (.map #[] 0)) (.map #[] 0) none
  have mb := MapV.made numV (w.alloc (.map #[] 0))
  rw [e1] at mb
  have e2 : ((w.alloc (.map #[] 0)).alloc (.map #[] 0)).heap.size = w.heap.size + 2 := by simp
  have gc := World.grownBy_alloc ((w.alloc (.map #[] 0)).alloc (.map #[] 0)) (.cells #[.int .i64 n, .map (some w.heap.size), .map (some (w.heap.size + 1))] 68 (0, 0)) none
  have hp := heap_alloc_new ((w.alloc (.map #[] 0)).alloc (.map #[] 0)) (.cells #[.int .i64 n, .map (some w.heap.size), .map (some (w.heap.size + 1))] 68 (0, 0))
  rw [e2] at hp
  have hns : nsO [] S0 = [] := by
    unfold nsO
    rw [List.filter_eq_nil_iff.2 fun i _ => by rw [liveO_out (Nat.zero_le _)]; decide]
    rfl
  have hfs : fsO [] = [] := by
    unfold fsO
    rw [List.filter_eq_nil_iff.2 fun i _ => by rw [fileAt_dead (liveO_out (Nat.zero_le _))]; decide]
    rfl
  have hP : PO (((w.alloc (.map #[] 0)).alloc (.map #[] 0)).alloc (.cells #[.int .i64 n, .map (some w.heap.size), .map (some (w.heap.size + 1))] 68 (0, 0))) (w.heap.size + 2) n w.heap.size (w.heap.size + 1) [] S0 :=
    ⟨hp, by rw [hns]; exact ma.grow (grown_trans gb gc), by rw [hfs]; exact mb.grow gc, ⟨(fun i x h => by cases h), (fun i j h => by rw [show liveO [] i = false from rfl] at h; cases h)⟩, (fun h => by cases h), (fun h => by cases h), (fun h => by cases h), by omega, (GoodOs.new hn).u⟩
  have HP := Lib.hid hP
  have HG := Lib.hid (grown_trans ga (grown_trans gb gc))
  have hmk : (Instr.makeMap 65 none).run Try.prog w = .ok (.map (some w.heap.size)) (w.alloc (.map #[] 0)) := rfl
  have hmk2 : (Instr.makeMap 66 none).run Try.prog (w.alloc (.map #[] 0)) = .ok (.map (some (w.heap.size + 1))) ((w.alloc (.map #[] 0)).alloc (.map #[] 0)) := by rw [← e1]; rfl
  clear ga ma gb mb gc hp hP hns hfs
  go_enter Try.func8, Try.ntmps8
  go_wp2_with fail
  go_ret
  refine ⟨_, _, rfl, ⟨_, _, _, HP.out, GoodOs.new hn, rfl⟩, HG.out, fun b hb => ?_⟩
  rcases mem_blkM.1 hb with e | e | e | e
  · omega
  · omega
  · omega
  · cases e
theorem po_new_no (n : Int) (w : World) (h : ¬ (0 ≤ n ∧ n ≤ 4096)) : Calls Try.prog 8 #[.int .i64 n] w fun e w' => e = .returned (.pointer none) ∧ w.grownBy w' none := by
  rcases (show n < 0 ∨ (¬ n < 0 ∧ n > 4096) by omega) with d0 | ⟨d0, d1⟩
  all_goals
    clear h
    go_enter Try.func8, Try.ntmps8
    go_wp2_with fail
    go_ret
    exact ⟨rfl, grown_refl _ _⟩
end Go.Proofs.Ytefcefclncbimaa
