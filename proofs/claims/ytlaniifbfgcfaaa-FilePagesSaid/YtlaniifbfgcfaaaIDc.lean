/- Package file (landed): put, Write. -/
import Derived.Test.YtlaniifbfgcfaaaIDb
import Derived.Deep.RegionHeld3
import Derived.Deep.MidRow
import Derived.Laws.Cover3
namespace Go.Proofs.Ytlaniifbfgcfaaa
open Go.ChangeShapes Go.WideShapes Go.ChangeAt Go.RowKit Go.Deep
open Extern.Stop (cell)
set_option linter.unusedVariables false

theorem range_block {w : World} {y : Nat} {cs : List Value} {t : TypeId} (hy : w.heap[y]? = some (.cells cs.toArray t (0, 0))) : w.rangeAt y 0 cs := fun j v hv => by
  rw [Nat.zero_add, cell_of_row _ _ _ cs.toArray t (0, 0) hy]
  simpa using hv

section
variable {w w' : World} {p M n : Nat} {s s' : IS} {v : Value}
/-- The map turns, and nothing else. -/
theorem SI.mapped (h : SI w p s v M n) {n' : Nat} {P' : Int → Int → List UInt8} (hm : IMap w' M n' P') (g : w.grownBy w' (some M)) : SI w' p ⟨s.Z, P', s.left⟩ v M n' := by
  refine ⟨(g.block p h.plt (fun e => h.ne (Option.some.inj e).symm)).trans h.head, h.sizes.kept fun b hb => g.block b (h.sizes.lt hb).2 (fun e => h.vM (by rw [hb, ← Option.some.inj e])), hm⟩

set_option maxRecDepth 100000 in
set_option maxHeartbeats 2000000 in
theorem fl_put (h : SI w p s v M n) (hn : n < 2000000) (i q : Int) (hi : okI i) (hq : okI q) (bs : List UInt8) (hb : bs.length = 4096) :
    Calls Try.prog 36 #[.pointer (some ⟨p, 0, none⟩), .agg #[.int .i64 i, .int .i64 q], .agg (pgC bs)] w fun e w' => e = .returned (.tuple #[]) ∧ ∃ n' : Nat, n' ≤ n + 1 ∧ SI w' p ⟨s.Z, putI s.P i q bs, s.left⟩ v M n' ∧ Turn (blk p v M) w w' := by
  have ga := World.grownBy_alloc w (.cells #[.int .i64 i, .int .i64 q] 72) none
  have ba := heap_alloc_new w (.cells #[.int .i64 i, .int .i64 q] 72)
  have sa := World.size_alloc w (.cells #[.int .i64 i, .int .i64 q] 72)
  generalize hwA : w.alloc (.cells #[.int .i64 i, .int .i64 q] 72) = wA at *
  have gb := World.grownBy_alloc wA (.cells (pgC bs) 78) none
  have bb := heap_alloc_new wA (.cells (pgC bs) 78)
  generalize hwB : wA.alloc (.cells (pgC bs) 78) = wB at *
  have hB := (h.grow ga).grow gb
  have HT := Lib.hid (show Turn (blk p v M) w wB from Turn.grown (grown_trans ga gb))
  have bA : wB.heap[w.heap.size]? = some (.cells #[.int .i64 i, .int .i64 q] 72 (0, 0)) := (gb.block _ (by omega) (by simp)).trans ba
  have heq := fun W : World => eq_page W hb pageZ_length
  have hz := zero_page
  obtain ⟨cs, hcs⟩ : ∃ cs, bs.map cell = cs := ⟨_, rfl⟩
  have hX : pgC bs = cs.toArray := congrArg List.toArray hcs
  obtain ⟨Z, hZ⟩ : ∃ Z, pgC pageZ = Z := ⟨_, rfl⟩
  have hxi : (Try.prog.info? 78).map (·.size) = some cs.length := by rw [← hcs, List.length_map, hb]; kernel_rfl
  have hxu := Try.underlying78
  rw [hX] at heq bb hwB ⊢
  rw [hZ] at heq hz
  obtain ⟨c0, c1, c2⟩ := hB.at
  have k0 : wB.cell? ⟨w.heap.size, 0, none⟩ = some (.int .i64 i) := by rw [cell_of_row _ _ _ _ _ _ bA]; rfl
  have k1 : wB.cell? ⟨w.heap.size, 1, none⟩ = some (.int .i64 q) := by rw [cell_of_row _ _ _ _ _ _ bA]; rfl
  have hr := range_block bb
  have hMA : M ≠ w.heap.size := by have := h.pages.lt; omega
  have hMB : M ≠ wA.heap.size := by have := h.pages.lt; omega
  have HR := Lib.hid hr
  generalize hA : w.heap.size = A at *
  generalize hBB : wA.heap.size = B at *
  clear h ga gb ba bb bA sa c0 c2
  cases hbz : bs == pageZ
  · rw [hbz] at heq
    obtain ⟨w9, hup, h9, g9⟩ := (hB.pages.kept (w' := wB.drew) rfl).put hn bs hi hq
    rw [hX] at hup
    have HS1 := Lib.hid (show wB.drew.cell? ⟨p, 1, none⟩ = some (.map (some M)) ∧ wB.drew.cell? ⟨A, 0, none⟩ = some (.int .i64 i) ∧ wB.drew.cell? ⟨A, 1, none⟩ = some (.int .i64 q) ∧ wB.drew.rangeAt B 0 cs from ⟨c1, k0, k1, hr⟩)
    have hBd : SI wB.drew p s v M n := hB.grow (grown_drew1 wB)
    have h10 := hBd.mapped h9 g9
    have HS2 := Lib.hid (show w9.cell? ⟨p, 1, none⟩ = some (.map (some M)) ∧ w9.cell? ⟨A, 0, none⟩ = some (.int .i64 i) ∧ w9.cell? ⟨A, 1, none⟩ = some (.int .i64 q) ∧ w9.rangeAt B 0 cs from
      ⟨h10.at.2.1, g9.cell (w := wB.drew) k0 (fun e => hMA (Option.some.inj e).symm), g9.cell (w := wB.drew) k1 (fun e => hMA (Option.some.inj e).symm), fun j u hj => g9.cell (w := wB.drew) (hr j u hj) (fun e => hMB (Option.some.inj e).symm)⟩)
    have H9 := Lib.hid h10
    have HT9 := Lib.hid (show Turn (blk p v M) w w9 from (HT.out.trans' (Turn.grown (grown_drew1 wB))).trans' (Turn.one g9 (by simp [blk])))
    clear hB h9 g9 hBd h10 hr c1 k0 k1 hcs hX hZ hMA hMB hi hq hb
    go_enter Try.func36, Try.ntmps36
    go_wp2_with (refine wpList_load_mid rfl 78 _ rfl B 0 rfl cs _ HR.out hxu rfl hxi ?_)
    go_region_held3 (fun w' => w'.cell? ⟨p, 1, none⟩ = some (.map (some M)) ∧ w'.cell? ⟨A, 0, none⟩ = some (.int .i64 i) ∧ w'.cell? ⟨A, 1, none⟩ = some (.int .i64 q) ∧ w'.rangeAt B 0 cs) (first | exact HS1.out | exact HS2.out) (fail)
    go_wp2_with fail
    first | go_ret | go_end0
    exact ⟨rfl, n + 1, Nat.le_refl _, H9.out, HT9.out⟩
  · rw [hbz] at heq
    obtain rfl := eq_of_beq hbz
    obtain ⟨w9, hup, h9, g9⟩ := (hB.pages.kept (w' := wB.drew) rfl).strike hi hq 0
    have HS1 := Lib.hid (show wB.drew.cell? ⟨p, 1, none⟩ = some (.map (some M)) ∧ wB.drew.cell? ⟨A, 0, none⟩ = some (.int .i64 i) ∧ wB.drew.cell? ⟨A, 1, none⟩ = some (.int .i64 q) from ⟨c1, k0, k1⟩)
    have hBd : SI wB.drew p s v M n := hB.grow (grown_drew1 wB)
    have h10 := hBd.mapped h9 g9
    have HS2 := Lib.hid (show w9.cell? ⟨p, 1, none⟩ = some (.map (some M)) ∧ w9.cell? ⟨A, 0, none⟩ = some (.int .i64 i) ∧ w9.cell? ⟨A, 1, none⟩ = some (.int .i64 q) from
      ⟨h10.at.2.1, g9.cell (w := wB.drew) k0 (fun e => hMA (Option.some.inj e).symm), g9.cell (w := wB.drew) k1 (fun e => hMA (Option.some.inj e).symm)⟩)
    have H9 := Lib.hid h10
    have HT9 := Lib.hid (show Turn (blk p v M) w w9 from (HT.out.trans' (Turn.grown (grown_drew1 wB))).trans' (Turn.one g9 (by simp [blk])))
    clear hB h9 g9 hBd h10 hr c1 k0 k1 hcs hX hZ hMA hMB hi hq hb hbz
    go_enter Try.func36, Try.ntmps36
    go_wp2_with (refine wpList_load_mid rfl 78 _ rfl B 0 rfl cs _ HR.out hxu rfl hxi ?_)
    go_region_held3 (fun w' => w'.cell? ⟨p, 1, none⟩ = some (.map (some M)) ∧ w'.cell? ⟨A, 0, none⟩ = some (.int .i64 i) ∧ w'.cell? ⟨A, 1, none⟩ = some (.int .i64 q)) (first | exact HS1.out | exact HS2.out) (fail)
    go_wp2_with fail
    (try simp only [Exit.inBlock, Exit.then])
    refine bodyPost_ret (results_none rfl _ _ _) rfl ?_
    exact ⟨rfl, n, Nat.le_succ _, H9.out, HT9.out⟩

/-- What a Write leaves. -/
def LeftW (w w' : World) (p M n : Nat) (v : Value) (s' : IS) : Prop := ∃ n' : Nat, n' ≤ n + 1 ∧ SI w' p s' v M n' ∧ Turn (blk p v M) w w'
set_option maxHeartbeats 2000000 in
theorem fl_write (h : SI w p s v M n) (hk : s.Ok) (hn : n < 2000000) (i q : Int) (hi : okI i) (hq : okI q) (a : Option Addr) (l c : Nat) (bs : List UInt8) (hsrc : Src w a l bs) (hl : l ≤ 1000000) (hne : 0 < l → ∀ ad, a = some ad → ad.block ≠ p) :
    Calls Try.prog 19 #[.pointer (some ⟨p, 0, none⟩), .int .i64 i, .int .i64 q, .slice a l c] w fun e w' => e = .returned (.int .i64 (writeI s i q bs).1) ∧ LeftW w w' p M n v (writeI s i q bs).2 := by
  have hch := fl_check h hk.len i q hi
  have hbl := hsrc.1
  have HS := Lib.hid (show LeftW w w p M n v s from ⟨n, Nat.le_succ _, h, Turn.refl _ _⟩)
  by_cases hs : s.page i q
  · rw [show chkI s i q = 0 by unfold chkI; rw [if_pos hs.1, if_pos hs]] at hch
    have HC := Lib.hid hch
    by_cases hb : bs.length = 4096
    · have hl4 : l = 4096 := by omega
      subst hl4
      have hf := fl_fails h hk
      by_cases h1 : s.left = 1
      · rw [show writeI s i q bs = (6, failI s) by unfold writeI; rw [if_pos hs.1, if_pos ⟨hs, hb⟩, if_pos h1]]
        rw [decide_eq_true h1] at hf
        have HF := Lib.hid hf
        clear h hs hk h1 hsrc hb hf hch HS
        go_enter Try.func19, Try.ntmps19
        go_wp2_with fail
        refine HC.out.mono ?_
        rintro e w2 ⟨rfl, e2⟩
        subst w2
        go_wp2_with fail
        refine HF.out.mono ?_
        rintro e w2 ⟨rfl, h2, g2⟩
        have H2 := Lib.hid (show LeftW w w2 p M n v (failI s) from ⟨n, Nat.le_succ _, h2, Turn.one g2 (by simp [blk])⟩)
        clear h2 g2
        go_wp2_with fail
        go_ret
        exact ⟨rfl, H2.out⟩
      · rw [show writeI s i q bs = (0, ⟨s.Z, putI s.P i q bs, decI s.left⟩) by unfold writeI; rw [if_pos hs.1, if_pos ⟨hs, hb⟩, if_neg h1]]
        rw [decide_eq_false h1] at hf
        have HF := Lib.hid hf
        obtain ⟨b, o, rfl, hr⟩ : ∃ b o, a = some ⟨b, o, none⟩ ∧ w.rangeAt b o (bs.map cell) := by
          rcases hsrc.2 with h0 | h0
          · omega
          · exact h0
        have HNe := Lib.hid (hne (by omega) _ rfl)
        have HBl := Lib.hid hb
        have HR := Lib.hid hr
        have HI := Lib.hid (And.intro hi hq)
        have hv := run_arrayAt (P := Try.prog) (arr := 78) (e := 5) (n := 4096) (a := some ⟨b, o, none⟩) (len := 4096) (cap := c) (h := Try.underlying78) (hn := Nat.le_refl _)
        clear h hs hk h1 hsrc hb hne hr hf hch HS hi hq
        go_enter Try.func19, Try.ntmps19
        go_wp2_with fail
        refine HC.out.mono ?_
        rintro e w2 ⟨rfl, e2⟩
        subst w2
        go_wp2_with fail
        refine HF.out.mono ?_
        rintro e w2 ⟨rfl, h2, g2⟩
        have hr2 : w2.rangeAt b o (bs.map cell) := fun j u hj => g2.cell (HR.out j u hj) (fun e => HNe.out (Option.some.inj e))
        have hxi : (Try.prog.info? 78).map (·.size) = some (bs.map cell).length := by rw [List.length_map, HBl.out]; kernel_rfl
        have HP := Lib.hid (fl_put h2 hn i q HI.out.1 HI.out.2 bs HBl.out)
        obtain ⟨cs, hcs⟩ : ∃ cs, bs.map cell = cs := ⟨_, rfl⟩
        have hX : pgC bs = cs.toArray := congrArg List.toArray hcs
        rw [hX] at HP
        rw [hcs] at hr2 hxi
        have HR2 := Lib.hid hr2
        have HXI := Lib.hid hxi
        have HG := Lib.hid g2
        clear h2 g2 hr2 hxi hcs hX
        go_wp2_with (refine wpList_load_mid rfl 78 _ rfl b o rfl cs _ HR2.out Try.underlying78 rfl HXI.out ?_)
        refine HP.out.mono ?_
        rintro e w3 ⟨rfl, n3, hn3, h3, t3⟩
        have H3 := Lib.hid (show LeftW w w3 p M n v ⟨s.Z, putI s.P i q bs, decI s.left⟩ from ⟨n3, hn3, h3, (Turn.one HG.out (by simp [blk])).trans' t3⟩)
        clear h3 t3
        go_wp2_with fail
        go_ret
        exact ⟨rfl, H3.out⟩
    · rw [show writeI s i q bs = (2, s) by unfold writeI; rw [if_pos hs.1, if_neg (fun k => hb k.2)]]
      have hb2 : ((l : Int) != 4096) = true := bne_iff_ne.2 (by omega)
      clear h hs hk hsrc hb hch
      go_enter Try.func19, Try.ntmps19
      go_wp2_with fail
      refine HC.out.mono ?_
      rintro e w2 ⟨rfl, e2⟩
      subst w2
      go_wp2_with fail
      go_ret
      exact ⟨rfl, HS.out⟩
  · have hrd : writeI s i q bs = (chkI s i q, s) := by
      unfold writeI chkI
      split <;> simp [hs]
    have hc : chkI s i q = 7 ∨ chkI s i q = 2 := by unfold chkI; split <;> simp [hs]
    rw [hrd]
    rcases hc with hc | hc
    all_goals
      rw [hc] at hch ⊢
      have HC := Lib.hid hch
      clear h hs hk hrd hc hch hsrc
      go_enter Try.func19, Try.ntmps19
      go_wp2_with fail
      refine HC.out.mono ?_
      rintro e w2 ⟨rfl, e2⟩
      subst w2
      go_wp2_with fail
      go_ret
      exact ⟨rfl, HS.out⟩
end
end Go.Proofs.Ytlaniifbfgcfaaa
