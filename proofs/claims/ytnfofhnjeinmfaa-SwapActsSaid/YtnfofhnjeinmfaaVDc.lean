/- Package swap (landed): Write; it is what the interface asks. -/
import Derived.Test.YtnfofhnjeinmfaaVDb
import Derived.Deep.RegionHeld3
import Derived.Deep.MidRow
import Derived.Laws.Cover3
namespace Go.Proofs.Ytnfofhnjeinmfaa
open Go.ChangeShapes Go.WideShapes Go.ChangeAt Go.RowKit Go.Deep
open Extern.Stop (cell)
set_option linter.unusedVariables false

theorem range_page {w : World} {y : Nat} {cs : List Value} {t : TypeId} (hy : w.heap[y]? = some (.cells cs.toArray t (0, 0))) : w.rangeAt y 0 cs := fun j v hv => by
  rw [Nat.zero_add, cell_of_row _ _ _ cs.toArray t (0, 0) hy]
  simpa using hv

section
variable {w w' : World} {p M n : Nat} {s s' : VS}
set_option maxRecDepth 100000 in
set_option maxHeartbeats 2000000 in
theorem sw_write (h : SD w p s M n) {k : Int} (hk : s.Ok k) (hk2 : k ≤ 1000000) (hn : n ≤ s.cw) (i : Int) (a : Option Addr) (l c : Nat) (bs : List UInt8) (hsrc : Src w a l bs) (hl : l ≤ 1000000) (hne : 0 < l → ∀ ad, a = some ad → ad.block ≠ p ∧ ad.block ≠ M) :
    Calls Try.prog 12 #[.pointer (some ⟨p, 0, none⟩), .int .i64 i, .slice a l c] w fun e w' => e = .returned (.int .i64 (writeV s i bs).1) ∧ ∃ n' : Nat, (n' : Int) ≤ (writeV s i bs).2.cw ∧ SD w' p (writeV s i bs).2 M n' ∧ Turn [p, M] w w' := by
  obtain ⟨c0, c1, c2, c3, c4, c5⟩ := h.at
  have HM := Lib.hid (made_ok h)
  have HF := Lib.hid (sw_failW h hk hk2)
  have HH := Lib.hid h
  have hlen := h.len
  have hbl := hsrc.1
  by_cases hs : s.has i
  · have HA := Lib.hid (has_ok h i true (decide_eq_true hs))
    obtain ⟨m, rfl⟩ := Int.eq_ofNat_of_zero_le hs.1
    have hm : m < s.L.length := by have := hs.2; omega
    by_cases hb : bs.length = 4096
    · have hl4 : l = 4096 := by omega
      subst hl4
      by_cases h1 : s.pw = 1
      · rw [show writeV s m bs = (6, failW s) by unfold writeV failW decV; rw [if_pos ⟨hs, hb⟩, if_pos h1, if_neg (by omega), h1]; rfl]
        rw [decide_eq_true h1] at HF
        have hcn : (n : Int) ≤ (failW s).cw := by show (n : Int) ≤ s.cw + 1; omega
        clear h hs hk h1 hsrc hb
        go_enter Try.func12, Try.ntmps12
        go_wp2_with fail
        refine HM.out.mono ?_
        rintro e w2 ⟨rfl, e2⟩
        subst w2
        go_wp2_with fail
        refine HA.out.mono ?_
        rintro e w2 ⟨rfl, e2⟩
        subst w2
        go_wp2_with fail
        refine HF.out.mono ?_
        rintro e w2 ⟨rfl, h2, g2⟩
        have H2 := Lib.hid h2
        have HG := Lib.hid g2
        clear h2 g2
        go_wp2_with fail
        go_ret
        exact ⟨rfl, n, hcn, H2.out, Turn.one HG.out (by simp)⟩
      · rw [show writeV s m bs = (0, ⟨s.L.set m bs, s.pr, decV s.pw, s.cr, s.cw + 1⟩) by unfold writeV; rw [if_pos ⟨hs, hb⟩, if_neg h1, Int.toNat_natCast]]
        rw [decide_eq_false h1] at HF
        have hn1 : n < 2000000 := by have := hk.cw1; omega
        have hcn : ((n + 1 : Nat) : Int) ≤ s.cw + 1 := by omega
        obtain ⟨b, o, rfl, hr⟩ : ∃ b o, a = some ⟨b, o, none⟩ ∧ w.rangeAt b o (bs.map cell) := by
          rcases hsrc.2 with h0 | h0
          · omega
          · exact h0
        have hne2 := hne (by omega) _ rfl
        have HNe := Lib.hid hne2
        have HBl := Lib.hid hb
        have HR := Lib.hid hr
        have hv := run_arrayAt (P := Try.prog) (arr := 67) (e := 5) (n := 4096) (a := some ⟨b, o, none⟩) (len := 4096) (cap := c) (h := Try.underlying67) (hn := Nat.le_refl _)
        clear h hs hk h1 hsrc hb hne hne2 hr
        go_enter Try.func12, Try.ntmps12
        go_wp2_with fail
        refine HM.out.mono ?_
        rintro e w2 ⟨rfl, e2⟩
        subst w2
        go_wp2_with fail
        refine HA.out.mono ?_
        rintro e w2 ⟨rfl, e2⟩
        subst w2
        go_wp2_with fail
        refine HF.out.mono ?_
        rintro e w2 ⟨rfl, h2, g2⟩
        obtain ⟨e0, e1, -, -, -, -⟩ := h2.at
        have hbp : b ≠ p := HNe.out.1
        have hbM : b ≠ M := HNe.out.2
        have hr2 : w2.rangeAt b o (bs.map cell) := fun j v hj => g2.cell (HR.out j v hj) (fun e => hbp (Option.some.inj e))
        obtain ⟨w9, hup, h9, g9⟩ := (h2.pages.kept (w' := w2.drew) rfl).put hn1 bs (i := m) (by omega)
        obtain ⟨cs, hcs⟩ : ∃ cs, bs.map cell = cs := ⟨_, rfl⟩
        have hX : pgC bs = cs.toArray := congrArg List.toArray hcs
        rw [show pgV bs = .agg cs.toArray from congrArg Value.agg hX] at hup
        rw [hcs] at hr2
        have hxu := Try.underlying67
        have hxi : (Try.prog.info? 67).map (·.size) = some cs.length := by rw [← hcs, List.length_map, HBl.out]; kernel_rfl
        have HS1 := Lib.hid (show w2.drew.cell? ⟨p, 1, none⟩ = some (.map (some M)) ∧ w2.drew.rangeAt b o cs from ⟨e1, hr2⟩)
        have hpn : p ≠ M := fun e => h2.ne e.symm
        have hsp : w9.heap[p]? = w2.heap[p]? := g9.block p h2.plt (fun e => hpn (Option.some.inj e))
        have HS2 := Lib.hid (show w9.cell? ⟨p, 1, none⟩ = some (.map (some M)) ∧ w9.rangeAt b o cs from ⟨by rw [cell_of_row _ _ _ _ _ _ (hsp.trans h2.head)]; rfl, fun j v hj => g9.cell (w := w2.drew) (hr2 j v hj) (fun e => hbM (Option.some.inj e))⟩)
        have H9 := Lib.hid (show SD w9 p ⟨s.L.set m bs, s.pr, decV s.pw, s.cr, s.cw + 1⟩ M (n + 1) from
          ⟨by rw [hsp, h2.head, List.length_set]; rfl, h9, by rw [List.length_set]; exact h2.len, fun q hq => by
            rcases List.mem_or_eq_of_mem_set hq with hq | rfl
            · exact h2.page q hq
            · exact HBl.out⟩)
        have HT := Lib.hid (show Turn [p, M] w w9 from ((Turn.one g2 (by simp)).trans' (Turn.grown (O := [p, M]) (grown_drew1 w2))).trans' (Turn.one g9 (by simp)))
        clear h2 g2 hr2 h9 g9 hX hcs hsp hbp hbM
        go_wp2_with fail
        go_region_held3 (fun w' => w'.cell? ⟨p, 1, none⟩ = some (.map (some M)) ∧ w'.rangeAt b o cs) (first | exact HS1.out | exact HS2.out) (fail)
        go_wp2_with fail
        go_ret
        exact ⟨rfl, n + 1, hcn, H9.out, HT.out⟩
    · rw [show writeV s m bs = (2, s) from if_neg (fun k => hb k.2)]
      have hb2 : ((l : Int) != 4096) = true := bne_iff_ne.2 (by omega)
      clear h hs hk hsrc hb
      go_enter Try.func12, Try.ntmps12
      go_wp2_with fail
      refine HM.out.mono ?_
      rintro e w2 ⟨rfl, e2⟩
      subst w2
      go_wp2_with fail
      refine HA.out.mono ?_
      rintro e w2 ⟨rfl, e2⟩
      subst w2
      go_wp2_with fail
      go_ret
      exact ⟨rfl, n, hn, HH.out, Turn.refl _ _⟩
  · rw [show writeV s i bs = (2, s) from if_neg (fun k => hs k.1)]
    have HA := Lib.hid (has_ok h i false (decide_eq_false hs))
    clear h hs hk hsrc
    go_enter Try.func12, Try.ntmps12
    go_wp2_with fail
    refine HM.out.mono ?_
    rintro e w2 ⟨rfl, e2⟩
    subst w2
    go_wp2_with fail
    refine HA.out.mono ?_
    rintro e w2 ⟨rfl, e2⟩
    subst w2
    go_wp2_with fail
    go_ret
    exact ⟨rfl, n, hn, HH.out, Turn.refl _ _⟩
end
end Go.Proofs.Ytnfofhnjeinmfaa
