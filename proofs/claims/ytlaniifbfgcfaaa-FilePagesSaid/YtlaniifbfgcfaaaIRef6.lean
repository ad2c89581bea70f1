/- The document's files of layer 10: Write. -/
import Derived.Test.YtlaniifbfgcfaaaIRef5
namespace Go.Proofs.Ytlaniifbfgcfaaa
open Go.ChangeShapes Go.WideShapes Go.ChangeAt Go.RowKit Go.Deep
open Extern.Stop (cell)
set_option linter.unusedVariables false

section
variable {w w' w8 : World} {q : Nat} {s s' : IS} {vz vl : Value} {L : List PE}
theorem LeftI.up {B : List Nat} {k k2 : Nat} (h : LeftI w w' q s B k) (hk : k ≤ k2) : LeftI w w' q s B k2 := by
  obtain ⟨a, b, c, h1, h2, h3⟩ := h
  exact ⟨a, b, c, h1, Nat.le_trans h2 hk, h3⟩
theorem show_own {wf w9 w10 : World} {o : Obj} {v : Value} {xs : List PE} (h : POwn w9 wf.heap.size v xs) (g : wf.grownBy w9 none) (k : (w9.alloc o).grownBy w10 v.ownBlock) : wf.grownBy w10 none := by
  have ga := World.grownBy_alloc w9 o none
  cases hv : v.ownBlock with
  | none => rw [hv] at k; exact grown_trans g (grown_trans ga k)
  | some x => rw [hv] at k; exact grown_at (grown_trans g ga) k (h.lt hv).1
theorem bs_past {w9 w10 : World} {o : Obj} {v : Value} {xs : List PE} {base g : Nat} {bs : List UInt8} (h : POwn w9 base v xs) (k : (w9.alloc o).grownBy w10 v.ownBlock) (hl : bs.length = 4096) (hb : ∃ cur, w9.heap[g]? = some (.cells cur 5 (0, 0)) ∧ 4096 ≤ cur.size ∧ cur.toList.take 4096 = bs.map cell) : Bs w10 g bs := by
  obtain ⟨cur, h1, h2, h3⟩ := hb
  have hne : v.ownBlock ≠ some g := fun e => by
    rcases h.2 with ⟨rfl, _⟩ | ⟨g', cap, c2, rfl, _, h4, _⟩
    · cases e
    · have e2 : g' = g := by simpa [Value.ownBlock] using e
      rw [e2, h1] at h4
      simp at h4
  have hlt := (Array.getElem?_eq_some_iff.1 h1).1
  have ga := World.grownBy_alloc w9 o none
  refine ⟨cur, _, (k.block g (Nat.lt_of_lt_of_le hlt ga.size) (fun e => hne e.symm)).trans ((ga.block g hlt (by simp)).trans h1), by rw [hl]; exact h2, by rw [hl]; exact h3⟩
set_option maxHeartbeats 2000000 in
theorem ri_write (h : RI w q s vz vl L) (hk : s.Ok) (hl : L.length ≤ 900000) (i n : Int) (hi : okI i) (sa : Option Addr) (l cb : Nat) (bs : List UInt8) (hsrc : Src w sa l bs) (hll : l ≤ 1000000) (hneq : 0 < l → ∀ ad, sa = some ad → ad.block ≠ q) :
    Calls Try.prog 21 #[.pointer (some ⟨q, 0, none⟩), .int .i64 i, .int .i64 n, .slice sa l cb] w fun e w' => e = .returned (.int .i64 (writeI s i n bs).1) ∧ LeftI w w' q (writeI s i n bs).2 (blocksI q vz vl L) (L.length + 1) := by
  have HSz := Lib.hid (ri_size h hk i hi)
  have HFl := Lib.hid (ri_fails h hk)
  have HH := Lib.hid h
  have HS := Lib.hid (h.same.up (k2 := L.length + 1) (by omega))
  have hbl := hsrc.1
  obtain ⟨B, hB⟩ : ∃ B, blocksI q vz vl L = B := ⟨_, rfl⟩
  have HBl := Lib.hid hB
  rw [hB] at HS ⊢
  clear hB
  by_cases hs : s.has i
  · rw [show sizeI s i = (s.size i, true) from if_pos hs] at HSz
    obtain ⟨sz, hsz⟩ : ∃ sz, s.size i = sz := ⟨_, rfl⟩
    rw [hsz] at HSz
    by_cases hp : s.page i n
    · have hp2 := hp.2
      rw [hsz] at hp2
      have d0 : decide (n < 0) = false := decide_eq_false (by omega)
      have d1 : decide (n ≥ sz) = false := decide_eq_false (by omega)
      have d2 : decide (sz ≤ n) = false := decide_eq_false (by omega)
      by_cases hb : bs.length = 4096
      · have hl4 : l = 4096 := by omega
        subst hl4
        by_cases h1 : s.left = 1
        · rw [show writeI s i n bs = (6, failI s) by unfold writeI; rw [if_pos hs, if_pos ⟨hp, hb⟩, if_pos h1]]
          rw [decide_eq_true h1] at HFl
          clear h hk hs hsz hp hp2 hb h1 hi hsrc hneq hbl hll
          go_enter Try.func21, Try.ntmps21
          go_wp2_with fail
          refine HSz.out.mono ?_
          rintro e w2 ⟨rfl, e3⟩
          subst w2
          go_wp2_with fail
          refine HFl.out.mono ?_
          rintro e w2 ⟨rfl, h2, g2⟩
          have H2 := Lib.hid h2
          have HG := Lib.hid g2
          clear h2 g2
          go_wp2_with fail
          go_ret
          exact ⟨rfl, vz, vl, L, H2.out, by omega, Turn.one HG.out (by simp), fun b hb => .inl (by rw [← HBl.out]; exact hb)⟩
        · rw [show writeI s i n bs = (0, ⟨s.Z, putI s.P i n bs, decI s.left⟩) by unfold writeI; rw [if_pos hs, if_pos ⟨hp, hb⟩, if_neg h1]]
          rw [decide_eq_false h1] at HFl
          have HX := Lib.hid hsrc
          have HNe := Lib.hid hneq
          have HBs := Lib.hid hb
          have HSy := Lib.hid h.says
          clear h hk hs hsz hp hp2 hb h1 hi hsrc hneq hbl hll
          go_enter Try.func21, Try.ntmps21
          go_wp2_with fail
          refine HSz.out.mono ?_
          rintro e w2 ⟨rfl, e3⟩
          subst w2
          go_wp2_with fail
          refine HFl.out.mono ?_
          rintro e wf ⟨rfl, h2, g2⟩
          have HR := Lib.hid h2
          have HG := Lib.hid g2
          have HW := Lib.hid (ri_withoutF h2 hl i n)
          clear h2 g2
          go_wp2_with fail
          refine HW.out.mono ?_
          rintro e w2 ⟨v2, rfl, o2, g2⟩
          obtain ⟨va, vc, hv2⟩ := o2.form
          obtain ⟨L1, hL1⟩ : ∃ L1, lessP (outP i n false) L = L1 := ⟨_, rfl⟩
          have hll1 : L1.length ≤ L.length := by rw [← hL1]; exact lessP_len _ _
          rw [hL1] at o2 hv2
          have HL1 := Lib.hid hL1
          subst hv2
          have ga := World.grownBy_alloc w2 (.cells #[] 5 (0, 0)) none
          have HN := Lib.hid (heap_alloc_new w2 (.cells #[] 5 (0, 0)))
          have hX2 : Src (w2.alloc (.cells #[] 5 (0, 0))) sa 4096 bs := ((HX.out.kept HG.out (fun ad e e2 => HNe.out (by omega) ad e (Option.some.inj e2).symm)).grown g2).grown ga
          have HX2 := Lib.hid hX2
          have HO2 := Lib.hid o2
          have HG2 := Lib.hid g2
          have HGa := Lib.hid ga
          have hwf := g2.size
          clear o2 g2 ga hX2 hL1
          go_wp2_with (at_builtin; first
            | (refine wpList_bytes rfl _ _ rfl w2.heap.size HN.out rfl _ 4096 _ bs rfl HX2.out (by omega) ?_; intro g9 c9 w9 hle9 hb9 gr9; have g29 := grown_at HGa.out gr9 (Nat.le_refl _); have HO9 := Lib.hid (HO2.out.grow g29); have HB9 := Lib.hid hb9; have HLE := Lib.hid hle9; have HG9 := Lib.hid (grown_trans HG2.out g29); have hw9 := g29.size; clear hle9 hb9 gr9 g29)
            | (refine wpList_pe w9 rfl _ _ rfl wf.heap.size (.slice va L1.length vc) L1 ⟨i, n, g9, c9, bs⟩ rfl HO9.out w9.heap.size _ rfl rfl (by omega) (by omega) ?_; intro g10 c10 w10 hown10 hg10; have g010 : wf.grownBy w10 none := (show_own HO9.out HG9.out hg10); have h10 := HR.out.grow g010; have k10 := h10.at.2.1; have f10 := h10.frozen 1; have HO10 := Lib.hid hown10; have HG10 := Lib.hid g010; have HG910 := Lib.hid hg10; clear hown10 hg10 g010 h10))
          go_ret
          obtain ⟨r1, r2, r3⟩ := HR.out.repage HG10.out (vl' := .slice (some ⟨g10, 0, none⟩) (L1.length + 1) c10) (L' := L1 ++ [⟨i, n, g9, c9, bs⟩]) (P' := putI s.P i n bs) (show RowOf peCells 3 w10 _ (L1 ++ [_]) from by
            have := RowAt.own HO10.out
            unfold RowOf
            rwa [List.length_append] at this ⊢) (fun b hb => by
            have e : g10 = b := by simpa [Value.ownBlock] using hb
            have := (HO10.out.lt (g := g10) rfl).1
            omega) (fun x hx => by
            rcases List.mem_append.1 hx with hx | hx
            · rw [← HL1.out] at hx
              have hx2 := (List.mem_filter.1 hx).1
              have h10 := HR.out.grow HG10.out
              exact ⟨(h10.pages x hx2).1, (h10.pages x hx2).2, .inl hx2⟩
            · rw [List.mem_singleton.1 hx]
              exact ⟨bs_past HO9.out HG910.out HBs.out HB9.out, HBs.out, .inr (by show wf.heap.size ≤ g9; have := HLE.out; omega)⟩) (fun j k => by
            rw [← HL1.out, pageOf_put]
            unfold putI
            rw [HSy.out])
          refine ⟨rfl, _, _, _, r1, by rw [List.length_append, List.length_singleton]; omega, (Turn.one HG.out (by simp)).trans' r2, fun b hb => ?_⟩
          rw [← HBl.out]
          rcases r3 b hb with h1 | h1
          · exact .inl h1
          · right
            have := HG.out.size
            omega
      · rw [show writeI s i n bs = (2, s) by unfold writeI; rw [if_pos hs, if_neg fun h => hb h.2]]
        have hb2 : ((l : Int) != 4096) = true := bne_iff_ne.2 (by omega)
        clear h hk hs hsz hp hp2 hb hi hsrc hneq hbl hll
        go_enter Try.func21, Try.ntmps21
        go_wp2_with fail
        refine HSz.out.mono ?_
        rintro e w2 ⟨rfl, e2⟩
        subst w2
        go_wp2_with fail
        go_ret
        exact ⟨rfl, HS.out⟩
    · rw [show writeI s i n bs = (2, s) by unfold writeI; rw [if_pos hs, if_neg fun h => hp h.1]]
      have hc : n < 0 ∨ (¬ n < 0 ∧ sz ≤ n) := by
        have := fun h1 h2 => hp ⟨hs, h1, h2⟩
        by_cases h0 : n < 0
        · exact .inl h0
        · exact .inr ⟨h0, by rw [← hsz]; exact Int.not_lt.1 (this (by omega))⟩
      clear h hk hs hp hsz hi hsrc hneq hbl hll
      rcases hc with d0 | ⟨d0, d1⟩
      all_goals
        go_enter Try.func21, Try.ntmps21
        go_wp2_with fail
        refine HSz.out.mono ?_
        rintro e w2 ⟨rfl, e2⟩
        subst w2
        go_wp2_with fail
        go_ret
        exact ⟨rfl, HS.out⟩
  · rw [show writeI s i n bs = (7, s) from if_neg hs]
    rw [show sizeI s i = (0, false) from if_neg hs] at HSz
    clear h hk hs hi hsrc hneq hbl hll
    go_enter Try.func21, Try.ntmps21
    go_wp2_with fail
    refine HSz.out.mono ?_
    rintro e w2 ⟨rfl, e2⟩
    subst w2
    go_wp2_with fail
    go_ret
    exact ⟨rfl, HS.out⟩
end
end Go.Proofs.Ytlaniifbfgcfaaa
