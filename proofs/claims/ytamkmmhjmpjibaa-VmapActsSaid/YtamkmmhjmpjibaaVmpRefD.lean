/- Layer 16: the document's map: its memory, its ranges, Unmap, what is at a page. Layer 16: what the document's map does to the entries of a range. Layer 16: the document's map: whom it is for, advice, what is wired. Layer 16: the document's map: Protect. -/
import Derived.Test.YtamkmmhjmpjibaaEyRefE
import Derived.Test.YtamkmmhjmpjibaaVmpFacts
import Derived.Test.YtamkmmhjmpjibaaVmpCopy
namespace Go.Proofs.Ytamkmmhjmpjibaa
open Go.ChangeShapes Go.WideShapes Go.ChangeAt Go.RowKit Go.Deep
set_option linter.unusedVariables false
set_option linter.unusedSimpArgs false

/-- The document's map in memory: block r, its list v in blocks of its own behind it. -/
structure VR (w : World) (r : Nat) (v : Value) (L : List En) : Prop where
  head : w.heap[r]? = some (.cells #[v] 29 (0, 0))
  own : EOwn w (r + 1) v L
section
variable {w w' : World} {r : Nat} {v : Value} {L : List En}
theorem VR.lt (h : VR w r v L) : r < w.heap.size := (Array.getElem?_eq_some_iff.1 h.head).1
theorem VR.at (h : VR w r v L) : w.cell? ⟨r, 0, none⟩ = some v := by rw [cell_of_row _ _ _ _ _ _ h.head]; rfl
theorem VR.frozen (h : VR w r v L) : w.frozen? ⟨r, 0, none⟩ = false := frozen_of_row _ _ _ _ _ h.head
theorem VR.grow (h : VR w r v L) (g : w.grownBy w' none) : VR w' r v L := ⟨(g.block _ h.lt (by simp)).trans h.head, OwnOf.grow h.own g⟩
theorem VR.row (h : VR w r v L) : ERow w v L := eown_row h.own
theorem VR.form (h : VR w r v L) : ∃ a c, v = .slice a L.length c := OwnOf.form h.own
/-- The map has another list, made behind it. -/
theorem VR.put {u : Value} {M : List En} {base : Nat} (h : VR w r v L) (hu : EOwn w base u M) (hb : r < base) : VR (w.setCell ⟨r, 0, none⟩ u) r u M := by
  have ho : ∀ b, b ≠ r → (w.setCell ⟨r, 0, none⟩ u).heap[b]? = w.heap[b]? := fun b hb => heap_setCell_other w ⟨r, 0, none⟩ b _ (by first | exact hb | exact hb.symm)
  refine ⟨heap_setCell_same w r 0 _ _ u h.head, ?_⟩
  have h1 : EOwn w (r + 1) u M := OwnOf.lower hu hb
  exact OwnOf.kept h1 fun g hg => ho g fun e => by have := (OwnOf.lt h1 hg).1; omega
end

theorem refRange_ok (w : World) (lo n : Int) (ho : okI lo) (hn : okI n) : Calls Try.prog 57 #[.int .i64 lo, .int .i64 n] w fun e w' => e = .returned (.bool (rangeV lo n)) ∧ w' = w := by
  obtain ⟨o0, o1⟩ := ho
  obtain ⟨n0, n1⟩ := hn
  by_cases k1 : lo ≥ 0
  · have b1 : decide (lo ≥ 0) = true := decide_eq_true k1
    by_cases k2 : n ≥ 1
    · have b2 : decide (n ≥ 1) = true := decide_eq_true k2
      by_cases k3 : n ≤ 4096
      · have b3 : decide (n ≤ 4096) = true := decide_eq_true k3
        obtain ⟨d, hd⟩ : ∃ d, decide (lo ≤ 67108864 - n) = d := ⟨_, rfl⟩
        have e : rangeV lo n = d := by unfold rangeV; rw [← hd, decide_eq_decide]; omega
        rw [e]
        clear e
        go_enter Try.func57, Try.ntmps57
        go_wp2_with fail
        go_ret
        exact ⟨rfl, rfl⟩
      · have b3 : decide (n ≤ 4096) = false := decide_eq_false k3
        have e : rangeV lo n = false := by unfold rangeV; exact decide_eq_false (by omega)
        rw [e]
        clear e
        go_enter Try.func57, Try.ntmps57
        go_wp2_with fail
        go_ret
        exact ⟨rfl, rfl⟩
    · have b2 : decide (n ≥ 1) = false := decide_eq_false k2
      have e : rangeV lo n = false := by unfold rangeV; exact decide_eq_false (by omega)
      rw [e]
      clear e
      go_enter Try.func57, Try.ntmps57
      go_wp2_with fail
      go_ret
      exact ⟨rfl, rfl⟩
  · have b1 : decide (lo ≥ 0) = false := decide_eq_false k1
    have e : rangeV lo n = false := by unfold rangeV; exact decide_eq_false (by omega)
    rw [e]
    clear e
    go_enter Try.func57, Try.ntmps57
    go_wp2_with fail
    go_ret
    exact ⟨rfl, rfl⟩

set_option maxHeartbeats 2000000 in
theorem refUnmap_ok {w : World} {r : Nat} {v : Value} {L : List En} (h : VR w r v L) (hm : RF 0 L) (hl : L.length ≤ 900) (lo n : Int) (ho : okI lo) (hn : okI n) :
    Calls Try.prog 30 #[.pointer (some ⟨r, 0, none⟩), .int .i64 lo, .int .i64 n] w fun e w' => ∃ u v', e = .returned (.tuple #[u, .int .i64 (unmapV L lo n).err]) ∧ EOwn w' w.heap.size u (unmapV L lo n).gone ∧ VR w' r v' (unmapV L lo n).l ∧ New w v v' ∧ w.grownBy w' (some r) := by
  have HR := Lib.hid (refRange_ok w lo n ho hn)
  obtain ⟨a, c, hv⟩ := h.form
  subst hv
  by_cases k : rangeV lo n = true
  · have e : unmapV L lo n = ⟨mergeE (leftE L lo (lo + n)), 0, goneE L lo (lo + n), 0⟩ := by unfold unmapV; rw [if_pos k]
    rw [e]
    rw [k] at HR
    obtain ⟨r1, r2, r3, r4⟩ := range_iff.1 k
    have HC := Lib.hid (refCut_ok c h.row hm (by omega) lo (lo + n))
    have hll := left_len' lo (lo + n) hm
    have hlg := gone_len' lo (lo + n) hm
    have HM := Lib.hid (fun W s' c' (hh : ERow W (.slice s' (leftE L lo (lo + n)).length c') (leftE L lo (lo + n))) => refMerge_ok c' hh (rf_left lo (lo + n) hm) (by omega))
    obtain ⟨Lf, hLf⟩ : ∃ Lf, leftE L lo (lo + n) = Lf := ⟨_, rfl⟩
    obtain ⟨Gn, hGn⟩ : ∃ Gn, goneE L lo (lo + n) = Gn := ⟨_, rfl⟩
    rw [hLf, hGn] at HC
    rw [hLf] at HM hll ⊢
    rw [hGn] at hlg ⊢
    simp only
    have c0 := h.at
    have f0 := h.frozen
    have hr := h.lt
    have HH := Lib.hid h
    clear e k h hm hLf hGn ho hn
    go_enter Try.func30, Try.ntmps30
    go_wp2_with fail
    refine HR.out.mono ?_
    rintro e w1 ⟨rfl, e1⟩
    subst e1
    go_wp2_with fail
    refine HC.out.mono ?_
    rintro e w2 ⟨u1, u2, rfl, hown1, hown2, g2⟩
    obtain ⟨a1, c1, hvf⟩ := OwnOf.form hown1
    subst hvf
    obtain ⟨a2, c5, hvf⟩ := OwnOf.form hown2
    subst hvf
    have HA := Lib.hid (HM.out w2 a1 c1 (eown_row hown1))
    have HG2 := Lib.hid g2
    have H2 := Lib.hid (HH.out.grow g2)
    have HO2 := Lib.hid hown2
    have c2 := g2.cell c0 (by simp)
    have f2 := (HH.out.grow g2).frozen
    clear hown1 hown2 g2 c0 f0
    go_wp2_with fail
    refine HA.out.mono ?_
    rintro e w3 ⟨u, rfl, hown3, g3⟩
    obtain ⟨a3, c4, hvf⟩ := OwnOf.form hown3
    subst hvf
    have H3 := Lib.hid (H2.out.grow g3)
    have c3 := g3.cell c2 (by simp)
    have f3 := (H2.out.grow g3).frozen
    have HP := Lib.hid (H3.out.put hown3 (Nat.lt_of_lt_of_le hr HG2.out.size))
    have HN := Lib.hid (New.of (v := .slice a L.length c) hown3 HG2.out.size)
    have HG := Lib.hid (grown_trans (grown_none (grown_trans HG2.out g3)) (grown_set w3 r 0 (.slice a3 (mergeE Lf).length c4)))
    have HG3 := Lib.hid (OwnOf.kept (OwnOf.grow HO2.out g3) fun b hb => heap_setCell_other w3 ⟨r, 0, none⟩ b (.slice a3 (mergeE Lf).length c4) (by have := (OwnOf.lt HO2.out hb).1; first | (show b ≠ r; omega) | (show r ≠ b; omega)))
    clear hown3 g3 c2 f2
    go_wp2_with fail
    go_ret2
    exact ⟨_, _, rfl, HG3.out, HP.out, HN.out, HG.out⟩
  · have k0 : rangeV lo n = false := by simpa using k
    have e : unmapV L lo n = ⟨L, 0, [], 2⟩ := by unfold unmapV; rw [if_neg k]
    rw [e]
    rw [k0] at HR
    simp only
    have HH := Lib.hid h
    clear e k k0 h hm ho hn
    go_enter Try.func30, Try.ntmps30
    go_wp2_with fail
    refine HR.out.mono ?_
    rintro e w1 ⟨rfl, e1⟩
    subst e1
    go_wp2_with fail
    go_ret2
    exact ⟨_, _, rfl, OwnOf.nil _ _, HH.out, New.refl _ _, grown_refl _ _⟩
end Go.Proofs.Ytamkmmhjmpjibaa

namespace Go.Proofs.Ytamkmmhjmpjibaa
open Go.ChangeShapes Go.WideShapes Go.ChangeAt Go.RowKit Go.Deep
set_option linter.unusedVariables false
set_option linter.unusedSimpArgs false

set_option maxRecDepth 100000 in
set_option maxHeartbeats 8000000 in
theorem refChange0_ok {w : World} {r : Nat} {v : Value} {L : List En} (h : VR w r v L) (hm : RF 0 L) (hl : L.length ≤ 900) (lo n val : Int) (r0 : 0 ≤ lo) (r1 : 1 ≤ n) (r2 : n ≤ 4096) (r3 : lo ≤ 67108864 - n) (hrc : RF 0 (chgE (setV 2 val false) L lo (lo + n))) :
    Calls Try.prog 64 #[.pointer (some ⟨r, 0, none⟩), .int .i64 lo, .int .i64 n, .int .i64 0, .int .i64 val] w fun e w' => e = .returned (.tuple #[]) ∧ ∃ v', VR w' r v' (mergeE (chgE (setV 2 val false) L lo (lo + n))) ∧ New w v v' ∧ w.grownBy w' (some r) := by
  have hr1 := rf_clip lo hm
  have hl1 := (clip_len_le lo hm).2
  have hl2 := (clip_len_le (lo + n) hr1).2
  have hr2 : RF 0 (clipE (clipE L lo) (lo + n)) := rf_clip (lo + n) hr1
  have HC1 := Lib.hid (fun W s' c' (hh : ERow W (.slice s' L.length c') L) => refClip_ok c' hh hm (by omega) lo)
  have HC2 := Lib.hid (fun W s' c' (hh : ERow W (.slice s' (clipE L lo).length c') (clipE L lo)) => refClip_ok c' hh hr1 (by omega) (lo + n))
  have hcl : (chgE (setV 2 val false) L lo (lo + n)).length ≤ 1000 := by have := chg_len (g := setV 2 val false) lo (lo + n) hm; omega
  have HM := Lib.hid (fun W s' c' (hh : ERow W (.slice s' (chgE (setV 2 val false) L lo (lo + n)).length c') (chgE (setV 2 val false) L lo (lo + n))) => refMerge_ok c' hh hrc (by omega))
  obtain ⟨M, hM⟩ : ∃ M, clipE (clipE L lo) (lo + n) = M := ⟨_, rfl⟩
  obtain ⟨G, hG⟩ : ∃ G, inE (setV 2 val false) lo (lo + n) = G := ⟨_, rfl⟩
  have hE : chgE (setV 2 val false) L lo (lo + n) = M.map G := by rw [← hM, ← hG]; rfl
  have hML : M.length ≤ 1000 := by rw [← hM]; omega
  have hGin : ∀ x, lo ≤ x.s → x.e ≤ lo + n → G x = ⟨x.s, x.e, x.f, x.o, x.sh, val, x.m, x.i, x.a, x.wi⟩ := fun x h1 h2 => by
    rw [← hG]
    unfold inE
    rw [if_pos (show inB lo (lo + n) x = true from decide_eq_true ⟨h1, h2⟩)]
    rfl
  have hGout : ∀ x, ¬ (lo ≤ x.s ∧ x.e ≤ lo + n) → G x = x := fun x h1 => by
    rw [← hG]
    unfold inE
    rw [if_neg (show ¬ inB lo (lo + n) x = true from fun k => h1 (of_decide_eq_true k))]
  obtain ⟨N, hNN⟩ : ∃ N, M.map G = N := ⟨_, rfl⟩
  rw [hNN] at hE
  rw [hE] at HM ⊢
  have HNN := Lib.hid hNN
  rw [hM] at HC2
  have HGi := Lib.hid hGin
  have HGo := Lib.hid hGout
  have HRm := Lib.hid (show ∀ x, x ∈ M → GoodE x from fun x hx => (rf_good (hM ▸ hr2) x hx).1)
  obtain ⟨L1, hL1⟩ : ∃ L1, clipE L lo = L1 := ⟨_, rfl⟩
  rw [hL1] at HC1 HC2
  obtain ⟨a, c, hv⟩ := h.form
  subst hv
  have c0 := h.at
  have f0 := h.frozen
  have hrs := h.lt
  have HH := Lib.hid h
  have HA := Lib.hid (HC1.out w a c h.row)
  clear h hm hl hrc hr1 hl1 hl2 hr2 hcl hM hG hE hGin hGout hL1 hNN
  go_enter Try.func64, Try.ntmps64
  go_wp2_with fail
  refine HA.out.mono ?_
  rintro e w2 ⟨u, rfl, hown, g2⟩
  obtain ⟨a1, c1, hvf⟩ := OwnOf.form hown
  subst hvf
  have HB := Lib.hid (HC2.out w2 a1 c1 (eown_row hown))
  have HG2 := Lib.hid g2
  clear hown g2
  go_wp2_with fail
  refine HB.out.mono ?_
  rintro e w3 ⟨u, rfl, hown, g3⟩
  obtain ⟨a2, c2, hvf⟩ := OwnOf.form hown
  subst hvf
  have HX := Lib.hid (eown_row hown)
  have HG3 := Lib.hid (grown_trans HG2.out g3)
  have HI := Lib.hid (show EMk w3 w3 (.slice none 0 0) ((M.take 0).map G) from MkOf.nil w3)
  clear hown g3
  go_wp2_with fail
  go_loopw [10, 24] (fun vv iv wr => ∃ q : Nat, q ≤ M.length ∧ iv = .int .i64 q ∧ Hid (EMk w3 wr vv ((M.take q).map G))) (fun _ iv _ => M.length - (intOf iv).toNat)
  case atStart => exact ⟨0, by omega, rfl, HI⟩
  case round =>
    clear HI
    obtain ⟨q, hq, rfl, HJ⟩ := hrel
    by_cases hlt : q < M.length
    · obtain ⟨x, hx⟩ : ∃ x, M[q]? = some x := ⟨_, List.getElem?_eq_getElem hlt⟩
      obtain ⟨g, o, c3, hv1, ka0, ka1, ka2, ka3, ka4, ka5, ka6, ka7, ka8, ka9⟩ := en_cells (erow_grow HX.out HJ.out.grown) hx
      injection hv1 with e1 e2 e3
      subst e1 e3
      have hN : (M.take (q + 1)).map G = (M.take q).map G ++ [G x] := by rw [takel_at hx, List.map_append]; rfl
      have hlo : ((M.take q).map G).length ≤ 1000 := by rw [List.length_map, List.length_take]; omega
      obtain ⟨O, hO⟩ : ∃ O, (M.take q).map G = O := ⟨_, rfl⟩
      rw [hO] at hN hlo HJ
      have hkx := (EnB.new wr x).all
      have hfx := (EnB.new wr x).frozen 5
      obtain ⟨va, vc, hvf⟩ := OwnOf.form HJ.out.own
      subst hvf
      have HJ3 := Lib.hid (show EMk w3 (wr.alloc (.cells #[.int .i64 x.s, .int .i64 x.e, .int .i64 x.f, .int .i64 x.o, .bool x.sh, .int .i64 x.p, .int .i64 x.m, .int .i64 x.i, .int .i64 x.a, .bool x.wi] 31)) (.slice va O.length vc) O from MkOf.grow HJ.out (grown_box wr x))
      have HT := Lib.hid (show ∀ W, Turn [wr.heap.size] (wr.alloc (.cells #[.int .i64 x.s, .int .i64 x.e, .int .i64 x.f, .int .i64 x.o, .bool x.sh, .int .i64 x.p, .int .i64 x.m, .int .i64 x.i, .int .i64 x.a, .bool x.wi] 31)) W → EMk w3 W (.slice va O.length vc) O from fun W t =>
        MkOf.turn HJ3.out t (fun b hb => by
          have := HJ.out.grown.size
          simp only [List.mem_cons, List.not_mem_nil, or_false] at hb
          omega) (fun b hb hm => by
          have := (OwnOf.lt HJ.out.own hb).2
          simp only [List.mem_cons, List.not_mem_nil, or_false] at hm
          omega))
      obtain ⟨k0, k1, k2, k3, k4, k5, k6, k7, k8, k9⟩ := hkx
      by_cases h1 : x.s ≥ lo
      · have b0 : decide (x.s ≥ lo) = true := decide_eq_true h1
        by_cases h2 : x.e ≤ lo + n
        · have b1 : decide (x.e ≤ lo + n) = true := decide_eq_true h2
          have HN := Lib.hid (hN.trans (by rw [HGi.out x h1 h2]))
          clear hx hO hN HJ h1 h2
          go_upto_region 4 with fail
          generalize hwb : wr.alloc (.cells #[.int .i64 x.s, .int .i64 x.e, .int .i64 x.f, .int .i64 x.o, .bool x.sh, .int .i64 x.p, .int .i64 x.m, .int .i64 x.i, .int .i64 x.a, .bool x.wi] 31) = wb at *
          clear hwb
          go_wp2_with (at_builtin; refine wpList_epushX _ rfl _ _ rfl w3.heap.size _ O ⟨x.s, x.e, x.f, x.o, x.sh, val, x.m, x.i, x.a, x.wi⟩ (by rfl) (HT.out _ (Turn.setCell [wr.heap.size] _ _ _ _ (by simp))).own wb.heap.size _ (by rfl) (by simp [World.setCell]) (by omega) HJ3.out.grown.size ?_; intro g8 cap8 w8 hown8 hg8 hat8; have HJ8 := Lib.hid (MkOf.app (HT.out _ (Turn.setCell [wr.heap.size] _ _ _ _ (by simp))) hg8 hown8); clear hown8 hg8 hat8)
          go_roundw
          case rel => exact ⟨q + 1, by omega, by go_num, by rw [HN.out]; exact HJ8⟩
          case measure => simp [intOf]; omega
        · have b1 : decide (x.e ≤ lo + n) = false := decide_eq_false h2
          have HN := Lib.hid (hN.trans (by rw [HGo.out x (fun k => h2 k.2)]))
          clear hx hO hN HJ h1 h2
          go_upto_region 4 with fail
          generalize hwb : wr.alloc (.cells #[.int .i64 x.s, .int .i64 x.e, .int .i64 x.f, .int .i64 x.o, .bool x.sh, .int .i64 x.p, .int .i64 x.m, .int .i64 x.i, .int .i64 x.a, .bool x.wi] 31) = wb at *
          clear hwb
          go_wp2_with (at_builtin; refine wpList_epushX wb rfl _ _ rfl w3.heap.size _ O x (by rfl) HJ3.out.own wb.heap.size _ (by rfl) rfl (by omega) HJ3.out.grown.size ?_; intro g8 cap8 w8 hown8 hg8 hat8; have HJ8 := Lib.hid (MkOf.app HJ3.out hg8 hown8); clear hown8 hg8 hat8)
          go_roundw
          case rel => exact ⟨q + 1, by omega, by go_num, by rw [HN.out]; exact HJ8⟩
          case measure => simp [intOf]; omega
      · have b0 : decide (x.s ≥ lo) = false := decide_eq_false h1
        have HN := Lib.hid (hN.trans (by rw [HGo.out x (fun k => h1 k.1)]))
        clear hx hO hN HJ h1
        go_upto_region 4 with fail
        generalize hwb : wr.alloc (.cells #[.int .i64 x.s, .int .i64 x.e, .int .i64 x.f, .int .i64 x.o, .bool x.sh, .int .i64 x.p, .int .i64 x.m, .int .i64 x.i, .int .i64 x.a, .bool x.wi] 31) = wb at *
        clear hwb
        go_wp2_with (at_builtin; refine wpList_epushX wb rfl _ _ rfl w3.heap.size _ O x (by rfl) HJ3.out.own wb.heap.size _ (by rfl) rfl (by omega) HJ3.out.grown.size ?_; intro g8 cap8 w8 hown8 hg8 hat8; have HJ8 := Lib.hid (MkOf.app HJ3.out hg8 hown8); clear hown8 hg8 hat8)
        go_roundw
        case rel => exact ⟨q + 1, by omega, by go_num, by rw [HN.out]; exact HJ8⟩
        case measure => simp [intOf]; omega
    · obtain rfl : q = M.length := by omega
      rw [List.take_length, HNN.out] at HJ
      obtain ⟨va, vc, hvf⟩ := OwnOf.form HJ.out.own
      subst hvf
      have HG4 := Lib.hid (grown_trans HG3.out HJ.out.grown)
      have H4 := Lib.hid (HH.out.grow HG4.out)
      have HMm := Lib.hid (HM.out wr va vc (eown_row HJ.out.own))
      go_wp2_with fail
      refine HMm.out.mono ?_
      rintro e w5 ⟨u, rfl, hown5, g5⟩
      obtain ⟨a5, c5, hvf⟩ := OwnOf.form hown5
      subst hvf
      have c6 := (H4.out.grow g5).at
      have f6 := (H4.out.grow g5).frozen
      have HP := Lib.hid ((H4.out.grow g5).put hown5 H4.out.lt)
      have HG := Lib.hid (grown_trans (grown_none (grown_trans HG4.out g5)) (grown_set w5 r 0 (.slice a5 (mergeE N).length c5)))
      have HN := Lib.hid (New.of (v := .slice a L.length c) hown5 HG4.out.size)
      clear hown5 g5
      go_wp2_with fail
      go_end0
      first | exact ⟨rfl, _, HP.out, HN.out, HG.out⟩ | exact ⟨rfl, ⟨_, HP.out, HN.out⟩, HG.out⟩
set_option maxRecDepth 100000 in
set_option maxHeartbeats 8000000 in
theorem refChange1_ok {w : World} {r : Nat} {v : Value} {L : List En} (h : VR w r v L) (hm : RF 0 L) (hl : L.length ≤ 900) (lo n val : Int) (r0 : 0 ≤ lo) (r1 : 1 ≤ n) (r2 : n ≤ 4096) (r3 : lo ≤ 67108864 - n) (hrc : RF 0 (chgE (setV 3 val false) L lo (lo + n))) :
    Calls Try.prog 64 #[.pointer (some ⟨r, 0, none⟩), .int .i64 lo, .int .i64 n, .int .i64 1, .int .i64 val] w fun e w' => e = .returned (.tuple #[]) ∧ ∃ v', VR w' r v' (mergeE (chgE (setV 3 val false) L lo (lo + n))) ∧ New w v v' ∧ w.grownBy w' (some r) := by
  have hr1 := rf_clip lo hm
  have hl1 := (clip_len_le lo hm).2
  have hl2 := (clip_len_le (lo + n) hr1).2
  have hr2 : RF 0 (clipE (clipE L lo) (lo + n)) := rf_clip (lo + n) hr1
  have HC1 := Lib.hid (fun W s' c' (hh : ERow W (.slice s' L.length c') L) => refClip_ok c' hh hm (by omega) lo)
  have HC2 := Lib.hid (fun W s' c' (hh : ERow W (.slice s' (clipE L lo).length c') (clipE L lo)) => refClip_ok c' hh hr1 (by omega) (lo + n))
  have hcl : (chgE (setV 3 val false) L lo (lo + n)).length ≤ 1000 := by have := chg_len (g := setV 3 val false) lo (lo + n) hm; omega
  have HM := Lib.hid (fun W s' c' (hh : ERow W (.slice s' (chgE (setV 3 val false) L lo (lo + n)).length c') (chgE (setV 3 val false) L lo (lo + n))) => refMerge_ok c' hh hrc (by omega))
  obtain ⟨M, hM⟩ : ∃ M, clipE (clipE L lo) (lo + n) = M := ⟨_, rfl⟩
  obtain ⟨G, hG⟩ : ∃ G, inE (setV 3 val false) lo (lo + n) = G := ⟨_, rfl⟩
  have hE : chgE (setV 3 val false) L lo (lo + n) = M.map G := by rw [← hM, ← hG]; rfl
  have hML : M.length ≤ 1000 := by rw [← hM]; omega
  have hGin : ∀ x, lo ≤ x.s → x.e ≤ lo + n → G x = ⟨x.s, x.e, x.f, x.o, x.sh, x.p, x.m, val, x.a, x.wi⟩ := fun x h1 h2 => by
    rw [← hG]
    unfold inE
    rw [if_pos (show inB lo (lo + n) x = true from decide_eq_true ⟨h1, h2⟩)]
    rfl
  have hGout : ∀ x, ¬ (lo ≤ x.s ∧ x.e ≤ lo + n) → G x = x := fun x h1 => by
    rw [← hG]
    unfold inE
    rw [if_neg (show ¬ inB lo (lo + n) x = true from fun k => h1 (of_decide_eq_true k))]
  obtain ⟨N, hNN⟩ : ∃ N, M.map G = N := ⟨_, rfl⟩
  rw [hNN] at hE
  rw [hE] at HM ⊢
  have HNN := Lib.hid hNN
  rw [hM] at HC2
  have HGi := Lib.hid hGin
  have HGo := Lib.hid hGout
  have HRm := Lib.hid (show ∀ x, x ∈ M → GoodE x from fun x hx => (rf_good (hM ▸ hr2) x hx).1)
  obtain ⟨L1, hL1⟩ : ∃ L1, clipE L lo = L1 := ⟨_, rfl⟩
  rw [hL1] at HC1 HC2
  obtain ⟨a, c, hv⟩ := h.form
  subst hv
  have c0 := h.at
  have f0 := h.frozen
  have hrs := h.lt
  have HH := Lib.hid h
  have HA := Lib.hid (HC1.out w a c h.row)
  clear h hm hl hrc hr1 hl1 hl2 hr2 hcl hM hG hE hGin hGout hL1 hNN
  go_enter Try.func64, Try.ntmps64
  go_wp2_with fail
  refine HA.out.mono ?_
  rintro e w2 ⟨u, rfl, hown, g2⟩
  obtain ⟨a1, c1, hvf⟩ := OwnOf.form hown
  subst hvf
  have HB := Lib.hid (HC2.out w2 a1 c1 (eown_row hown))
  have HG2 := Lib.hid g2
  clear hown g2
  go_wp2_with fail
  refine HB.out.mono ?_
  rintro e w3 ⟨u, rfl, hown, g3⟩
  obtain ⟨a2, c2, hvf⟩ := OwnOf.form hown
  subst hvf
  have HX := Lib.hid (eown_row hown)
  have HG3 := Lib.hid (grown_trans HG2.out g3)
  have HI := Lib.hid (show EMk w3 w3 (.slice none 0 0) ((M.take 0).map G) from MkOf.nil w3)
  clear hown g3
  go_wp2_with fail
  go_loopw [10, 24] (fun vv iv wr => ∃ q : Nat, q ≤ M.length ∧ iv = .int .i64 q ∧ Hid (EMk w3 wr vv ((M.take q).map G))) (fun _ iv _ => M.length - (intOf iv).toNat)
  case atStart => exact ⟨0, by omega, rfl, HI⟩
  case round =>
    clear HI
    obtain ⟨q, hq, rfl, HJ⟩ := hrel
    by_cases hlt : q < M.length
    · obtain ⟨x, hx⟩ : ∃ x, M[q]? = some x := ⟨_, List.getElem?_eq_getElem hlt⟩
      obtain ⟨g, o, c3, hv1, ka0, ka1, ka2, ka3, ka4, ka5, ka6, ka7, ka8, ka9⟩ := en_cells (erow_grow HX.out HJ.out.grown) hx
      injection hv1 with e1 e2 e3
      subst e1 e3
      have hN : (M.take (q + 1)).map G = (M.take q).map G ++ [G x] := by rw [takel_at hx, List.map_append]; rfl
      have hlo : ((M.take q).map G).length ≤ 1000 := by rw [List.length_map, List.length_take]; omega
      obtain ⟨O, hO⟩ : ∃ O, (M.take q).map G = O := ⟨_, rfl⟩
      rw [hO] at hN hlo HJ
      have hkx := (EnB.new wr x).all
      have hfx := (EnB.new wr x).frozen 7
      obtain ⟨va, vc, hvf⟩ := OwnOf.form HJ.out.own
      subst hvf
      have HJ3 := Lib.hid (show EMk w3 (wr.alloc (.cells #[.int .i64 x.s, .int .i64 x.e, .int .i64 x.f, .int .i64 x.o, .bool x.sh, .int .i64 x.p, .int .i64 x.m, .int .i64 x.i, .int .i64 x.a, .bool x.wi] 31)) (.slice va O.length vc) O from MkOf.grow HJ.out (grown_box wr x))
      have HT := Lib.hid (show ∀ W, Turn [wr.heap.size] (wr.alloc (.cells #[.int .i64 x.s, .int .i64 x.e, .int .i64 x.f, .int .i64 x.o, .bool x.sh, .int .i64 x.p, .int .i64 x.m, .int .i64 x.i, .int .i64 x.a, .bool x.wi] 31)) W → EMk w3 W (.slice va O.length vc) O from fun W t =>
        MkOf.turn HJ3.out t (fun b hb => by
          have := HJ.out.grown.size
          simp only [List.mem_cons, List.not_mem_nil, or_false] at hb
          omega) (fun b hb hm => by
          have := (OwnOf.lt HJ.out.own hb).2
          simp only [List.mem_cons, List.not_mem_nil, or_false] at hm
          omega))
      obtain ⟨k0, k1, k2, k3, k4, k5, k6, k7, k8, k9⟩ := hkx
      by_cases h1 : x.s ≥ lo
      · have b0 : decide (x.s ≥ lo) = true := decide_eq_true h1
        by_cases h2 : x.e ≤ lo + n
        · have b1 : decide (x.e ≤ lo + n) = true := decide_eq_true h2
          have HN := Lib.hid (hN.trans (by rw [HGi.out x h1 h2]))
          clear hx hO hN HJ h1 h2
          go_upto_region 4 with fail
          generalize hwb : wr.alloc (.cells #[.int .i64 x.s, .int .i64 x.e, .int .i64 x.f, .int .i64 x.o, .bool x.sh, .int .i64 x.p, .int .i64 x.m, .int .i64 x.i, .int .i64 x.a, .bool x.wi] 31) = wb at *
          clear hwb
          go_wp2_with (at_builtin; refine wpList_epushX _ rfl _ _ rfl w3.heap.size _ O ⟨x.s, x.e, x.f, x.o, x.sh, x.p, x.m, val, x.a, x.wi⟩ (by rfl) (HT.out _ (Turn.setCell [wr.heap.size] _ _ _ _ (by simp))).own wb.heap.size _ (by rfl) (by simp [World.setCell]) (by omega) HJ3.out.grown.size ?_; intro g8 cap8 w8 hown8 hg8 hat8; have HJ8 := Lib.hid (MkOf.app (HT.out _ (Turn.setCell [wr.heap.size] _ _ _ _ (by simp))) hg8 hown8); clear hown8 hg8 hat8)
          go_roundw
          case rel => exact ⟨q + 1, by omega, by go_num, by rw [HN.out]; exact HJ8⟩
          case measure => simp [intOf]; omega
        · have b1 : decide (x.e ≤ lo + n) = false := decide_eq_false h2
          have HN := Lib.hid (hN.trans (by rw [HGo.out x (fun k => h2 k.2)]))
          clear hx hO hN HJ h1 h2
          go_upto_region 4 with fail
          generalize hwb : wr.alloc (.cells #[.int .i64 x.s, .int .i64 x.e, .int .i64 x.f, .int .i64 x.o, .bool x.sh, .int .i64 x.p, .int .i64 x.m, .int .i64 x.i, .int .i64 x.a, .bool x.wi] 31) = wb at *
          clear hwb
          go_wp2_with (at_builtin; refine wpList_epushX wb rfl _ _ rfl w3.heap.size _ O x (by rfl) HJ3.out.own wb.heap.size _ (by rfl) rfl (by omega) HJ3.out.grown.size ?_; intro g8 cap8 w8 hown8 hg8 hat8; have HJ8 := Lib.hid (MkOf.app HJ3.out hg8 hown8); clear hown8 hg8 hat8)
          go_roundw
          case rel => exact ⟨q + 1, by omega, by go_num, by rw [HN.out]; exact HJ8⟩
          case measure => simp [intOf]; omega
      · have b0 : decide (x.s ≥ lo) = false := decide_eq_false h1
        have HN := Lib.hid (hN.trans (by rw [HGo.out x (fun k => h1 k.1)]))
        clear hx hO hN HJ h1
        go_upto_region 4 with fail
        generalize hwb : wr.alloc (.cells #[.int .i64 x.s, .int .i64 x.e, .int .i64 x.f, .int .i64 x.o, .bool x.sh, .int .i64 x.p, .int .i64 x.m, .int .i64 x.i, .int .i64 x.a, .bool x.wi] 31) = wb at *
        clear hwb
        go_wp2_with (at_builtin; refine wpList_epushX wb rfl _ _ rfl w3.heap.size _ O x (by rfl) HJ3.out.own wb.heap.size _ (by rfl) rfl (by omega) HJ3.out.grown.size ?_; intro g8 cap8 w8 hown8 hg8 hat8; have HJ8 := Lib.hid (MkOf.app HJ3.out hg8 hown8); clear hown8 hg8 hat8)
        go_roundw
        case rel => exact ⟨q + 1, by omega, by go_num, by rw [HN.out]; exact HJ8⟩
        case measure => simp [intOf]; omega
    · obtain rfl : q = M.length := by omega
      rw [List.take_length, HNN.out] at HJ
      obtain ⟨va, vc, hvf⟩ := OwnOf.form HJ.out.own
      subst hvf
      have HG4 := Lib.hid (grown_trans HG3.out HJ.out.grown)
      have H4 := Lib.hid (HH.out.grow HG4.out)
      have HMm := Lib.hid (HM.out wr va vc (eown_row HJ.out.own))
      go_wp2_with fail
      refine HMm.out.mono ?_
      rintro e w5 ⟨u, rfl, hown5, g5⟩
      obtain ⟨a5, c5, hvf⟩ := OwnOf.form hown5
      subst hvf
      have c6 := (H4.out.grow g5).at
      have f6 := (H4.out.grow g5).frozen
      have HP := Lib.hid ((H4.out.grow g5).put hown5 H4.out.lt)
      have HG := Lib.hid (grown_trans (grown_none (grown_trans HG4.out g5)) (grown_set w5 r 0 (.slice a5 (mergeE N).length c5)))
      have HN := Lib.hid (New.of (v := .slice a L.length c) hown5 HG4.out.size)
      clear hown5 g5
      go_wp2_with fail
      go_end0
      first | exact ⟨rfl, _, HP.out, HN.out, HG.out⟩ | exact ⟨rfl, ⟨_, HP.out, HN.out⟩, HG.out⟩
set_option maxRecDepth 100000 in
set_option maxHeartbeats 8000000 in
theorem refChange2_ok {w : World} {r : Nat} {v : Value} {L : List En} (h : VR w r v L) (hm : RF 0 L) (hl : L.length ≤ 900) (lo n val : Int) (r0 : 0 ≤ lo) (r1 : 1 ≤ n) (r2 : n ≤ 4096) (r3 : lo ≤ 67108864 - n) (hrc : RF 0 (chgE (setV 4 val false) L lo (lo + n))) :
    Calls Try.prog 64 #[.pointer (some ⟨r, 0, none⟩), .int .i64 lo, .int .i64 n, .int .i64 2, .int .i64 val] w fun e w' => e = .returned (.tuple #[]) ∧ ∃ v', VR w' r v' (mergeE (chgE (setV 4 val false) L lo (lo + n))) ∧ New w v v' ∧ w.grownBy w' (some r) := by
  have hr1 := rf_clip lo hm
  have hl1 := (clip_len_le lo hm).2
  have hl2 := (clip_len_le (lo + n) hr1).2
  have hr2 : RF 0 (clipE (clipE L lo) (lo + n)) := rf_clip (lo + n) hr1
  have HC1 := Lib.hid (fun W s' c' (hh : ERow W (.slice s' L.length c') L) => refClip_ok c' hh hm (by omega) lo)
  have HC2 := Lib.hid (fun W s' c' (hh : ERow W (.slice s' (clipE L lo).length c') (clipE L lo)) => refClip_ok c' hh hr1 (by omega) (lo + n))
  have hcl : (chgE (setV 4 val false) L lo (lo + n)).length ≤ 1000 := by have := chg_len (g := setV 4 val false) lo (lo + n) hm; omega
  have HM := Lib.hid (fun W s' c' (hh : ERow W (.slice s' (chgE (setV 4 val false) L lo (lo + n)).length c') (chgE (setV 4 val false) L lo (lo + n))) => refMerge_ok c' hh hrc (by omega))
  obtain ⟨M, hM⟩ : ∃ M, clipE (clipE L lo) (lo + n) = M := ⟨_, rfl⟩
  obtain ⟨G, hG⟩ : ∃ G, inE (setV 4 val false) lo (lo + n) = G := ⟨_, rfl⟩
  have hE : chgE (setV 4 val false) L lo (lo + n) = M.map G := by rw [← hM, ← hG]; rfl
  have hML : M.length ≤ 1000 := by rw [← hM]; omega
  have hGin : ∀ x, lo ≤ x.s → x.e ≤ lo + n → G x = ⟨x.s, x.e, x.f, x.o, x.sh, x.p, x.m, x.i, val, x.wi⟩ := fun x h1 h2 => by
    rw [← hG]
    unfold inE
    rw [if_pos (show inB lo (lo + n) x = true from decide_eq_true ⟨h1, h2⟩)]
    rfl
  have hGout : ∀ x, ¬ (lo ≤ x.s ∧ x.e ≤ lo + n) → G x = x := fun x h1 => by
    rw [← hG]
    unfold inE
    rw [if_neg (show ¬ inB lo (lo + n) x = true from fun k => h1 (of_decide_eq_true k))]
  obtain ⟨N, hNN⟩ : ∃ N, M.map G = N := ⟨_, rfl⟩
  rw [hNN] at hE
  rw [hE] at HM ⊢
  have HNN := Lib.hid hNN
  rw [hM] at HC2
  have HGi := Lib.hid hGin
  have HGo := Lib.hid hGout
  have HRm := Lib.hid (show ∀ x, x ∈ M → GoodE x from fun x hx => (rf_good (hM ▸ hr2) x hx).1)
  obtain ⟨L1, hL1⟩ : ∃ L1, clipE L lo = L1 := ⟨_, rfl⟩
  rw [hL1] at HC1 HC2
  obtain ⟨a, c, hv⟩ := h.form
  subst hv
  have c0 := h.at
  have f0 := h.frozen
  have hrs := h.lt
  have HH := Lib.hid h
  have HA := Lib.hid (HC1.out w a c h.row)
  clear h hm hl hrc hr1 hl1 hl2 hr2 hcl hM hG hE hGin hGout hL1 hNN
  go_enter Try.func64, Try.ntmps64
  go_wp2_with fail
  refine HA.out.mono ?_
  rintro e w2 ⟨u, rfl, hown, g2⟩
  obtain ⟨a1, c1, hvf⟩ := OwnOf.form hown
  subst hvf
  have HB := Lib.hid (HC2.out w2 a1 c1 (eown_row hown))
  have HG2 := Lib.hid g2
  clear hown g2
  go_wp2_with fail
  refine HB.out.mono ?_
  rintro e w3 ⟨u, rfl, hown, g3⟩
  obtain ⟨a2, c2, hvf⟩ := OwnOf.form hown
  subst hvf
  have HX := Lib.hid (eown_row hown)
  have HG3 := Lib.hid (grown_trans HG2.out g3)
  have HI := Lib.hid (show EMk w3 w3 (.slice none 0 0) ((M.take 0).map G) from MkOf.nil w3)
  clear hown g3
  go_wp2_with fail
  go_loopw [10, 24] (fun vv iv wr => ∃ q : Nat, q ≤ M.length ∧ iv = .int .i64 q ∧ Hid (EMk w3 wr vv ((M.take q).map G))) (fun _ iv _ => M.length - (intOf iv).toNat)
  case atStart => exact ⟨0, by omega, rfl, HI⟩
  case round =>
    clear HI
    obtain ⟨q, hq, rfl, HJ⟩ := hrel
    by_cases hlt : q < M.length
    · obtain ⟨x, hx⟩ : ∃ x, M[q]? = some x := ⟨_, List.getElem?_eq_getElem hlt⟩
      obtain ⟨g, o, c3, hv1, ka0, ka1, ka2, ka3, ka4, ka5, ka6, ka7, ka8, ka9⟩ := en_cells (erow_grow HX.out HJ.out.grown) hx
      injection hv1 with e1 e2 e3
      subst e1 e3
      have hN : (M.take (q + 1)).map G = (M.take q).map G ++ [G x] := by rw [takel_at hx, List.map_append]; rfl
      have hlo : ((M.take q).map G).length ≤ 1000 := by rw [List.length_map, List.length_take]; omega
      obtain ⟨O, hO⟩ : ∃ O, (M.take q).map G = O := ⟨_, rfl⟩
      rw [hO] at hN hlo HJ
      have hkx := (EnB.new wr x).all
      have hfx := (EnB.new wr x).frozen 8
      obtain ⟨va, vc, hvf⟩ := OwnOf.form HJ.out.own
      subst hvf
      have HJ3 := Lib.hid (show EMk w3 (wr.alloc (.cells #[.int .i64 x.s, .int .i64 x.e, .int .i64 x.f, .int .i64 x.o, .bool x.sh, .int .i64 x.p, .int .i64 x.m, .int .i64 x.i, .int .i64 x.a, .bool x.wi] 31)) (.slice va O.length vc) O from MkOf.grow HJ.out (grown_box wr x))
      have HT := Lib.hid (show ∀ W, Turn [wr.heap.size] (wr.alloc (.cells #[.int .i64 x.s, .int .i64 x.e, .int .i64 x.f, .int .i64 x.o, .bool x.sh, .int .i64 x.p, .int .i64 x.m, .int .i64 x.i, .int .i64 x.a, .bool x.wi] 31)) W → EMk w3 W (.slice va O.length vc) O from fun W t =>
        MkOf.turn HJ3.out t (fun b hb => by
          have := HJ.out.grown.size
          simp only [List.mem_cons, List.not_mem_nil, or_false] at hb
          omega) (fun b hb hm => by
          have := (OwnOf.lt HJ.out.own hb).2
          simp only [List.mem_cons, List.not_mem_nil, or_false] at hm
          omega))
      obtain ⟨k0, k1, k2, k3, k4, k5, k6, k7, k8, k9⟩ := hkx
      by_cases h1 : x.s ≥ lo
      · have b0 : decide (x.s ≥ lo) = true := decide_eq_true h1
        by_cases h2 : x.e ≤ lo + n
        · have b1 : decide (x.e ≤ lo + n) = true := decide_eq_true h2
          have HN := Lib.hid (hN.trans (by rw [HGi.out x h1 h2]))
          clear hx hO hN HJ h1 h2
          go_upto_region 4 with fail
          generalize hwb : wr.alloc (.cells #[.int .i64 x.s, .int .i64 x.e, .int .i64 x.f, .int .i64 x.o, .bool x.sh, .int .i64 x.p, .int .i64 x.m, .int .i64 x.i, .int .i64 x.a, .bool x.wi] 31) = wb at *
          clear hwb
          go_wp2_with (at_builtin; refine wpList_epushX _ rfl _ _ rfl w3.heap.size _ O ⟨x.s, x.e, x.f, x.o, x.sh, x.p, x.m, x.i, val, x.wi⟩ (by rfl) (HT.out _ (Turn.setCell [wr.heap.size] _ _ _ _ (by simp))).own wb.heap.size _ (by rfl) (by simp [World.setCell]) (by omega) HJ3.out.grown.size ?_; intro g8 cap8 w8 hown8 hg8 hat8; have HJ8 := Lib.hid (MkOf.app (HT.out _ (Turn.setCell [wr.heap.size] _ _ _ _ (by simp))) hg8 hown8); clear hown8 hg8 hat8)
          go_roundw
          case rel => exact ⟨q + 1, by omega, by go_num, by rw [HN.out]; exact HJ8⟩
          case measure => simp [intOf]; omega
        · have b1 : decide (x.e ≤ lo + n) = false := decide_eq_false h2
          have HN := Lib.hid (hN.trans (by rw [HGo.out x (fun k => h2 k.2)]))
          clear hx hO hN HJ h1 h2
          go_upto_region 4 with fail
          generalize hwb : wr.alloc (.cells #[.int .i64 x.s, .int .i64 x.e, .int .i64 x.f, .int .i64 x.o, .bool x.sh, .int .i64 x.p, .int .i64 x.m, .int .i64 x.i, .int .i64 x.a, .bool x.wi] 31) = wb at *
          clear hwb
          go_wp2_with (at_builtin; refine wpList_epushX wb rfl _ _ rfl w3.heap.size _ O x (by rfl) HJ3.out.own wb.heap.size _ (by rfl) rfl (by omega) HJ3.out.grown.size ?_; intro g8 cap8 w8 hown8 hg8 hat8; have HJ8 := Lib.hid (MkOf.app HJ3.out hg8 hown8); clear hown8 hg8 hat8)
          go_roundw
          case rel => exact ⟨q + 1, by omega, by go_num, by rw [HN.out]; exact HJ8⟩
          case measure => simp [intOf]; omega
      · have b0 : decide (x.s ≥ lo) = false := decide_eq_false h1
        have HN := Lib.hid (hN.trans (by rw [HGo.out x (fun k => h1 k.1)]))
        clear hx hO hN HJ h1
        go_upto_region 4 with fail
        generalize hwb : wr.alloc (.cells #[.int .i64 x.s, .int .i64 x.e, .int .i64 x.f, .int .i64 x.o, .bool x.sh, .int .i64 x.p, .int .i64 x.m, .int .i64 x.i, .int .i64 x.a, .bool x.wi] 31) = wb at *
        clear hwb
        go_wp2_with (at_builtin; refine wpList_epushX wb rfl _ _ rfl w3.heap.size _ O x (by rfl) HJ3.out.own wb.heap.size _ (by rfl) rfl (by omega) HJ3.out.grown.size ?_; intro g8 cap8 w8 hown8 hg8 hat8; have HJ8 := Lib.hid (MkOf.app HJ3.out hg8 hown8); clear hown8 hg8 hat8)
        go_roundw
        case rel => exact ⟨q + 1, by omega, by go_num, by rw [HN.out]; exact HJ8⟩
        case measure => simp [intOf]; omega
    · obtain rfl : q = M.length := by omega
      rw [List.take_length, HNN.out] at HJ
      obtain ⟨va, vc, hvf⟩ := OwnOf.form HJ.out.own
      subst hvf
      have HG4 := Lib.hid (grown_trans HG3.out HJ.out.grown)
      have H4 := Lib.hid (HH.out.grow HG4.out)
      have HMm := Lib.hid (HM.out wr va vc (eown_row HJ.out.own))
      go_wp2_with fail
      refine HMm.out.mono ?_
      rintro e w5 ⟨u, rfl, hown5, g5⟩
      obtain ⟨a5, c5, hvf⟩ := OwnOf.form hown5
      subst hvf
      have c6 := (H4.out.grow g5).at
      have f6 := (H4.out.grow g5).frozen
      have HP := Lib.hid ((H4.out.grow g5).put hown5 H4.out.lt)
      have HG := Lib.hid (grown_trans (grown_none (grown_trans HG4.out g5)) (grown_set w5 r 0 (.slice a5 (mergeE N).length c5)))
      have HN := Lib.hid (New.of (v := .slice a L.length c) hown5 HG4.out.size)
      clear hown5 g5
      go_wp2_with fail
      go_end0
      first | exact ⟨rfl, _, HP.out, HN.out, HG.out⟩ | exact ⟨rfl, ⟨_, HP.out, HN.out⟩, HG.out⟩
set_option maxRecDepth 100000 in
set_option maxHeartbeats 8000000 in
theorem refChange3_ok {w : World} {r : Nat} {v : Value} {L : List En} (h : VR w r v L) (hm : RF 0 L) (hl : L.length ≤ 900) (lo n val : Int) (on : Bool) (hon : decide (val > 0) = on) (r0 : 0 ≤ lo) (r1 : 1 ≤ n) (r2 : n ≤ 4096) (r3 : lo ≤ 67108864 - n) (hrc : RF 0 (chgE (setV 5 val on) L lo (lo + n))) :
    Calls Try.prog 64 #[.pointer (some ⟨r, 0, none⟩), .int .i64 lo, .int .i64 n, .int .i64 3, .int .i64 val] w fun e w' => e = .returned (.tuple #[]) ∧ ∃ v', VR w' r v' (mergeE (chgE (setV 5 val on) L lo (lo + n))) ∧ New w v v' ∧ w.grownBy w' (some r) := by
  have hr1 := rf_clip lo hm
  have hl1 := (clip_len_le lo hm).2
  have hl2 := (clip_len_le (lo + n) hr1).2
  have hr2 : RF 0 (clipE (clipE L lo) (lo + n)) := rf_clip (lo + n) hr1
  have HC1 := Lib.hid (fun W s' c' (hh : ERow W (.slice s' L.length c') L) => refClip_ok c' hh hm (by omega) lo)
  have HC2 := Lib.hid (fun W s' c' (hh : ERow W (.slice s' (clipE L lo).length c') (clipE L lo)) => refClip_ok c' hh hr1 (by omega) (lo + n))
  have hcl : (chgE (setV 5 val on) L lo (lo + n)).length ≤ 1000 := by have := chg_len (g := setV 5 val on) lo (lo + n) hm; omega
  have HM := Lib.hid (fun W s' c' (hh : ERow W (.slice s' (chgE (setV 5 val on) L lo (lo + n)).length c') (chgE (setV 5 val on) L lo (lo + n))) => refMerge_ok c' hh hrc (by omega))
  obtain ⟨M, hM⟩ : ∃ M, clipE (clipE L lo) (lo + n) = M := ⟨_, rfl⟩
  obtain ⟨G, hG⟩ : ∃ G, inE (setV 5 val on) lo (lo + n) = G := ⟨_, rfl⟩
  have hE : chgE (setV 5 val on) L lo (lo + n) = M.map G := by rw [← hM, ← hG]; rfl
  have hML : M.length ≤ 1000 := by rw [← hM]; omega
  have hGin : ∀ x, lo ≤ x.s → x.e ≤ lo + n → G x = ⟨x.s, x.e, x.f, x.o, x.sh, x.p, x.m, x.i, x.a, on⟩ := fun x h1 h2 => by
    rw [← hG]
    unfold inE
    rw [if_pos (show inB lo (lo + n) x = true from decide_eq_true ⟨h1, h2⟩)]
    rfl
  have hGout : ∀ x, ¬ (lo ≤ x.s ∧ x.e ≤ lo + n) → G x = x := fun x h1 => by
    rw [← hG]
    unfold inE
    rw [if_neg (show ¬ inB lo (lo + n) x = true from fun k => h1 (of_decide_eq_true k))]
  obtain ⟨N, hNN⟩ : ∃ N, M.map G = N := ⟨_, rfl⟩
  rw [hNN] at hE
  rw [hE] at HM ⊢
  have HNN := Lib.hid hNN
  rw [hM] at HC2
  have HGi := Lib.hid hGin
  have HGo := Lib.hid hGout
  have HRm := Lib.hid (show ∀ x, x ∈ M → GoodE x from fun x hx => (rf_good (hM ▸ hr2) x hx).1)
  obtain ⟨L1, hL1⟩ : ∃ L1, clipE L lo = L1 := ⟨_, rfl⟩
  rw [hL1] at HC1 HC2
  obtain ⟨a, c, hv⟩ := h.form
  subst hv
  have c0 := h.at
  have f0 := h.frozen
  have hrs := h.lt
  have HH := Lib.hid h
  have HA := Lib.hid (HC1.out w a c h.row)
  clear h hm hl hrc hr1 hl1 hl2 hr2 hcl hM hG hE hGin hGout hL1 hNN
  go_enter Try.func64, Try.ntmps64
  go_wp2_with fail
  refine HA.out.mono ?_
  rintro e w2 ⟨u, rfl, hown, g2⟩
  obtain ⟨a1, c1, hvf⟩ := OwnOf.form hown
  subst hvf
  have HB := Lib.hid (HC2.out w2 a1 c1 (eown_row hown))
  have HG2 := Lib.hid g2
  clear hown g2
  go_wp2_with fail
  refine HB.out.mono ?_
  rintro e w3 ⟨u, rfl, hown, g3⟩
  obtain ⟨a2, c2, hvf⟩ := OwnOf.form hown
  subst hvf
  have HX := Lib.hid (eown_row hown)
  have HG3 := Lib.hid (grown_trans HG2.out g3)
  have HI := Lib.hid (show EMk w3 w3 (.slice none 0 0) ((M.take 0).map G) from MkOf.nil w3)
  clear hown g3
  go_wp2_with fail
  go_loopw [10, 24] (fun vv iv wr => ∃ q : Nat, q ≤ M.length ∧ iv = .int .i64 q ∧ Hid (EMk w3 wr vv ((M.take q).map G))) (fun _ iv _ => M.length - (intOf iv).toNat)
  case atStart => exact ⟨0, by omega, rfl, HI⟩
  case round =>
    clear HI
    obtain ⟨q, hq, rfl, HJ⟩ := hrel
    by_cases hlt : q < M.length
    · obtain ⟨x, hx⟩ : ∃ x, M[q]? = some x := ⟨_, List.getElem?_eq_getElem hlt⟩
      obtain ⟨g, o, c3, hv1, ka0, ka1, ka2, ka3, ka4, ka5, ka6, ka7, ka8, ka9⟩ := en_cells (erow_grow HX.out HJ.out.grown) hx
      injection hv1 with e1 e2 e3
      subst e1 e3
      have hN : (M.take (q + 1)).map G = (M.take q).map G ++ [G x] := by rw [takel_at hx, List.map_append]; rfl
      have hlo : ((M.take q).map G).length ≤ 1000 := by rw [List.length_map, List.length_take]; omega
      obtain ⟨O, hO⟩ : ∃ O, (M.take q).map G = O := ⟨_, rfl⟩
      rw [hO] at hN hlo HJ
      have hkx := (EnB.new wr x).all
      have hfx := (EnB.new wr x).frozen 9
      obtain ⟨va, vc, hvf⟩ := OwnOf.form HJ.out.own
      subst hvf
      have HJ3 := Lib.hid (show EMk w3 (wr.alloc (.cells #[.int .i64 x.s, .int .i64 x.e, .int .i64 x.f, .int .i64 x.o, .bool x.sh, .int .i64 x.p, .int .i64 x.m, .int .i64 x.i, .int .i64 x.a, .bool x.wi] 31)) (.slice va O.length vc) O from MkOf.grow HJ.out (grown_box wr x))
      have HT := Lib.hid (show ∀ W, Turn [wr.heap.size] (wr.alloc (.cells #[.int .i64 x.s, .int .i64 x.e, .int .i64 x.f, .int .i64 x.o, .bool x.sh, .int .i64 x.p, .int .i64 x.m, .int .i64 x.i, .int .i64 x.a, .bool x.wi] 31)) W → EMk w3 W (.slice va O.length vc) O from fun W t =>
        MkOf.turn HJ3.out t (fun b hb => by
          have := HJ.out.grown.size
          simp only [List.mem_cons, List.not_mem_nil, or_false] at hb
          omega) (fun b hb hm => by
          have := (OwnOf.lt HJ.out.own hb).2
          simp only [List.mem_cons, List.not_mem_nil, or_false] at hm
          omega))
      obtain ⟨k0, k1, k2, k3, k4, k5, k6, k7, k8, k9⟩ := hkx
      by_cases h1 : x.s ≥ lo
      · have b0 : decide (x.s ≥ lo) = true := decide_eq_true h1
        by_cases h2 : x.e ≤ lo + n
        · have b1 : decide (x.e ≤ lo + n) = true := decide_eq_true h2
          have HN := Lib.hid (hN.trans (by rw [HGi.out x h1 h2]))
          clear hx hO hN HJ h1 h2
          go_upto_region 4 with fail
          generalize hwb : wr.alloc (.cells #[.int .i64 x.s, .int .i64 x.e, .int .i64 x.f, .int .i64 x.o, .bool x.sh, .int .i64 x.p, .int .i64 x.m, .int .i64 x.i, .int .i64 x.a, .bool x.wi] 31) = wb at *
          clear hwb
          go_wp2_with (at_builtin; refine wpList_epushX _ rfl _ _ rfl w3.heap.size _ O ⟨x.s, x.e, x.f, x.o, x.sh, x.p, x.m, x.i, x.a, on⟩ (by rfl) (HT.out _ (Turn.setCell [wr.heap.size] _ _ _ _ (by simp))).own wb.heap.size _ (by rfl) (by simp [World.setCell]) (by omega) HJ3.out.grown.size ?_; intro g8 cap8 w8 hown8 hg8 hat8; have HJ8 := Lib.hid (MkOf.app (HT.out _ (Turn.setCell [wr.heap.size] _ _ _ _ (by simp))) hg8 hown8); clear hown8 hg8 hat8)
          go_roundw
          case rel => exact ⟨q + 1, by omega, by go_num, by rw [HN.out]; exact HJ8⟩
          case measure => simp [intOf]; omega
        · have b1 : decide (x.e ≤ lo + n) = false := decide_eq_false h2
          have HN := Lib.hid (hN.trans (by rw [HGo.out x (fun k => h2 k.2)]))
          clear hx hO hN HJ h1 h2
          go_upto_region 4 with fail
          generalize hwb : wr.alloc (.cells #[.int .i64 x.s, .int .i64 x.e, .int .i64 x.f, .int .i64 x.o, .bool x.sh, .int .i64 x.p, .int .i64 x.m, .int .i64 x.i, .int .i64 x.a, .bool x.wi] 31) = wb at *
          clear hwb
          go_wp2_with (at_builtin; refine wpList_epushX wb rfl _ _ rfl w3.heap.size _ O x (by rfl) HJ3.out.own wb.heap.size _ (by rfl) rfl (by omega) HJ3.out.grown.size ?_; intro g8 cap8 w8 hown8 hg8 hat8; have HJ8 := Lib.hid (MkOf.app HJ3.out hg8 hown8); clear hown8 hg8 hat8)
          go_roundw
          case rel => exact ⟨q + 1, by omega, by go_num, by rw [HN.out]; exact HJ8⟩
          case measure => simp [intOf]; omega
      · have b0 : decide (x.s ≥ lo) = false := decide_eq_false h1
        have HN := Lib.hid (hN.trans (by rw [HGo.out x (fun k => h1 k.1)]))
        clear hx hO hN HJ h1
        go_upto_region 4 with fail
        generalize hwb : wr.alloc (.cells #[.int .i64 x.s, .int .i64 x.e, .int .i64 x.f, .int .i64 x.o, .bool x.sh, .int .i64 x.p, .int .i64 x.m, .int .i64 x.i, .int .i64 x.a, .bool x.wi] 31) = wb at *
        clear hwb
        go_wp2_with (at_builtin; refine wpList_epushX wb rfl _ _ rfl w3.heap.size _ O x (by rfl) HJ3.out.own wb.heap.size _ (by rfl) rfl (by omega) HJ3.out.grown.size ?_; intro g8 cap8 w8 hown8 hg8 hat8; have HJ8 := Lib.hid (MkOf.app HJ3.out hg8 hown8); clear hown8 hg8 hat8)
        go_roundw
        case rel => exact ⟨q + 1, by omega, by go_num, by rw [HN.out]; exact HJ8⟩
        case measure => simp [intOf]; omega
    · obtain rfl : q = M.length := by omega
      rw [List.take_length, HNN.out] at HJ
      obtain ⟨va, vc, hvf⟩ := OwnOf.form HJ.out.own
      subst hvf
      have HG4 := Lib.hid (grown_trans HG3.out HJ.out.grown)
      have H4 := Lib.hid (HH.out.grow HG4.out)
      have HMm := Lib.hid (HM.out wr va vc (eown_row HJ.out.own))
      go_wp2_with fail
      refine HMm.out.mono ?_
      rintro e w5 ⟨u, rfl, hown5, g5⟩
      obtain ⟨a5, c5, hvf⟩ := OwnOf.form hown5
      subst hvf
      have c6 := (H4.out.grow g5).at
      have f6 := (H4.out.grow g5).frozen
      have HP := Lib.hid ((H4.out.grow g5).put hown5 H4.out.lt)
      have HG := Lib.hid (grown_trans (grown_none (grown_trans HG4.out g5)) (grown_set w5 r 0 (.slice a5 (mergeE N).length c5)))
      have HN := Lib.hid (New.of (v := .slice a L.length c) hown5 HG4.out.size)
      clear hown5 g5
      go_wp2_with fail
      go_end0
      first | exact ⟨rfl, _, HP.out, HN.out, HG.out⟩ | exact ⟨rfl, ⟨_, HP.out, HN.out⟩, HG.out⟩
end Go.Proofs.Ytamkmmhjmpjibaa

namespace Go.Proofs.Ytamkmmhjmpjibaa
open Go.ChangeShapes Go.WideShapes Go.ChangeAt Go.RowKit Go.Deep
set_option linter.unusedVariables false
set_option linter.unusedSimpArgs false

set_option maxHeartbeats 4000000 in
theorem refOther1_ok {w : World} {r : Nat} {v : Value} {L : List En} (h : VR w r v L) (hm : RF 0 L) (hl : L.length ≤ 900) (lo n val : Int) (ho : okI lo) (hn : okI n) :
    Calls Try.prog 65 #[.pointer (some ⟨r, 0, none⟩), .int .i64 lo, .int .i64 n, .int .i64 1, .int .i64 val, .int .i64 2] w fun e w' => e = .returned (.int .i64 (otherV L lo n 3 val 2 false).err) ∧ ∃ v', VR w' r v' (otherV L lo n 3 val 2 false).l ∧ New w v v' ∧ w.grownBy w' (some r) := by
  have HR := Lib.hid (refRange_ok w lo n ho hn)
  by_cases k : rangeV lo n = true ∧ 0 ≤ val ∧ val ≤ 2
  · obtain ⟨k1, k2, k3⟩ := k
    have b0 : decide (val < 0) = false := decide_eq_false (by omega)
    have b1 : decide (val > 2) = false := decide_eq_false (by omega)
    obtain ⟨r0, r1, r2, r3⟩ := range_iff.1 k1
    obtain ⟨a, c, hv⟩ := h.form
    subst hv
    obtain ⟨d, hd⟩ : ∃ d, wholeB L lo (lo + n) = d := ⟨_, rfl⟩
    have HW := Lib.hid (refWhole_ok c h.row hm (by omega) lo (lo + n) d hd)
    have c0 := h.at
    have HH := Lib.hid h
    rw [k1] at HR
    cases d with
    | false =>
      have e : otherV L lo n 3 val 2 false = ⟨L, 0, [], 5⟩ := by unfold otherV; rw [if_pos ⟨k1, k2, k3⟩, hd]; rfl
      rw [e]
      simp only
      clear e k1 hd h hm ho hn
      go_enter Try.func65, Try.ntmps65
      go_wp2_with fail
      refine HR.out.mono ?_
      rintro e w1 ⟨rfl, e1⟩
      subst e1
      go_wp2_with fail
      refine HW.out.mono ?_
      rintro e w2 ⟨rfl, g2⟩
      have HG := Lib.hid g2
      clear g2
      go_wp2_with fail
      go_ret
      exact ⟨rfl, _, HH.out.grow HG.out, New.refl _ _, grown_none HG.out⟩
    | true =>
      have e : otherV L lo n 3 val 2 false = ⟨mergeE (chgE (setV 3 val false) L lo (lo + n)), 0, [], 0⟩ := by unfold otherV; rw [if_pos ⟨k1, k2, k3⟩, hd]; rfl
      rw [e]
      simp only
      have HC := Lib.hid (fun W (hh : VR W r (.slice a L.length c) L) => refChange1_ok hh hm hl lo n val r0 r1 r2 r3 (rf_other hm k2 k3 (.inl ⟨rfl, Int.le_refl _⟩)))
      clear e k1 hd h hm ho hn
      go_enter Try.func65, Try.ntmps65
      go_wp2_with fail
      refine HR.out.mono ?_
      rintro e w1 ⟨rfl, e1⟩
      subst e1
      go_wp2_with fail
      refine HW.out.mono ?_
      rintro e w2 ⟨rfl, g2⟩
      have HG := Lib.hid g2
      have HA := Lib.hid (HC.out w2 (HH.out.grow g2))
      clear g2
      go_wp2_with fail
      refine HA.out.mono ?_
      rintro e w3 ⟨rfl, v3, hv3, n3, g3⟩
      have HB := Lib.hid hv3
      have HN := Lib.hid (n3.after HG.out.size)
      have HG3 := Lib.hid (grown_trans (grown_none HG.out) g3)
      clear hv3 n3 g3
      go_wp2_with fail
      go_ret
      exact ⟨rfl, _, HB.out, HN.out, HG3.out⟩
  · have e : otherV L lo n 3 val 2 false = ⟨L, 0, [], 2⟩ := by unfold otherV; rw [if_neg k]
    rw [e]
    simp only
    have HH := Lib.hid h
    cases kr : rangeV lo n with
    | false =>
      rw [kr] at HR
      clear e k kr h hm ho hn
      go_enter Try.func65, Try.ntmps65
      go_wp2_with fail
      refine HR.out.mono ?_
      rintro e w1 ⟨rfl, e1⟩
      subst e1
      go_wp2_with fail
      go_ret
      exact ⟨rfl, _, HH.out, New.refl _ _, grown_refl _ _⟩
    | true =>
      rw [kr] at HR
      by_cases k0 : val < 0
      · have b0 : decide (val < 0) = true := decide_eq_true k0
        clear e k kr h hm ho hn k0
        go_enter Try.func65, Try.ntmps65
        go_wp2_with fail
        refine HR.out.mono ?_
        rintro e w1 ⟨rfl, e1⟩
        subst e1
        go_wp2_with fail
        go_ret
        exact ⟨rfl, _, HH.out, New.refl _ _, grown_refl _ _⟩
      · have b0 : decide (val < 0) = false := decide_eq_false k0
        have b1 : decide (val > 2) = true := decide_eq_true (by have : ¬ (0 ≤ val ∧ val ≤ 2) := fun q => k ⟨kr, q⟩; omega)
        clear e k kr h hm ho hn k0
        go_enter Try.func65, Try.ntmps65
        go_wp2_with fail
        refine HR.out.mono ?_
        rintro e w1 ⟨rfl, e1⟩
        subst e1
        go_wp2_with fail
        go_ret
        exact ⟨rfl, _, HH.out, New.refl _ _, grown_refl _ _⟩
set_option maxHeartbeats 4000000 in
theorem refOther2_ok {w : World} {r : Nat} {v : Value} {L : List En} (h : VR w r v L) (hm : RF 0 L) (hl : L.length ≤ 900) (lo n val : Int) (ho : okI lo) (hn : okI n) :
    Calls Try.prog 65 #[.pointer (some ⟨r, 0, none⟩), .int .i64 lo, .int .i64 n, .int .i64 2, .int .i64 val, .int .i64 4] w fun e w' => e = .returned (.int .i64 (otherV L lo n 4 val 4 false).err) ∧ ∃ v', VR w' r v' (otherV L lo n 4 val 4 false).l ∧ New w v v' ∧ w.grownBy w' (some r) := by
  have HR := Lib.hid (refRange_ok w lo n ho hn)
  by_cases k : rangeV lo n = true ∧ 0 ≤ val ∧ val ≤ 4
  · obtain ⟨k1, k2, k3⟩ := k
    have b0 : decide (val < 0) = false := decide_eq_false (by omega)
    have b1 : decide (val > 4) = false := decide_eq_false (by omega)
    obtain ⟨r0, r1, r2, r3⟩ := range_iff.1 k1
    obtain ⟨a, c, hv⟩ := h.form
    subst hv
    obtain ⟨d, hd⟩ : ∃ d, wholeB L lo (lo + n) = d := ⟨_, rfl⟩
    have HW := Lib.hid (refWhole_ok c h.row hm (by omega) lo (lo + n) d hd)
    have c0 := h.at
    have HH := Lib.hid h
    rw [k1] at HR
    cases d with
    | false =>
      have e : otherV L lo n 4 val 4 false = ⟨L, 0, [], 5⟩ := by unfold otherV; rw [if_pos ⟨k1, k2, k3⟩, hd]; rfl
      rw [e]
      simp only
      clear e k1 hd h hm ho hn
      go_enter Try.func65, Try.ntmps65
      go_wp2_with fail
      refine HR.out.mono ?_
      rintro e w1 ⟨rfl, e1⟩
      subst e1
      go_wp2_with fail
      refine HW.out.mono ?_
      rintro e w2 ⟨rfl, g2⟩
      have HG := Lib.hid g2
      clear g2
      go_wp2_with fail
      go_ret
      exact ⟨rfl, _, HH.out.grow HG.out, New.refl _ _, grown_none HG.out⟩
    | true =>
      have e : otherV L lo n 4 val 4 false = ⟨mergeE (chgE (setV 4 val false) L lo (lo + n)), 0, [], 0⟩ := by unfold otherV; rw [if_pos ⟨k1, k2, k3⟩, hd]; rfl
      rw [e]
      simp only
      have HC := Lib.hid (fun W (hh : VR W r (.slice a L.length c) L) => refChange2_ok hh hm hl lo n val r0 r1 r2 r3 (rf_other hm k2 k3 (.inr (.inl ⟨rfl, Int.le_refl _⟩))))
      clear e k1 hd h hm ho hn
      go_enter Try.func65, Try.ntmps65
      go_wp2_with fail
      refine HR.out.mono ?_
      rintro e w1 ⟨rfl, e1⟩
      subst e1
      go_wp2_with fail
      refine HW.out.mono ?_
      rintro e w2 ⟨rfl, g2⟩
      have HG := Lib.hid g2
      have HA := Lib.hid (HC.out w2 (HH.out.grow g2))
      clear g2
      go_wp2_with fail
      refine HA.out.mono ?_
      rintro e w3 ⟨rfl, v3, hv3, n3, g3⟩
      have HB := Lib.hid hv3
      have HN := Lib.hid (n3.after HG.out.size)
      have HG3 := Lib.hid (grown_trans (grown_none HG.out) g3)
      clear hv3 n3 g3
      go_wp2_with fail
      go_ret
      exact ⟨rfl, _, HB.out, HN.out, HG3.out⟩
  · have e : otherV L lo n 4 val 4 false = ⟨L, 0, [], 2⟩ := by unfold otherV; rw [if_neg k]
    rw [e]
    simp only
    have HH := Lib.hid h
    cases kr : rangeV lo n with
    | false =>
      rw [kr] at HR
      clear e k kr h hm ho hn
      go_enter Try.func65, Try.ntmps65
      go_wp2_with fail
      refine HR.out.mono ?_
      rintro e w1 ⟨rfl, e1⟩
      subst e1
      go_wp2_with fail
      go_ret
      exact ⟨rfl, _, HH.out, New.refl _ _, grown_refl _ _⟩
    | true =>
      rw [kr] at HR
      by_cases k0 : val < 0
      · have b0 : decide (val < 0) = true := decide_eq_true k0
        clear e k kr h hm ho hn k0
        go_enter Try.func65, Try.ntmps65
        go_wp2_with fail
        refine HR.out.mono ?_
        rintro e w1 ⟨rfl, e1⟩
        subst e1
        go_wp2_with fail
        go_ret
        exact ⟨rfl, _, HH.out, New.refl _ _, grown_refl _ _⟩
      · have b0 : decide (val < 0) = false := decide_eq_false k0
        have b1 : decide (val > 4) = true := decide_eq_true (by have : ¬ (0 ≤ val ∧ val ≤ 4) := fun q => k ⟨kr, q⟩; omega)
        clear e k kr h hm ho hn k0
        go_enter Try.func65, Try.ntmps65
        go_wp2_with fail
        refine HR.out.mono ?_
        rintro e w1 ⟨rfl, e1⟩
        subst e1
        go_wp2_with fail
        go_ret
        exact ⟨rfl, _, HH.out, New.refl _ _, grown_refl _ _⟩
set_option maxHeartbeats 4000000 in
theorem refOther3_ok {w : World} {r : Nat} {v : Value} {L : List En} (h : VR w r v L) (hm : RF 0 L) (hl : L.length ≤ 900) (lo n val : Int) (on : Bool) (hon : decide (val > 0) = on) (ho : okI lo) (hn : okI n) :
    Calls Try.prog 65 #[.pointer (some ⟨r, 0, none⟩), .int .i64 lo, .int .i64 n, .int .i64 3, .int .i64 val, .int .i64 1] w fun e w' => e = .returned (.int .i64 (otherV L lo n 5 val 1 on).err) ∧ ∃ v', VR w' r v' (otherV L lo n 5 val 1 on).l ∧ New w v v' ∧ w.grownBy w' (some r) := by
  have HR := Lib.hid (refRange_ok w lo n ho hn)
  by_cases k : rangeV lo n = true ∧ 0 ≤ val ∧ val ≤ 1
  · obtain ⟨k1, k2, k3⟩ := k
    have b0 : decide (val < 0) = false := decide_eq_false (by omega)
    have b1 : decide (val > 1) = false := decide_eq_false (by omega)
    obtain ⟨r0, r1, r2, r3⟩ := range_iff.1 k1
    obtain ⟨a, c, hv⟩ := h.form
    subst hv
    obtain ⟨d, hd⟩ : ∃ d, wholeB L lo (lo + n) = d := ⟨_, rfl⟩
    have HW := Lib.hid (refWhole_ok c h.row hm (by omega) lo (lo + n) d hd)
    have c0 := h.at
    have HH := Lib.hid h
    rw [k1] at HR
    cases d with
    | false =>
      have e : otherV L lo n 5 val 1 on = ⟨L, 0, [], 5⟩ := by unfold otherV; rw [if_pos ⟨k1, k2, k3⟩, hd]; rfl
      rw [e]
      simp only
      clear e k1 hd h hm ho hn
      go_enter Try.func65, Try.ntmps65
      go_wp2_with fail
      refine HR.out.mono ?_
      rintro e w1 ⟨rfl, e1⟩
      subst e1
      go_wp2_with fail
      refine HW.out.mono ?_
      rintro e w2 ⟨rfl, g2⟩
      have HG := Lib.hid g2
      clear g2
      go_wp2_with fail
      go_ret
      exact ⟨rfl, _, HH.out.grow HG.out, New.refl _ _, grown_none HG.out⟩
    | true =>
      have e : otherV L lo n 5 val 1 on = ⟨mergeE (chgE (setV 5 val on) L lo (lo + n)), 0, [], 0⟩ := by unfold otherV; rw [if_pos ⟨k1, k2, k3⟩, hd]; rfl
      rw [e]
      simp only
      have HC := Lib.hid (fun W (hh : VR W r (.slice a L.length c) L) => refChange3_ok hh hm hl lo n val on hon r0 r1 r2 r3 (rf_other hm k2 k3 (.inr (.inr rfl))))
      clear e k1 hd h hm ho hn
      go_enter Try.func65, Try.ntmps65
      go_wp2_with fail
      refine HR.out.mono ?_
      rintro e w1 ⟨rfl, e1⟩
      subst e1
      go_wp2_with fail
      refine HW.out.mono ?_
      rintro e w2 ⟨rfl, g2⟩
      have HG := Lib.hid g2
      have HA := Lib.hid (HC.out w2 (HH.out.grow g2))
      clear g2
      go_wp2_with fail
      refine HA.out.mono ?_
      rintro e w3 ⟨rfl, v3, hv3, n3, g3⟩
      have HB := Lib.hid hv3
      have HN := Lib.hid (n3.after HG.out.size)
      have HG3 := Lib.hid (grown_trans (grown_none HG.out) g3)
      clear hv3 n3 g3
      go_wp2_with fail
      go_ret
      exact ⟨rfl, _, HB.out, HN.out, HG3.out⟩
  · have e : otherV L lo n 5 val 1 on = ⟨L, 0, [], 2⟩ := by unfold otherV; rw [if_neg k]
    rw [e]
    simp only
    have HH := Lib.hid h
    cases kr : rangeV lo n with
    | false =>
      rw [kr] at HR
      clear e k kr h hm ho hn
      go_enter Try.func65, Try.ntmps65
      go_wp2_with fail
      refine HR.out.mono ?_
      rintro e w1 ⟨rfl, e1⟩
      subst e1
      go_wp2_with fail
      go_ret
      exact ⟨rfl, _, HH.out, New.refl _ _, grown_refl _ _⟩
    | true =>
      rw [kr] at HR
      by_cases k0 : val < 0
      · have b0 : decide (val < 0) = true := decide_eq_true k0
        clear e k kr h hm ho hn k0
        go_enter Try.func65, Try.ntmps65
        go_wp2_with fail
        refine HR.out.mono ?_
        rintro e w1 ⟨rfl, e1⟩
        subst e1
        go_wp2_with fail
        go_ret
        exact ⟨rfl, _, HH.out, New.refl _ _, grown_refl _ _⟩
      · have b0 : decide (val < 0) = false := decide_eq_false k0
        have b1 : decide (val > 1) = true := decide_eq_true (by have : ¬ (0 ≤ val ∧ val ≤ 1) := fun q => k ⟨kr, q⟩; omega)
        clear e k kr h hm ho hn k0
        go_enter Try.func65, Try.ntmps65
        go_wp2_with fail
        refine HR.out.mono ?_
        rintro e w1 ⟨rfl, e1⟩
        subst e1
        go_wp2_with fail
        go_ret
        exact ⟨rfl, _, HH.out, New.refl _ _, grown_refl _ _⟩
end Go.Proofs.Ytamkmmhjmpjibaa

namespace Go.Proofs.Ytamkmmhjmpjibaa
open Go.ChangeShapes Go.WideShapes Go.ChangeAt Go.RowKit Go.Deep
set_option linter.unusedVariables false
set_option linter.unusedSimpArgs false

/-- One entry of a range may have rights. -/
def mayOne (lo hi p : Int) (x : En) : Bool := !decide (x.s < hi ∧ lo < x.e) || decide (p.toNat &&& x.m.toNat = p.toNat)
theorem mayP_take {L : List En} {q : Nat} {x : En} (lo hi p : Int) (hx : L[q]? = some x) : mayP (L.take (q + 1)) lo hi p = (mayP (L.take q) lo hi p && mayOne lo hi p x) := by
  unfold mayP mayOne
  rw [takel_at hx, List.all_append]
  simp
theorem mayP_stop {L : List En} {q : Nat} {x : En} {lo hi p : Int} (hx : L[q]? = some x) (h : mayOne lo hi p x = false) : mayP L lo hi p = false := by
  cases e : mayP L lo hi p with
  | false => rfl
  | true =>
    have := List.all_eq_true.1 e x (List.mem_of_getElem? hx)
    unfold mayOne at h
    rw [this] at h
    cases h
set_option maxRecDepth 100000 in
set_option maxHeartbeats 4000000 in
theorem refProtect_ok {w : World} {r : Nat} {v : Value} {L : List En} (h : VR w r v L) (hm : RF 0 L) (hl : L.length ≤ 900) (lo n p : Int) (ho : okI lo) (hn : okI n) :
    Calls Try.prog 31 #[.pointer (some ⟨r, 0, none⟩), .int .i64 lo, .int .i64 n, .int .i64 p] w fun e w' => e = .returned (.int .i64 (protV L lo n p).err) ∧ ∃ v', VR w' r v' (protV L lo n p).l ∧ New w v v' ∧ w.grownBy w' (some r) := by
  have HR := Lib.hid (refRange_ok w lo n ho hn)
  by_cases k : rangeV lo n = true ∧ 0 ≤ p ∧ p ≤ 7
  · obtain ⟨k1, k2, k3⟩ := k
    have b0 : decide (p < 0) = false := decide_eq_false (by omega)
    have b1 : decide (p > 7) = false := decide_eq_false (by omega)
    obtain ⟨r0, r1, r2, r3⟩ := range_iff.1 k1
    obtain ⟨a, c, hv⟩ := h.form
    subst hv
    obtain ⟨d, hd⟩ : ∃ d, wholeB L lo (lo + n) = d := ⟨_, rfl⟩
    have HW := Lib.hid (refWhole_ok c h.row hm (by omega) lo (lo + n) d hd)
    have c0 := h.at
    have HH := Lib.hid h
    rw [k1] at HR
    cases d with
    | false =>
      have e : protV L lo n p = ⟨L, 0, [], 5⟩ := by unfold protV; rw [if_pos ⟨k1, k2, k3⟩, hd]; rfl
      rw [e]
      simp only
      clear e k1 hd h hm ho hn
      go_enter Try.func31, Try.ntmps31
      go_wp2_with fail
      refine HR.out.mono ?_
      rintro e w1 ⟨rfl, e1⟩
      subst e1
      go_wp2_with fail
      refine HW.out.mono ?_
      rintro e w2 ⟨rfl, g2⟩
      have HG := Lib.hid g2
      clear g2
      go_wp2_with fail
      go_ret
      exact ⟨rfl, _, HH.out.grow HG.out, New.refl _ _, grown_none HG.out⟩
    | true =>
      have e1 : mayP L lo (lo + n) p = true → protV L lo n p = ⟨mergeE (chgE (setV 2 p false) L lo (lo + n)), 0, [], 0⟩ := fun q => by unfold protV; rw [if_pos ⟨k1, k2, k3⟩, hd, q]; rfl
      have e2 : mayP L lo (lo + n) p = false → protV L lo n p = ⟨L, 0, [], 3⟩ := fun q => by unfold protV; rw [if_pos ⟨k1, k2, k3⟩, hd, q]; rfl
      obtain ⟨D, hD⟩ : ∃ D, protV L lo n p = D := ⟨_, rfl⟩
      rw [hD] at e1 e2 ⊢
      have HE1 := Lib.hid e1
      have HE2 := Lib.hid e2
      have HC := Lib.hid (fun (q : mayP L lo (lo + n) p = true) W (hh : VR W r (.slice a L.length c) L) => refChange0_ok hh hm hl lo n p r0 r1 r2 r3 (rf_prot hm k1 k2 k3 q))
      have HGd := Lib.hid (fun x (hx : x ∈ L) => (rf_good hm x hx).1)
      clear e1 e2 hD k1 hd h hm ho hn
      go_enter Try.func31, Try.ntmps31
      go_wp2_with fail
      refine HR.out.mono ?_
      rintro e w1 ⟨rfl, e1⟩
      subst e1
      go_wp2_with fail
      refine HW.out.mono ?_
      rintro e w2 ⟨rfl, g2⟩
      have HG := Lib.hid g2
      have H2 := Lib.hid (HH.out.grow g2)
      have c2 := (HH.out.grow g2).at
      clear g2 c0
      go_wp2_with fail
      go_loopw [40] (fun iv wr => ∃ q : Nat, q ≤ L.length ∧ iv = .int .i64 q ∧ Hid (mayP (L.take q) lo (lo + n) p = true) ∧ Hid (w2.grownBy wr none)) (fun iv _ => L.length - (intOf iv).toNat)
      case atStart => exact ⟨0, by omega, rfl, Lib.hid (by simp [mayP]), grown_refl _ _⟩
      case round =>
        obtain ⟨q, hq, rfl, HM, HB⟩ := hrel
        by_cases hlt : q < L.length
        · obtain ⟨x, hx⟩ : ∃ x, L[q]? = some x := ⟨_, List.getElem?_eq_getElem hlt⟩
          obtain ⟨g, o, c3, hv1, ka0, ka1, ka2, ka3, ka4, ka5, ka6, ka7, ka8, ka9⟩ := en_cells (erow_grow H2.out.row HB.out) hx
          injection hv1 with e1 e2 e3
          subst e1 e3
          have hgx := HGd.out x (List.mem_of_getElem? hx)
          have hpm := (fits_iff.1 hgx.pm).2.1
          have hbit := and_nat (p := p) (m := x.m) k2 k3 hpm.1 hpm.2
          have q1 := hgx.s0
          have q2 := hgx.e1
          have hN := mayP_take lo (lo + n) p hx
          rw [HM.out] at hN
          have hS := fun (q : mayOne lo (lo + n) p x = false) => mayP_stop hx q
          have HB1 := Lib.hid (grown_trans HB.out (grown_box wr x))
          obtain ⟨t, ht⟩ : ∃ t : Nat, p.toNat &&& x.m.toNat = t := ⟨_, rfl⟩
          rw [ht] at hbit
          by_cases h1 : x.s < lo + n
          · have b2 : decide (x.s < lo + n) = true := decide_eq_true h1
            by_cases h2 : lo < x.e
            · have b3 : decide (lo < x.e) = true := decide_eq_true h2
              by_cases h3 : (t : Int) = p
              · have b4 : ((t : Int) == p) = true := by rw [h3]; simp
                have b5 : ((t : Int) != p) = false := by unfold bne; rw [b4]; rfl
                have HN := Lib.hid (hN.trans (show (true && mayOne lo (lo + n) p x) = true by unfold mayOne; rw [decide_eq_true (show p.toNat &&& x.m.toNat = p.toNat by omega)]; first | done | rfl | simp))
                clear hx hN hS hgx hpm h1 h2 h3 ht
                go_wp2_with fail
                go_roundw
                case rel => exact ⟨q + 1, by omega, by go_num, HN, HB1⟩
                case measure => simp [intOf]; omega
              · have b4 : ((t : Int) == p) = false := by simpa using h3
                have b5 : ((t : Int) != p) = true := by unfold bne; rw [b4]; rfl
                have HN := Lib.hid (hS (by unfold mayOne; rw [decide_eq_true (show x.s < lo + n ∧ lo < x.e from ⟨h1, h2⟩), decide_eq_false (show ¬ p.toNat &&& x.m.toNat = p.toNat from fun q => h3 (by omega))]; rfl))
                obtain rfl := HE2.out HN.out
                clear hx hN hS hgx hpm h1 h2 h3 ht
                go_wp2_with fail
                go_ret
                first | exact ⟨rfl, _, H2.out.grow HB1.out, New.refl _ _, grown_none (grown_trans HG.out HB1.out)⟩ | exact ⟨rfl, ⟨_, H2.out.grow HB1.out, New.refl _ _⟩, grown_none (grown_trans HG.out HB1.out)⟩
            · have b3 : decide (lo < x.e) = false := decide_eq_false h2
              have HN := Lib.hid (hN.trans (show (true && mayOne lo (lo + n) p x) = true by unfold mayOne; rw [decide_eq_false (fun q => h2 q.2)]; first | done | rfl | simp))
              clear hx hN hS hgx hpm h1 h2 ht
              go_wp2_with fail
              go_roundw
              case rel => exact ⟨q + 1, by omega, by go_num, HN, HB1⟩
              case measure => simp [intOf]; omega
          · have b2 : decide (x.s < lo + n) = false := decide_eq_false h1
            have HN := Lib.hid (hN.trans (show (true && mayOne lo (lo + n) p x) = true by unfold mayOne; rw [decide_eq_false (fun q => h1 q.1)]; first | done | rfl | simp))
            clear hx hN hS hgx hpm h1 ht
            go_wp2_with fail
            go_roundw
            case rel => exact ⟨q + 1, by omega, by go_num, HN, HB1⟩
            case measure => simp [intOf]; omega
        · obtain rfl : q = L.length := by omega
          have hM := HM.out
          rw [List.take_length] at hM
          have HA := Lib.hid (HC.out hM wr (H2.out.grow HB.out))
          obtain rfl := HE1.out hM
          clear hM
          go_wp2_with fail
          refine HA.out.mono ?_
          rintro e w3 ⟨rfl, v3, hv3, n3, g3⟩
          have HP := Lib.hid hv3
          have HNw := Lib.hid (n3.after (grown_trans HG.out HB.out).size)
          have HG3 := Lib.hid (grown_trans (grown_none (grown_trans HG.out HB.out)) g3)
          clear hv3 n3 g3
          go_wp2_with fail
          go_ret
          first | exact ⟨rfl, _, HP.out, HNw.out, HG3.out⟩ | exact ⟨rfl, ⟨_, HP.out, HNw.out⟩, HG3.out⟩
  · have e : protV L lo n p = ⟨L, 0, [], 2⟩ := by unfold protV; rw [if_neg k]
    rw [e]
    simp only
    have HH := Lib.hid h
    cases kr : rangeV lo n with
    | false =>
      rw [kr] at HR
      clear e k kr h hm ho hn
      go_enter Try.func31, Try.ntmps31
      go_wp2_with fail
      refine HR.out.mono ?_
      rintro e w1 ⟨rfl, e1⟩
      subst e1
      go_wp2_with fail
      go_ret
      exact ⟨rfl, _, HH.out, New.refl _ _, grown_refl _ _⟩
    | true =>
      rw [kr] at HR
      by_cases k0 : p < 0
      · have b0 : decide (p < 0) = true := decide_eq_true k0
        clear e k kr h hm ho hn k0
        go_enter Try.func31, Try.ntmps31
        go_wp2_with fail
        refine HR.out.mono ?_
        rintro e w1 ⟨rfl, e1⟩
        subst e1
        go_wp2_with fail
        go_ret
        exact ⟨rfl, _, HH.out, New.refl _ _, grown_refl _ _⟩
      · have b0 : decide (p < 0) = false := decide_eq_false k0
        have b1 : decide (p > 7) = true := decide_eq_true (by have : ¬ (0 ≤ p ∧ p ≤ 7) := fun q => k ⟨kr, q⟩; omega)
        clear e k kr h hm ho hn k0
        go_enter Try.func31, Try.ntmps31
        go_wp2_with fail
        refine HR.out.mono ?_
        rintro e w1 ⟨rfl, e1⟩
        subst e1
        go_wp2_with fail
        go_ret
        exact ⟨rfl, _, HH.out, New.refl _ _, grown_refl _ _⟩
end Go.Proofs.Ytamkmmhjmpjibaa
