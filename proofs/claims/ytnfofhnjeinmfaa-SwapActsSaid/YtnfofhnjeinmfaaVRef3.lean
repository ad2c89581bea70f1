/- The document's device of layer 9: Write. -/
import Derived.Test.YtnfofhnjeinmfaaVRef2
namespace Go.Proofs.Ytnfofhnjeinmfaa
open Go.ChangeShapes Go.WideShapes Go.ChangeAt Go.RowKit Go.Deep
open Extern.Stop (cell)
set_option linter.unusedVariables false

/-- append([][]byte{}, l...). -/
theorem wpList_tab {ops : Array Oper} {rest : List Oper} {o : Oper} {a : Act} {Q : Exit → Act → World → Prop} {w : World} (hgd : o.guard = none) (x y : Operand)
    (hop : o.op = Op.call { callee := Callee.builtin Builtin.append, args := #[x, y], argTypes := #[46, 46] })
    {g b c n : Nat} {xs : List Value} (hg : w.heap[g]? = some (.cells #[] 29 (0, 0))) (hx : a.eval x = .slice (some ⟨g, 0, none⟩) 0 0) (hy : a.eval y = .slice (some ⟨b, 0, none⟩) n c)
    (hr : w.ownsRow 0 29 1 (.slice (some ⟨b, 0, none⟩) n c) n xs) (hone : ∀ u, u ∈ xs → u.oneCell' = true) (h0 : 1 ≤ n) (hl : n ≤ 256)
    (hK : ∀ g' c' w', g ≤ g' → w'.ownsRow 0 29 1 (.slice (some ⟨g', 0, none⟩) n c') n xs → w.grownBy w' (some g) → wpList Try.prog ops Q rest (a.put o.dst (.slice (some ⟨g', 0, none⟩) n c')) w') :
    wpList Try.prog ops Q (o :: rest) a w := by
  have hglt := (Array.getElem?_eq_some_iff.1 hg).1
  obtain ⟨i0, hi, hz0, hz1, hz2⟩ := info_parts (show (Try.prog.info? 29).map (fun i => (i.zero, i.size, i.bytes)) = some (some (.slice none 0 0), 1, 24) by kernel_rfl)
  have hown : w.ownsRow g 29 1 (.slice (some ⟨g, 0, none⟩) 0 0) 0 [] := ⟨rfl, .inr ⟨g, 0, #[], rfl, Nat.le_refl _, hg, Nat.le_refl _, by simp [maxLen], rfl, rfl⟩⟩
  have hlen : xs.length = n := by have := hr.1; omega
  refine wpList_plain hgd fun K hK' => ?_
  obtain ⟨g', cap, w', hrun, h2, h3, h4, h5⟩ := run_append_lies (P := Try.prog) w 46 o.type g 29 i0 (.slice none 0 0) 1 24 Try.underlying46 hi hz0 hz1 hz2 rfl (by decide) _ 0 [] hown ⟨b, 0, none⟩ n c xs (by omega)
    (hr.cells (g := b) rfl) hone h0 (by unfold maxLen; omega) (by omega) (Nat.le_of_lt hglt) w.heap.size rfl
  rw [Nat.zero_add] at hrun h2
  rw [List.nil_append] at h2
  have hle := (World.ownsRow.lt h2 g' rfl).1
  have hrow : w'.ownsRow 0 29 1 (.slice (some ⟨g', 0, none⟩) n cap) n xs := by
    refine ⟨h2.1, ?_⟩
    rcases h2.2 with ⟨e, _⟩ | ⟨q, cp, cur, e, _, h6⟩
    · cases e
    · exact .inr ⟨q, cp, cur, e, Nat.zero_le _, h6⟩
  have hfin := hK g' cap w' hle hrow (by simpa [Value.ownBlock] using h3)
  unfold Oper.wp
  simp [execOp, hop, resolve, invoke, builtin, hx, hy, hrun, Result.andThen]
  exact hK' _ _ hfin

/-- append([]byte{}, b...) as one step of a region that draws. -/
theorem step_bytes {ops : Array Oper} {o : Oper} {a : Act} {w : World} {K : Act → World → Prop} {Q : Exit → Act → World → Prop} {E : Prop}
    (hg : o.guard = none) (x y : Operand) (hop : o.op = Op.call { callee := Callee.builtin Builtin.append, args := #[x, y], argTypes := #[29, 29] })
    (g : Nat) (hb : w.heap[g]? = some (.cells #[] 5 (0, 0))) (hx : a.eval x = .slice (some ⟨g, 0, none⟩) 0 0)
    (s : Option Addr) (l c : Nat) (bs : List UInt8) (hy : a.eval y = .slice s l c) (hs : Src w s l bs) (hl : l ≤ 1000000)
    (hK : ∀ g' cap w', g ≤ g' → (∃ cur, w'.heap[g']? = some (.cells cur 5 (0, 0)) ∧ l ≤ cur.size ∧ cur.toList.take l = bs.map cell) → w.grownBy w' (some g) → K (a.put o.dst (.slice (some ⟨g', 0, none⟩) l cap)) w') :
    if Region.wanted o (yielded ops a.tmps) = true then Oper.wp Try.prog o a w K Q else E := by
  have hw : Region.wanted o (yielded ops a.tmps) = true := by simp [Region.wanted, hg]
  rw [if_pos hw]
  obtain ⟨g', cap, w', hrun, h1, h2, h3⟩ := run_bytes w g o.type hb s l c bs hs hl
  have hfin := hK g' cap w' h1 h2 h3
  unfold Oper.wp
  simp [execOp, hop, resolve, invoke, builtin, hx, hy, hrun, Result.andThen]
  exact hfin

section
variable {w w' : World} {q : Nat} {s s' : VS} {v : Value} {P : List (Nat × Nat)}
theorem rows_one (P : List (Nat × Nat)) : ∀ u, u ∈ P.map rowV → u.oneCell' = true := by
  intro u hu
  obtain ⟨x, -, rfl⟩ := List.mem_map.1 hu
  rfl

/-- A page in a place: the table f is new, and so is the page's block. -/
theorem RV.page_set {s' : VS} {f c g0 cp : Nat} {bs : List UInt8} {m : Nat} (h : RV w q s (.slice (some ⟨f, 0, none⟩) s.L.length c) P) (hm : m < s.L.length) (hs : s' = ⟨s.L.set m bs, s.pr, s.pw, s.cr, s.cw⟩)
    (hb : bs.length = 4096) (hp : ∃ cur, w.heap[g0]? = some (.cells cur 5 (0, 0)) ∧ 4096 ≤ cur.size ∧ cur.toList.take 4096 = bs.map cell) (hfP : f ∉ P.map Prod.fst) :
    RV (w.setCell ⟨f, m, none⟩ (.slice (some ⟨g0, 0, none⟩) 4096 cp)) q s' (.slice (some ⟨f, 0, none⟩) s.L.length c) (P.set m (g0, cp)) := by
  obtain ⟨cg, hg, hg2, hg3⟩ := hp
  have hfq : f ≠ q := fun e => h.nq (by rw [← e]; simp [Value.ownBlock])
  obtain ⟨cur, hf, ht⟩ : ∃ cur, w.heap[f]? = some (.cells cur 29 (0, 0)) ∧ (s.L.length ≤ c ∧ c ≤ maxLen ∧ cur.size = c * 1 ∧ cur.toList.take (s.L.length * 1) = P.map rowV) := by
    rcases h.table.2 with ⟨e, _⟩ | ⟨f', c', cur, e, _, h2, h3, h6, h4, h5⟩
    · cases e
    · simp only [Value.slice.injEq, Option.some.injEq, Addr.mk.injEq] at e
      obtain ⟨⟨rfl, _⟩, _, rfl⟩ := e
      exact ⟨cur, h2, h3, h6, h4, h5⟩
  have hgf : g0 ≠ f := fun e => by rw [e, hf] at hg; simp at hg
  have hgq : g0 ≠ q := fun e => by rw [e, h.head] at hg; simp at hg
  have ho : ∀ b, b ≠ f → (w.setCell ⟨f, m, none⟩ (.slice (some ⟨g0, 0, none⟩) 4096 cp)).heap[b]? = w.heap[b]? := fun b hb => heap_setCell_other w ⟨f, m, none⟩ b _ (by first | exact hb | exact hb.symm)
  subst hs
  refine ⟨(ho q hfq.symm).trans h.head, ?_, by simp [h.num], fun i x p hx hp => ?_, by simp only [List.length_set]; exact h.len, fun p hp => (List.mem_or_eq_of_mem_set hp).elim (h.page p) fun e => e ▸ hb, fun hmem => ?_⟩
  · simp only [List.length_set]
    refine ⟨by simp [h.num], .inr ⟨f, c, _, rfl, Nat.zero_le _, heap_setCell_same w f m _ _ _ hf, ht.1, ht.2.1, by simpa using ht.2.2.1, ?_⟩⟩
    rw [Array.toList_setIfInBounds, List.take_set, ht.2.2.2, List.map_set]
    rfl
  · by_cases e : m = i
    · subst e
      rw [List.getElem?_set_self (by rw [h.num]; exact hm)] at hx
      rw [List.getElem?_set_self hm] at hp
      cases hx
      cases hp
      exact ⟨cg, _, (ho g0 hgf).trans hg, by rw [hb]; exact hg2, by rw [hb]; exact hg3⟩
    · rw [List.getElem?_set_ne e] at hx hp
      refine (h.pages i x p hx hp).kept (ho x.1 fun e2 => hfP ?_)
      rw [← e2]
      exact List.mem_map.2 ⟨x, List.mem_of_getElem? hx, rfl⟩
  · simp only [List.mem_append, Option.mem_toList, Value.ownBlock, List.mem_map] at hmem
    rcases hmem with hmem | ⟨x, hx, e⟩
    · exact hfq (Option.some.inj hmem)
    · rcases List.mem_or_eq_of_mem_set hx with hx | rfl
      · exact h.nq (by simp only [List.mem_append, List.mem_map]; exact .inr ⟨x, hx, e⟩)
      · exact hgq e

theorem RV.cellT {f c m : Nat} {x : Nat × Nat} (h : RV w q s (.slice (some ⟨f, 0, none⟩) s.L.length c) P) (hx : P[m]? = some x) : w.cell? ⟨f, m, none⟩ = some (rowV x) ∧ w.frozen? ⟨f, m, none⟩ = false := by
  refine ⟨?_, ?_⟩
  · have := h.table.cells (g := f) rfl m (rowV x) (by simp [hx])
    rwa [Addr.add_mid, Nat.zero_add] at this
  · rcases h.table.2 with ⟨e, _⟩ | ⟨f', c', cur, e, _, h2, _⟩
    · cases e
    · simp only [Value.slice.injEq, Option.some.injEq, Addr.mk.injEq] at e
      obtain ⟨⟨rfl, _⟩, _, rfl⟩ := e
      exact frozen_of_row _ _ _ _ _ h2
/-- The table is another block with the same rows. -/
theorem RV.retable (h : RV w q s v P) {f c : Nat} (hh : w'.heap[q]? = some (.cells #[.slice (some ⟨f, 0, none⟩) s.L.length c, .int .i64 s.pr, .int .i64 s.pw, .int .i64 s.cr, .int .i64 s.cw] 49 (0, 0)))
    (hr : w'.ownsRow 0 29 1 (.slice (some ⟨f, 0, none⟩) s.L.length c) s.L.length (P.map rowV)) (hk : ∀ b, b ∈ P.map Prod.fst → w'.heap[b]? = w.heap[b]?) (hf : f ≠ q) : RV w' q s (.slice (some ⟨f, 0, none⟩) s.L.length c) P := by
  refine ⟨hh, hr, h.num, fun i x p hx hp => (h.pages i x p hx hp).kept (hk x.1 (List.mem_map.2 ⟨x, List.mem_of_getElem? hx, rfl⟩)), h.len, h.page, fun hm => ?_⟩
  simp only [List.mem_append, Option.mem_toList, Value.ownBlock] at hm
  rcases hm with hm | hm
  · exact hf (Option.some.inj hm)
  · exact h.nq (by simp [hm])

set_option maxHeartbeats 2000000 in
theorem rf_write (h : RV w q s v P) {k : Int} (hk : s.Ok k) (hk2 : k ≤ 1000000) (i : Int) (sl' : Option Addr) (l c' : Nat) (bs : List UInt8) (hsrc : Src w sl' l bs) (hl : l ≤ 1000000) (hne : 0 < l → ∀ ad, sl' = some ad → ad.block ≠ q) :
    Calls Try.prog 14 #[.pointer (some ⟨q, 0, none⟩), .int .i64 i, .slice sl' l c'] w fun e w' => e = .returned (.int .i64 (writeV s i bs).1) ∧ ∃ v' P', RV w' q (writeV s i bs).2 v' P' ∧ Turn [q] w w' ∧ ∀ b, b ∈ blocksV q v' P' → b ∈ blocksV q v P ∨ w.heap.size ≤ b := by
  obtain ⟨c0, c1, c2, c3, c4⟩ := h.at
  obtain ⟨a, c, hv, hat⟩ := h.tab
  have hlen := h.len
  have hbl := hsrc.1
  have HF := Lib.hid (rf_failW h hk hk2)
  have HH := Lib.hid h
  by_cases hs : s.has i
  · obtain ⟨m, rfl⟩ := Int.eq_ofNat_of_zero_le hs.1
    have hm : m < s.L.length := by have := hs.2; omega
    have d0 : decide ((m : Int) < 0) = false := decide_eq_false (by omega)
    have d1 : decide ((m : Int) ≥ (s.L.length : Int)) = false := decide_eq_false (by omega)
    have d2 : decide (s.L.length ≤ m) = false := decide_eq_false (by omega)
    by_cases hb : bs.length = 4096
    · have hl4 : l = 4096 := by omega
      subst hl4
      by_cases h1 : s.pw = 1
      · rw [show writeV s m bs = (6, failW s) by unfold writeV failW decV; rw [if_pos ⟨hs, hb⟩, if_pos h1, if_neg (by omega), h1]; rfl]
        rw [decide_eq_true h1] at HF
        subst hv
        clear h hs hat hk h1 hsrc hb
        go_enter Try.func14, Try.ntmps14
        go_wp2_with fail
        refine HF.out.mono ?_
        rintro e w2 ⟨rfl, h2, g2⟩
        have H2 := Lib.hid h2
        have HG := Lib.hid g2
        clear h2 g2
        go_wp2_with fail
        go_ret
        exact ⟨rfl, _, P, H2.out, Turn.one HG.out (by simp), fun b hb => .inl hb⟩
      · rw [show writeV s m bs = (0, ⟨s.L.set m bs, s.pr, decV s.pw, s.cr, s.cw + 1⟩) by unfold writeV; rw [if_pos ⟨hs, hb⟩, if_neg h1, Int.toNat_natCast]]
        rw [decide_eq_false h1] at HF
        have HX := Lib.hid hsrc
        have HNe := Lib.hid hne
        have HBl := Lib.hid hb
        have hl0 : 1 ≤ s.L.length := by omega
        obtain ⟨x, hx⟩ : ∃ x, P[m]? = some x := ⟨_, List.getElem?_eq_getElem (by rw [h.num]; exact hm)⟩
        obtain ⟨f0, rfl, -⟩ := hat m x hx
        have HXm := Lib.hid hx
        subst hv
        clear h hs hat hk h1 hsrc hb hne hx
        go_enter Try.func14, Try.ntmps14
        go_wp2_with fail
        refine HF.out.mono ?_
        rintro e w2 ⟨rfl, h2, g2⟩
        have gc := World.grownBy_alloc w2 (.cells #[] 29 (0, 0)) none
        have HN := Lib.hid (heap_alloc_new w2 (.cells #[] 29 (0, 0)))
        have HC := Lib.hid (h2.grow gc)
        obtain ⟨k0, -⟩ := (h2.grow gc).at
        have fk := (h2.grow gc).frozen 0
        have hqlt := h2.qlt
        have HQ := Lib.hid hqlt
        have H2 := Lib.hid h2
        have HG2 := Lib.hid g2
        have HGc := Lib.hid gc
        clear h2 g2 gc hqlt
        go_wp2_with (at_builtin; refine wpList_tab rfl _ _ rfl HN.out rfl rfl HC.out.table (rows_one P) hl0 hlen ?_; intro g9 c9 w9 hle9 hrow9 gr9; have HR9 := Lib.hid hrow9; have HLE := Lib.hid hle9; have G9 := Lib.hid gr9; have hp9 := (gr9.block q HC.out.qlt (fun e => (by have := HQ.out; have := Option.some.inj e; omega))).trans HC.out.head; have cp9 : w9.cell? ⟨q, 0, none⟩ = some (.slice (some ⟨f0, 0, none⟩) s.L.length c) := (by rw [cell_of_row _ _ _ _ _ _ hp9]; rfl); have fp9 := frozen_of_row w9 q 0 _ _ hp9; have HP9 := Lib.hid hp9; clear hp9 hle9 hrow9 gr9)
        have hg9q : g9 ≠ q := by have := HLE.out; have := HQ.out; omega
        have hP9 : ∀ b, b ∈ P.map Prod.fst → b < w2.heap.size := fun b hb => H2.out.lt b (by unfold blocksV; simp [hb])
        have g29 := grown_at HGc.out G9.out (Nat.le_refl _)
        have ho : ∀ b, b ≠ q → (w9.setCell ⟨q, 0, none⟩ (.slice (some ⟨g9, 0, none⟩) s.L.length c9)).heap[b]? = w9.heap[b]? := fun b hb => heap_setCell_other w9 ⟨q, 0, none⟩ b _ (by first | exact hb | exact hb.symm)
        have hh10 := heap_setCell_same w9 q 0 _ _ (.slice (some ⟨g9, 0, none⟩) s.L.length c9) HP9.out
        have h10 : RV (w9.setCell ⟨q, 0, none⟩ (.slice (some ⟨g9, 0, none⟩) s.L.length c9)) q (failW s) (.slice (some ⟨g9, 0, none⟩) s.L.length c9) P := by
          refine H2.out.retable hh10 (own_kept HR9.out fun g hg => ?_) (fun b hb => ?_) hg9q
          · have e : g9 = g := Option.some.inj hg
            rw [← e]; exact ho g9 hg9q
          · rw [ho b (fun e => by rw [e] at hb; exact H2.out.nq (by simp [hb]))]
            exact g29.block b (hP9 b hb) (by simp)
        have g10 := grown_trans HG2.out (grown_trans (grown_none g29) (grown_set w9 q 0 (.slice (some ⟨g9, 0, none⟩) s.L.length c9)))
        have hsz10 : (w9.setCell ⟨q, 0, none⟩ (.slice (some ⟨g9, 0, none⟩) s.L.length c9)).heap.size = w9.heap.size := by simp
        generalize w9.setCell ⟨q, 0, none⟩ (.slice (some ⟨g9, 0, none⟩) s.L.length c9) = w10 at *
        have gD := World.grownBy_alloc w10 (.cells #[] 5 (0, 0)) none
        have HD := Lib.hid gD
        have HND := Lib.hid (heap_alloc_new w10 (.cells #[] 5 (0, 0)))
        have HSD := Lib.hid (show Src (w10.alloc (.cells #[] 5 (0, 0))).drew sl' 4096 bs from ((HX.out.kept g10 (fun ad e => by intro e2; exact HNe.out (by omega) ad e (Option.some.inj e2).symm)).kept gD (by simp)).grown (grown_drew1 _))
        have H10 := Lib.hid h10
        have G10 := Lib.hid g10
        have k10 := h10.at.1
        have kD : (w10.alloc (.cells #[] 5 (0, 0))).cell? ⟨q, 0, none⟩ = some (.slice (some ⟨g9, 0, none⟩) s.L.length c9) := Lib.cell?_alloc_some _ k10
        have HS9 := Lib.hid (show g9 < w10.heap.size from h10.lt g9 (by unfold blocksV; simp [Value.ownBlock]))
        have HPf := Lib.hid (show g9 ∉ P.map Prod.fst from fun hm => by have := hP9 g9 hm; have := HLE.out; omega)
        have HPl := Lib.hid hP9
        have HW2 := Lib.hid HG2.out.size
        clear h10 g10 gD ho hh10 hsz10 g29 hP9 cp9 fp9 k0 fk
        go_region_law (refine step_bytes rfl _ _ rfl w10.heap.size HND.out rfl sl' 4096 c' bs rfl HSD.out (by omega) ?_; intro g11 c11 w11 hle11 hb11 gr11; have g1011 := grown_at (grown_then HD.out) gr11 (Nat.le_refl _); have h11 := H10.out.grow g1011; have k11 := h11.at.1; obtain ⟨y11, z11⟩ := RV.cellT (s := failW s) h11 HXm.out; have H11 := Lib.hid h11; have HB11 := Lib.hid hb11; have HLE11 := Lib.hid hle11; have G11 := Lib.hid g1011; clear hle11 hb11 gr11 g1011 h11)
        all_goals
          go_wp2_with fail
          go_ret
          refine ⟨rfl, _, P.set m (g11, c11), RV.page_set (s := failW s) H11.out hm rfl HBl.out HB11.out HPf.out, ?_, fun b hb => ?_⟩
          · refine ((Turn.one G10.out (by simp)).trans' (Turn.grown G11.out)).trans (O' := [g9]) (Turn.setCell [g9] _ g9 m _ (by simp)) fun b hb => ?_
            right
            have hb1 : b = g9 := by simpa using hb
            have := HLE.out
            have := HW2.out
            omega
          · unfold blocksV at hb ⊢
            simp only [List.mem_cons, List.mem_append, Option.mem_toList, Value.ownBlock, List.mem_map] at hb ⊢
            rcases hb with rfl | hb | ⟨y, hy, rfl⟩
            · exact .inl (.inl rfl)
            · right
              have hb1 : g9 = b := Option.some.inj hb
              have := HLE.out
              have := HW2.out
              omega
            · rcases List.mem_or_eq_of_mem_set hy with hy | rfl
              · exact .inl (.inr (.inr ⟨y, hy, rfl⟩))
              · right
                have := HLE11.out
                have := G10.out.size
                show w.heap.size ≤ g11
                omega
    · rw [show writeV s m bs = (2, s) from if_neg (fun k => hb k.2)]
      have hb2 : ((l : Int) != 4096) = true := bne_iff_ne.2 (by omega)
      subst hv
      clear h hs hat hk hsrc hb
      go_enter Try.func14, Try.ntmps14
      go_wp2_with fail
      go_ret
      exact ⟨rfl, _, P, HH.out, Turn.refl _ _, fun b hb => .inl hb⟩
  · rw [show writeV s i bs = (2, s) from if_neg (fun k => hs k.1)]
    have hc := has_cases s i hs
    subst hv
    clear h hs hat hk hsrc
    rcases hc with d0 | ⟨d0, d1⟩
    all_goals
      go_enter Try.func14, Try.ntmps14
      go_wp2_with fail
      go_ret
      exact ⟨rfl, _, P, HH.out, Turn.refl _ _, fun b hb => .inl hb⟩
end
end Go.Proofs.Ytnfofhnjeinmfaa
