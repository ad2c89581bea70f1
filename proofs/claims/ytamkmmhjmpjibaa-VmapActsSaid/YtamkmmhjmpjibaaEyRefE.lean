/- Layer 15: Cut, the document's. -/
import Derived.Test.YtamkmmhjmpjibaaEyClipR
namespace Go.Proofs.Ytamkmmhjmpjibaa
open Go.ChangeShapes Go.WideShapes Go.ChangeAt Go.RowKit Go.Deep Go.Sort
set_option linter.unusedVariables false

/-- 'append(l, x)', behind the block in which x is laid; and where it stands then. -/
theorem wpList_epushX {ops : Array Oper} {rest : List Oper} {o : Oper} {a : Act} {Q : Exit → Act → World → Prop} (w : World) (hgd : o.guard = none) (s x : Operand)
    (ho : o.op = .call { callee := .builtin .append, args := #[s, x], argTypes := #[27, 27] }) (base : Nat) (v : Value) (xs : List En) (y : En) (hs : a.eval s = v) (h : EOwn w base v xs) (H c : Nat)
    (hx : a.eval x = .slice (some ⟨H, 0, none⟩) 1 c) (hH : w.heap.size = H) (hl : xs.length ≤ 1000000) (hbase : base ≤ H)
    (hK : ∀ g cap w', EOwn w' base (.slice (some ⟨g, 0, none⟩) (xs.length + 1) cap) (xs ++ [y]) → (w.alloc (.cells #[.int .i64 y.s, .int .i64 y.e, .int .i64 y.f, .int .i64 y.o, .bool y.sh, .int .i64 y.p, .int .i64 y.m, .int .i64 y.i, .int .i64 y.a, .bool y.wi] 31)).grownBy w' v.ownBlock → (v.ownBlock = some g ∨ w.heap.size ≤ g) → wpList Try.prog ops Q rest (a.put o.dst (.slice (some ⟨g, 0, none⟩) (xs.length + 1) cap)) w') :
    wpList Try.prog ops Q (o :: rest) a (w.alloc (.cells #[.int .i64 y.s, .int .i64 y.e, .int .i64 y.f, .int .i64 y.o, .bool y.sh, .int .i64 y.p, .int .i64 y.m, .int .i64 y.i, .int .i64 y.a, .bool y.wi] 31)) := by
  obtain ⟨i0, hi, hz0, hz1, hz2⟩ := info_parts info_en
  subst hH
  refine wpList_append_lies _ hgd s x 27 ho base 31 i0 (.agg #[.int .i64 0, .int .i64 0, .int .i64 0, .int .i64 0, .bool false, .int .i64 0, .int .i64 0, .int .i64 0, .int .i64 0, .bool false]) 10 80 Try.underlying27 hi hz0 hz1 hz2 rfl (by decide) v xs.length (xs.flatMap enCells) hs (World.ownsRow.alloc h _) ⟨w.heap.size, 0, none⟩ 1 c (enCells y) hx rfl ?_ (en_one y) (by omega) (by unfold maxLen; omega) (by omega) (by simp; omega) (w.heap.size + 1) (by simp) ?_
  · exact World.news_of_block (heap_alloc_new w _)
  · intro g cap w' hown hgrow hat hlt
    refine hK g cap w' ?_ hgrow (hat.imp id fun e => by omega)
    unfold EOwn OwnOf
    simp only [List.length_append, List.length_cons, List.length_nil, List.flatMap_append, List.flatMap_cons, List.flatMap_nil, List.append_nil]
    exact hown
/-- Two rows in the making. -/
structure Mk2 (w wr : World) (v v' : Value) (A B : List En) : Prop where
  grown : w.grownBy wr none
  l : EOwn wr w.heap.size v A
  r : EOwn wr w.heap.size v' B
  ne : ∀ b, v.ownBlock = some b → v'.ownBlock ≠ some b
section
variable {w wr w2 : World} {v v' u : Value} {A B C : List En} {o : Obj} {g c l : Nat}
theorem Mk2.grow (h : Mk2 w wr v v' A B) (hg : wr.grownBy w2 none) : Mk2 w w2 v v' A B := ⟨grown_trans h.grown hg, OwnOf.grow h.l hg, OwnOf.grow h.r hg, h.ne⟩
theorem Mk2.swap (h : Mk2 w wr v v' A B) : Mk2 w wr v' v B A := ⟨h.grown, h.r, h.l, fun b h1 h2 => h.ne b h2 h1⟩
theorem Mk2.left (h : Mk2 w wr v v' A B) (hown : EOwn w2 w.heap.size (.slice (some ⟨g, 0, none⟩) l c) C) (hg : (wr.alloc o).grownBy w2 v.ownBlock) (hat : v.ownBlock = some g ∨ wr.heap.size ≤ g) : Mk2 w w2 (.slice (some ⟨g, 0, none⟩) l c) v' C B := by
  refine ⟨grown_own (grown_trans h.grown (World.grownBy_alloc wr o none)) hg fun x hx => (OwnOf.lt h.l hx).1, hown, OwnOf.kept h.r fun b hb => ?_, fun b hb hb2 => ?_⟩
  · have hlt := (OwnOf.lt h.r hb).2
    exact (hg.block b (by simp; omega) (fun e => h.ne b e.symm hb)).trans ((World.grownBy_alloc wr o none).block b hlt (by simp))
  · have e : g = b := by simpa [Value.ownBlock] using hb
    subst e
    have hlt := (OwnOf.lt h.r hb2).2
    rcases hat with h1 | h1
    · exact h.ne g h1 hb2
    · omega
end
theorem filter_take {p : En → Bool} {M : List En} {q : Nat} {x : En} (hx : M[q]? = some x) : (M.take (q + 1)).filter p = (M.take q).filter p ++ (if p x = true then [x] else []) := by
  rw [takel_at hx, List.filter_append]
  cases h : p x <;> simp [h]
set_option maxRecDepth 100000 in
set_option maxHeartbeats 4000000 in
theorem refCut_ok {w : World} {s : Option Addr} {L : List En} (c : Nat) (h : ERow w (.slice s L.length c) L) (hr : RF 0 L) (hl : L.length ≤ 1000) (lo hi : Int) :
    Calls Try.prog 59 #[.slice s L.length c, .int .i64 lo, .int .i64 hi] w fun e w' => ∃ u v, e = .returned (.tuple #[u, v]) ∧ EOwn w' w.heap.size u (leftE L lo hi) ∧ EOwn w' w.heap.size v (goneE L lo hi) ∧ w.grownBy w' none := by
  have HC1 := Lib.hid (refClip_ok c h hr (by omega) lo)
  have hr1 := rf_clip lo hr
  have hl1 := (clip_len_le lo hr).2
  have hl2 := (clip_len_le hi hr1).2
  obtain ⟨M, hM⟩ : ∃ M, bothE L lo hi = M := ⟨_, rfl⟩
  have hML : M.length ≤ 2000 := by rw [← hM]; unfold bothE; omega
  have hM2 : clipE (clipE L lo) hi = M := hM
  have HC2 := Lib.hid (fun (W : World) (a : Option Addr) (c' : Nat) (hh : ERow W (.slice a (clipE L lo).length c') (clipE L lo)) => refClip_ok c' hh hr1 (by omega) hi)
  rw [hM2] at HC2
  have eL : leftE L lo hi = M.filter fun x => !inB lo hi x := by unfold leftE; rw [hM]
  have eG : goneE L lo hi = M.filter (inB lo hi) := by unfold goneE; rw [hM]
  rw [eL, eG]
  obtain ⟨L1, hL1⟩ : ∃ L1, clipE L lo = L1 := ⟨_, rfl⟩
  rw [hL1] at HC1 HC2
  clear h hr hr1 hl1 hl2 hM hM2 eL eG hL1
  go_enter Try.func59, Try.ntmps59
  go_wp2_with fail
  refine HC1.out.mono ?_
  rintro e w2 ⟨u, rfl, hown, g2⟩
  obtain ⟨a1, c1, hvf⟩ := OwnOf.form hown
  subst hvf
  have HG2 := Lib.hid g2
  have HCc := Lib.hid (HC2.out w2 a1 c1 (eown_row hown))
  clear hown g2
  go_wp2_with fail
  refine HCc.out.mono ?_
  rintro e w3 ⟨u, rfl, hown, g3⟩
  obtain ⟨a2, c2, hvf⟩ := OwnOf.form hown
  subst hvf
  have HX := Lib.hid (eown_row hown)
  have HG3 := Lib.hid (grown_trans HG2.out g3)
  have HI := Lib.hid (show Mk2 w3 w3 (.slice none 0 0) (.slice none 0 0) ((M.take 0).filter fun x => !inB lo hi x) ((M.take 0).filter (inB lo hi)) from ⟨grown_refl _ _, OwnOf.nil _ _, OwnOf.nil _ _, fun b hb => by cases hb⟩)
  clear hown g3
  go_wp2_with fail
  go_loopw [8, 9, 18] (fun vl vg iv wr => ∃ q : Nat, q ≤ M.length ∧ iv = .int .i64 q ∧ Hid (Mk2 w3 wr vl vg ((M.take q).filter fun x => !inB lo hi x) ((M.take q).filter (inB lo hi)))) (fun _ _ iv _ => M.length - (intOf iv).toNat)
  case atStart => exact ⟨0, by omega, rfl, HI⟩
  case round =>
    clear HI
    obtain ⟨q, hq, rfl, HJ⟩ := hrel
    by_cases hlt : q < M.length
    · obtain ⟨x, hx⟩ : ∃ x, M[q]? = some x := ⟨_, List.getElem?_eq_getElem hlt⟩
      obtain ⟨g, o, c3, hv1, ka0, ka1, ka2, ka3, ka4, ka5, ka6, ka7, ka8, ka9⟩ := en_cells (erow_grow HX.out HJ.out.grown) hx
      injection hv1 with e1 e2 e3
      subst e1 e3
      have hNl := filter_take (p := fun x => !inB lo hi x) hx
      have hNg := filter_take (p := inB lo hi) hx
      have hl1 : ((M.take q).filter fun x => !inB lo hi x).length ≤ 2000 := by have := List.length_filter_le (fun x => !inB lo hi x) (M.take q); rw [List.length_take] at this; omega
      have hl2 : ((M.take q).filter (inB lo hi)).length ≤ 2000 := by have := List.length_filter_le (inB lo hi) (M.take q); rw [List.length_take] at this; omega
      obtain ⟨A, hA⟩ : ∃ A, (M.take q).filter (fun x => !inB lo hi x) = A := ⟨_, rfl⟩
      obtain ⟨B, hB⟩ : ∃ B, (M.take q).filter (inB lo hi) = B := ⟨_, rfl⟩
      rw [hA] at hNl hl1 HJ
      rw [hB] at hNg hl2 HJ
      have hkx := (EnB.new wr x).all
      obtain ⟨va, vc, hvf⟩ := OwnOf.form HJ.out.l
      subst hvf
      obtain ⟨vb, vd, hvf⟩ := OwnOf.form HJ.out.r
      subst hvf
      have HJ3 := Lib.hid (show Mk2 w3 (wr.alloc (.cells #[.int .i64 x.s, .int .i64 x.e, .int .i64 x.f, .int .i64 x.o, .bool x.sh, .int .i64 x.p, .int .i64 x.m, .int .i64 x.i, .int .i64 x.a, .bool x.wi] 31)) _ _ A B from HJ.out.grow (grown_box wr x))
      obtain ⟨k0, k1, k2, k3, k4, k5, k6, k7, k8, k9⟩ := hkx
      by_cases h1 : x.s ≥ lo
      · have b0 : decide (x.s ≥ lo) = true := decide_eq_true h1
        by_cases h2 : x.e ≤ hi
        · have b1 : decide (x.e ≤ hi) = true := decide_eq_true h2
          have hin : inB lo hi x = true := decide_eq_true ⟨h1, h2⟩
          simp only [hin, Bool.not_true, Bool.false_eq_true, if_false, List.append_nil, if_true] at hNl hNg
          have HNl := Lib.hid hNl
          have HNg := Lib.hid hNg
          clear hx hA hB hNl hNg HJ h1 h2 hin
          go_upto_region 5 with fail
          generalize hwb : wr.alloc (.cells #[.int .i64 x.s, .int .i64 x.e, .int .i64 x.f, .int .i64 x.o, .bool x.sh, .int .i64 x.p, .int .i64 x.m, .int .i64 x.i, .int .i64 x.a, .bool x.wi] 31) = wb at *
          clear hwb
          go_wp2_with (at_builtin; refine wpList_epushX wb rfl _ _ rfl w3.heap.size _ B x (by rfl) HJ3.out.r wb.heap.size _ (by rfl) rfl (by omega) HJ3.out.grown.size ?_; intro g8 cap8 w8 hown8 hg8 hat8; have HJ8 := Lib.hid (Mk2.left (Mk2.swap HJ3.out) hown8 hg8 hat8); clear hown8 hg8 hat8)
          go_roundw
          case rel => exact ⟨q + 1, by omega, by go_num, by rw [HNl.out, HNg.out]; exact Mk2.swap HJ8.out⟩
          case measure => simp [intOf]; omega
        · have b1 : decide (x.e ≤ hi) = false := decide_eq_false h2
          have hin : inB lo hi x = false := decide_eq_false fun h => h2 h.2
          simp only [hin, Bool.not_false, Bool.false_eq_true, if_false, List.append_nil, if_true] at hNl hNg
          have HNl := Lib.hid hNl
          have HNg := Lib.hid hNg
          clear hx hA hB hNl hNg HJ h1 h2 hin
          go_upto_region 5 with fail
          generalize hwb : wr.alloc (.cells #[.int .i64 x.s, .int .i64 x.e, .int .i64 x.f, .int .i64 x.o, .bool x.sh, .int .i64 x.p, .int .i64 x.m, .int .i64 x.i, .int .i64 x.a, .bool x.wi] 31) = wb at *
          clear hwb
          go_wp2_with (at_builtin; refine wpList_epushX wb rfl _ _ rfl w3.heap.size _ A x (by rfl) HJ3.out.l wb.heap.size _ (by rfl) rfl (by omega) HJ3.out.grown.size ?_; intro g8 cap8 w8 hown8 hg8 hat8; have HJ8 := Lib.hid (Mk2.left HJ3.out hown8 hg8 hat8); clear hown8 hg8 hat8)
          go_roundw
          case rel => exact ⟨q + 1, by omega, by go_num, by rw [HNl.out, HNg.out]; exact HJ8⟩
          case measure => simp [intOf]; omega
      · have b0 : decide (x.s ≥ lo) = false := decide_eq_false h1
        have hin : inB lo hi x = false := decide_eq_false fun h => h1 h.1
        simp only [hin, Bool.not_false, Bool.false_eq_true, if_false, List.append_nil, if_true] at hNl hNg
        have HNl := Lib.hid hNl
        have HNg := Lib.hid hNg
        clear hx hA hB hNl hNg HJ h1 hin
        go_upto_region 5 with fail
        generalize hwb : wr.alloc (.cells #[.int .i64 x.s, .int .i64 x.e, .int .i64 x.f, .int .i64 x.o, .bool x.sh, .int .i64 x.p, .int .i64 x.m, .int .i64 x.i, .int .i64 x.a, .bool x.wi] 31) = wb at *
        clear hwb
        go_wp2_with (at_builtin; refine wpList_epushX wb rfl _ _ rfl w3.heap.size _ A x (by rfl) HJ3.out.l wb.heap.size _ (by rfl) rfl (by omega) HJ3.out.grown.size ?_; intro g8 cap8 w8 hown8 hg8 hat8; have HJ8 := Lib.hid (Mk2.left HJ3.out hown8 hg8 hat8); clear hown8 hg8 hat8)
        go_roundw
        case rel => exact ⟨q + 1, by omega, by go_num, by rw [HNl.out, HNg.out]; exact HJ8⟩
        case measure => simp [intOf]; omega
    · obtain rfl : q = M.length := by omega
      rw [List.take_length] at HJ
      obtain ⟨va, vc, hvf⟩ := OwnOf.form HJ.out.l
      subst hvf
      obtain ⟨vb, vd, hvf⟩ := OwnOf.form HJ.out.r
      subst hvf
      go_wp2_with fail
      go_ret2
      exact ⟨_, _, rfl, OwnOf.lower HJ.out.l HG3.out.size, OwnOf.lower HJ.out.r HG3.out.size, grown_trans HG3.out HJ.out.grown⟩
end Go.Proofs.Ytamkmmhjmpjibaa
