/- The laws of layer 15: any right list clipped, merged, cut, and with any entry more. -/
import Derived.Test.YtklmlimfhgonjaaEyLawA
namespace Go.Proofs.Ytklmlimfhgonjaa
open Go.ChangeShapes Go.WideShapes Go.ChangeAt Go.RowKit Go.Deep Go.Sort
set_option linter.unusedVariables false

theorem ins_len (L : List En) (x : En) : (insE L x).1.length ≤ L.length + 1 := by
  unfold insE
  split
  · rw [put_len]; exact Nat.le_refl _
  · simp
theorem left_len {L : List En} {b : Int} (lo hi : Int) (h : RF b L) : (leftE L lo hi).length ≤ L.length + 2 := by
  have h1 := (clip_len_le lo h).2
  have h2 := (clip_len_le hi (rf_clip lo h)).2
  have h3 := List.length_filter_le (fun x => !inB lo hi x) (bothE L lo hi)
  unfold leftE
  unfold bothE at *
  omega
theorem gone_len {L : List En} {b : Int} (lo hi : Int) (h : RF b L) : (goneE L lo hi).length ≤ L.length + 2 := by
  have h1 := (clip_len_le lo h).2
  have h2 := (clip_len_le hi (rf_clip lo h)).2
  have h3 := List.length_filter_le (inB lo hi) (bothE L lo hi)
  unfold goneE
  unfold bothE at *
  omega
set_option maxRecDepth 100000 in
set_option maxHeartbeats 8000000 in
theorem cuts_law (W : World) {s : Option Addr} {c : Nat} {L : List En} (h : EC W (.slice s L.length c) L) (hk : ∀ x, x ∈ L → OkE x) (z : En) (hz : OkE z) (x y : Int) :
    Calls Try.prog 5 #[.slice s L.length c, .agg #[.int .i64 z.s, .int .i64 z.e, .int .i64 z.f, .int .i64 z.o, .bool z.sh, .int .i64 z.p, .int .i64 z.m, .int .i64 z.i, .int .i64 z.a, .bool z.wi], .agg #[.int .i64 x, .int .i64 y]] W fun e w' => e = .returned (.bool true) ∧ W.grownBy w' none := by
  have hlv := lives_ok
  have HLv := Lib.hid hlv
  have hg1 : W.grownBy ((W.alloc (.cells #[.int .i64 z.s, .int .i64 z.e, .int .i64 z.f, .int .i64 z.o, .bool z.sh, .int .i64 z.p, .int .i64 z.m, .int .i64 z.i, .int .i64 z.a, .bool z.wi] 25)).alloc (.cells #[.int .i64 x, .int .i64 y] 28)) none := grown_trans (World.grownBy_alloc _ _ _) (World.grownBy_alloc _ _ _)
  have hrow := erow_grow h.1 hg1
  cases hR : (decide (L.length ≤ 100) && rightB L) with
  | false =>
    have HRt := Lib.hid (lawRight_ok c hrow hk false hR)
    have HG1 := Lib.hid hg1
    clear h hk hR hrow hg1 hlv
    go_enter Try.func5, Try.ntmps5
    go_wp2_with fail
    refine HRt.out.mono ?_
    rintro e w2 ⟨rfl, g2⟩
    have HG2 := Lib.hid (grown_trans HG1.out g2)
    clear g2
    go_wp2_with fail
    refine (HLv.out _).mono ?_
    rintro e w4 ⟨rfl, g4⟩
    have HB4 := Lib.hid (grown_trans HG2.out g4)
    clear g4
    go_wp2_with fail
    go_ret
    exact ⟨rfl, HB4.out⟩
  | true =>
    obtain ⟨hl, hr⟩ := right_parts hR
    have HRt := Lib.hid (lawRight_ok c hrow hk true hR)
    have hl1 := left_len x y hr
    have hl2 := gone_len x y hr
    have hl3 := ins_len L z
    have hl4 := (clip_len_le x hr).2
    have hl5 := merge_len L
    obtain ⟨Lf, hLf⟩ : ∃ Lf, leftE L x y = Lf := ⟨_, rfl⟩
    obtain ⟨Gn, hGn⟩ : ∃ Gn, goneE L x y = Gn := ⟨_, rfl⟩
    obtain ⟨In, dI, hIn⟩ : ∃ In dI, insE L z = (In, dI) := ⟨_, _, rfl⟩
    obtain ⟨Cl, hCl⟩ : ∃ Cl, clipE L x = Cl := ⟨_, rfl⟩
    obtain ⟨Mg, hMg⟩ : ∃ Mg, mergeE L = Mg := ⟨_, rfl⟩
    have h1 := fun w' (g : W.grownBy w' none) => cut_ok (h.grow g) hr (by omega) x y
    have h2 := fun w' (g : W.grownBy w' none) => refCut_ok c (erow_grow h.1 g) hr (by omega) x y
    have h3 := fun w' (g : W.grownBy w' none) => insert_ok (h.grow g) hr (by omega) z hz
    have h4 := fun w' (g : W.grownBy w' none) => refInsert_ok c (erow_grow h.1 g) hr (by omega) z hz
    have h5 := fun w' (g : W.grownBy w' none) => clip_ok (h.grow g) hr (by omega) x
    have h6 := fun w' (g : W.grownBy w' none) => refClip_ok c (erow_grow h.1 g) hr (by omega) x
    have h7 := fun w' (g : W.grownBy w' none) => merge_ok c (erow_grow h.1 g) hr (by omega)
    have h8 := fun w' (g : W.grownBy w' none) => refMerge_ok c (erow_grow h.1 g) hr (by omega)
    rw [hLf] at hl1
    rw [hGn] at hl2
    rw [hIn] at hl3
    rw [hCl] at hl4 h5 h6
    rw [hMg] at hl5 h7 h8
    rw [hLf, hGn] at h1 h2
    rw [hIn] at h3 h4
    simp only at hl3 h3 h4
    have H1 := Lib.hid h1
    have H2 := Lib.hid h2
    have H3 := Lib.hid h3
    have H4 := Lib.hid h4
    have H5 := Lib.hid h5
    have H6 := Lib.hid h6
    have H7 := Lib.hid h7
    have H8 := Lib.hid h8
    have HG1 := Lib.hid hg1
    have HBz := Lib.hid (show EnB ((W.alloc (.cells #[.int .i64 z.s, .int .i64 z.e, .int .i64 z.f, .int .i64 z.o, .bool z.sh, .int .i64 z.p, .int .i64 z.m, .int .i64 z.i, .int .i64 z.a, .bool z.wi] 25)).alloc (.cells #[.int .i64 x, .int .i64 y] 28)) W.heap.size z from (EnB.new W z).grow (World.grownBy_alloc _ _ _))
    have hbx := heap_alloc_new (W.alloc (.cells #[.int .i64 z.s, .int .i64 z.e, .int .i64 z.f, .int .i64 z.o, .bool z.sh, .int .i64 z.p, .int .i64 z.m, .int .i64 z.i, .int .i64 z.a, .bool z.wi] 25)) (.cells #[.int .i64 x, .int .i64 y] 28)
    rw [World.size_alloc] at hbx
    have HBx := Lib.hid hbx
    have q2 : (dI == dI) = true := by simp
    clear h hk hR hrow hg1 hlv h1 h2 h3 h4 h5 h6 h7 h8 hLf hGn hIn hCl hMg hbx hr hz
    go_enter Try.func5, Try.ntmps5
    go_wp2_with fail
    refine HRt.out.mono ?_
    rintro e w2 ⟨rfl, g2⟩
    have HG2 := Lib.hid (grown_trans HG1.out g2)
    have hb := (g2.block (W.heap.size + 1) (by simp) (by simp)).trans HBx.out
    have HBz2 := Lib.hid (HBz.out.grow g2)
    have k0 : w2.cell? ⟨W.heap.size + 1, 0, none⟩ = some (.int .i64 x) := by rw [cell_of_row _ _ _ _ _ _ hb]; rfl
    have k1 : w2.cell? ⟨W.heap.size + 1, 1, none⟩ = some (.int .i64 y) := by rw [cell_of_row _ _ _ _ _ _ hb]; rfl
    have HA := Lib.hid (H1.out w2 HG2.out)
    clear g2 hb
    go_wp2_with fail
    refine HA.out.mono ?_
    rintro e w3 ⟨u1, u2, rfl, hown1, hown2, g3⟩
    obtain ⟨a1, c1, hvf⟩ := eown_form hown1
    subst hvf
    obtain ⟨a2, c2, hvf⟩ := eown_form hown2
    subst hvf
    have HO1 := Lib.hid (eown_row hown1)
    have HO2 := Lib.hid (eown_row hown2)
    have HG3 := Lib.hid (grown_trans HG2.out g3)
    have HBz3 := Lib.hid (HBz2.out.grow g3)
    have m0 := g3.cell k0 (by simp)
    have m1 := g3.cell k1 (by simp)
    have HB := Lib.hid (H2.out w3 HG3.out)
    clear g3 k0 k1 hown1 hown2
    go_wp2_with fail
    refine HB.out.mono ?_
    rintro e w4 ⟨u3, u4, rfl, hown1, hown2, g4⟩
    obtain ⟨a3, c3, hvf⟩ := eown_form hown1
    subst hvf
    obtain ⟨a4, c4, hvf⟩ := eown_form hown2
    subst hvf
    have HG4 := Lib.hid (grown_trans HG3.out g4)
    have HS1 := Lib.hid (fun w' (g : w4.grownBy w' none) => same_ok c1 c3 (erow_grow (erow_grow HO1.out g4) g) (erow_grow (eown_row hown1) g) (by omega) true (by simp))
    have HS2 := Lib.hid (fun w' (g : w4.grownBy w' none) => same_ok c2 c4 (erow_grow (erow_grow HO2.out g4) g) (erow_grow (eown_row hown2) g) (by omega) true (by simp))
    have HBz4 := Lib.hid (HBz3.out.grow g4)
    have hz4 := HBz4.out.all
    have k0 := g4.cell m0 (by simp)
    have k1 := g4.cell m1 (by simp)
    have HC := Lib.hid (H3.out w4 HG4.out)
    obtain ⟨z0, z1, z2, z3, z4, z5, z6, z7, z8, z9⟩ := hz4
    clear g4 m0 m1 hown1 hown2
    go_wp2_with fail
    refine HC.out.mono ?_
    rintro e w5 ⟨u5, rfl, hown, g5⟩
    obtain ⟨a5, c5, hvf⟩ := eown_form hown
    subst hvf
    have HO5 := Lib.hid (eown_row hown)
    have HG5 := Lib.hid (grown_trans HG4.out g5)
    have HG45 := Lib.hid g5
    have m0 := g5.cell k0 (by simp)
    have HD := Lib.hid (H4.out w5 HG5.out)
    obtain ⟨y0, y1, y2, y3, y4, y5, y6, y7, y8, y9⟩ := (HBz4.out.grow g5).all
    clear g5 k0 k1 hown z0 z1 z2 z3 z4 z5 z6 z7 z8 z9
    go_wp2_with fail
    refine HD.out.mono ?_
    rintro e w6 ⟨u6, rfl, hown, g6⟩
    obtain ⟨a6, c6, hvf⟩ := eown_form hown
    subst hvf
    have HS3 := Lib.hid (fun w' (g : w6.grownBy w' none) => same_ok c5 c6 (erow_grow (erow_grow HO5.out g6) g) (erow_grow (eown_row hown) g) (by omega) true (by simp))
    have HG6 := Lib.hid (grown_trans HG5.out g6)
    have HG46 := Lib.hid (grown_trans HG45.out g6)
    have k0 := g6.cell m0 (by simp)
    have HK6 := Lib.hid (fun w' (g : w6.grownBy w' none) => g.cell k0 (by simp))
    have gD := grown_drew1 w6
    have hk1 := HK6.out _ gD
    have GG := Lib.hid gD
    clear g6 m0 hown y0 y1 y2 y3 y4 y5 y6 y7 y8 y9 k0 gD
    go_upto_region 7 with fail
    go_region_held3 (fun w' => w'.cell? ⟨W.heap.size + 1, 0, none⟩ = some (.int .i64 x)) (first | exact hk1 | fail)
      (first
        | (go_at_call 27; with_reducible refine ((HS1.out _ (grown_trans HG46.out GG.out)).mono ?_); rintro e w7 ⟨rfl, g7⟩; replace GG := Lib.hid (grown_trans GG.out g7); replace hk1 := HK6.out _ GG.out; clear g7 HS1)
        | (go_at_call 27; with_reducible refine ((HS2.out _ (grown_trans HG46.out GG.out)).mono ?_); rintro e w7 ⟨rfl, g7⟩; replace GG := Lib.hid (grown_trans GG.out g7); replace hk1 := HK6.out _ GG.out; clear g7 HS2)
        | (go_at_call 27; with_reducible refine ((HS3.out _ GG.out).mono ?_); rintro e w7 ⟨rfl, g7⟩; replace GG := Lib.hid (grown_trans GG.out g7); replace hk1 := HK6.out _ GG.out; clear g7 HS3)
        | (go_at_call 28; with_reducible refine ((H5.out _ (grown_trans HG6.out GG.out)).mono ?_); rintro e w7 ⟨u7, rfl, hown, g7⟩; obtain ⟨a7, c7, hvf⟩ := eown_form hown; subst hvf; have HO7 := Lib.hid (eown_row hown); replace GG := Lib.hid (grown_trans GG.out g7); replace hk1 := HK6.out _ GG.out; clear g7 hown H5)
        | (go_at_call 29; with_reducible refine ((H6.out _ (grown_trans HG6.out GG.out)).mono ?_); rintro e w8 ⟨u8, rfl, hown, g8⟩; obtain ⟨a8, c8, hvf⟩ := eown_form hown; subst hvf; have HS4 := Lib.hid (same_ok c7 c8 (erow_grow HO7.out g8) (eown_row hown) (by omega) true (by simp)); replace GG := Lib.hid (grown_trans GG.out g8); replace hk1 := HK6.out _ GG.out; clear g8 hown H6)
        | (go_at_call 27; with_reducible refine (HS4.out.mono ?_); rintro e w9 ⟨rfl, g9⟩; replace GG := Lib.hid (grown_trans GG.out g9); replace hk1 := HK6.out _ GG.out; clear g9 HS4)
        | (go_at_call 30; with_reducible refine ((H7.out _ (grown_trans HG6.out GG.out)).mono ?_); rintro e w10 ⟨u10, rfl, hown, g10⟩; obtain ⟨a10, c10, hvf⟩ := eown_form hown; subst hvf; have HO10 := Lib.hid (eown_row hown); replace GG := Lib.hid (grown_trans GG.out g10); replace hk1 := HK6.out _ GG.out; clear g10 hown H7)
        | (go_at_call 31; with_reducible refine ((H8.out _ (grown_trans HG6.out GG.out)).mono ?_); rintro e w11 ⟨u11, rfl, hown, g11⟩; obtain ⟨a11, c11, hvf⟩ := eown_form hown; subst hvf; have HS5 := Lib.hid (same_ok c10 c11 (erow_grow HO10.out g11) (eown_row hown) (by omega) true (by simp)); replace GG := Lib.hid (grown_trans GG.out g11); replace hk1 := HK6.out _ GG.out; clear g11 hown H8)
        | (go_at_call 27; with_reducible refine (HS5.out.mono ?_); rintro e w12 ⟨rfl, g12⟩; replace GG := Lib.hid (grown_trans GG.out g12); replace hk1 := HK6.out _ GG.out; clear g12 HS5)
        | (go_at_call 11; with_reducible refine ((HLv.out _).mono ?_); rintro e w13 ⟨rfl, g13⟩; replace GG := Lib.hid (grown_trans GG.out g13); replace hk1 := HK6.out _ GG.out; clear g13)
        | fail)
    go_wp2_with fail
    go_ret
    exact ⟨rfl, grown_trans HG6.out GG.out⟩
end Go.Proofs.Ytklmlimfhgonjaa
