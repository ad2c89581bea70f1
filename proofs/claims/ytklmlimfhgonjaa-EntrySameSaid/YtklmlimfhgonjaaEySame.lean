/- The laws of layer 15: clipping and merging change no page's entry; what is cut out and inserted again is there. -/
import Derived.Test.YtklmlimfhgonjaaEyLike
namespace Go.Proofs.Ytklmlimfhgonjaa
open Go.ChangeShapes Go.WideShapes Go.ChangeAt Go.RowKit Go.Deep Go.Sort
set_option linter.unusedVariables false

/-- A list that has what another one has. -/
structure AlikeL (L M : List En) : Prop where
  rf : RF 0 M
  len : M.length ≤ 1000
  page : ∀ pg, pageOf L pg = pageOf M pg
/-- What is put back, entry by entry. -/
theorem put_next {A G C : List En} {q : Nat} {x : En} (h : RF 0 (A ++ (G ++ C))) (hx : G[q]? = some x) : insE (A ++ G.take q ++ C) x = (A ++ G.take (q + 1) ++ C, true) := by
  have hs : (A ++ G.take q ++ x :: C).Sublist (A ++ (G ++ C)) := by
    rw [show A ++ G.take q ++ x :: C = A ++ (G.take (q + 1) ++ C) by rw [takel_at hx]; simp]
    exact List.Sublist.append (List.Sublist.refl A) (List.Sublist.append (List.take_sublist _ _) (List.Sublist.refl C))
  have hr := rf_sub h hs
  obtain ⟨h1, h2⟩ := put_between hr
  have hg := (rf_good hr x (by simp)).1
  rw [ins_yes ((goodB_iff x).2 hg) h2, h1, takel_at hx]
  simp
theorem rf_part {A G C : List En} {q : Nat} (h : RF 0 (A ++ (G ++ C))) : RF 0 (A ++ G.take q ++ C) := by
  refine rf_sub h ?_
  rw [List.append_assoc]
  exact List.Sublist.append (List.Sublist.refl A) (List.Sublist.append (List.take_sublist _ _) (List.Sublist.refl C))
theorem cut_parts {L : List En} (lo hi : Int) (hr : RF 0 L) : ∃ A G C, leftE L lo hi = A ++ C ∧ goneE L lo hi = G ∧ bothE L lo hi = A ++ (G ++ C) := by
  obtain ⟨q1, q2, q3⟩ := cut_at (rf_both lo hi hr) both_none _ _ rfl rfl
  exact ⟨_, _, _, q1, q2, q3⟩
theorem parts_any {w : World} {B c1 c2 c3 : Nat} {a1 a2 a3 : Option Addr} {P Q R : List En} (hn : w.heap[B]? = some (.cells #[.slice a1 P.length c1, .slice a2 Q.length c2, .slice a3 R.length c3] 22 (0, 0))) (hP : EC w (.slice a1 P.length c1) P) (hQ : EC w (.slice a2 Q.length c2) Q) (hR : EC w (.slice a3 R.length c3) R) :
    EParts w (.slice (some ⟨B, 0, none⟩) [P, Q, R].length [P, Q, R].length) [P, Q, R] := parts_three hn hP hQ hR
set_option maxRecDepth 100000 in
set_option maxHeartbeats 8000000 in
theorem same_law (W : World) {s : Option Addr} {c : Nat} {L : List En} (h : EC W (.slice s L.length c) L) (hk : ∀ x, x ∈ L → OkE x) (a p : Int) (ha : okI a) (hp : okI p) :
    Calls Try.prog 6 #[.slice s L.length c, .int .i64 a, .int .i64 p] W fun e w' => e = .returned (.bool true) ∧ W.grownBy w' none := by
  have hlv := lives_ok
  have HLv := Lib.hid hlv
  have hg1 := grown_refl W none
  cases hR : (decide (L.length ≤ 100) && rightB L) with
  | false =>
    have HRt := Lib.hid (lawRight_ok c (erow_grow h.1 hg1) hk false hR)
    have HG1 := Lib.hid hg1
    clear h hk hR hg1 hlv
    go_enter Try.func6, Try.ntmps6
    go_wp2_with fail
    refine HRt.out.mono ?_
    rintro e w2 ⟨rfl, g2⟩
    have HG2 := Lib.hid (grown_trans HG1.out g2)
    clear g2
    go_wp2_with fail
    refine (HLv.out _).mono ?_
    rintro e w4 ⟨rfl, g4⟩
    have HB4 := Lib.hid (grown_trans HG2.out g4)
    clear g4
    go_wp2_with fail
    go_ret
    exact ⟨rfl, HB4.out⟩
  | true =>
    obtain ⟨hl, hr⟩ := right_parts hR
    have HRt := Lib.hid (lawRight_ok c h.1 hk true hR)
    have hlc := clip_len_le a hr
    have hrc := rf_clip a hr
    have hlm := merge_len L
    have hlmc := merge_len (clipE L a)
    have hmc := merge_clip L a
    obtain ⟨P, hP⟩ : ∃ P, clipE L a = P := ⟨_, rfl⟩
    obtain ⟨Q, hQ⟩ : ∃ Q, mergeE L = Q := ⟨_, rfl⟩
    have aP : AlikeL L P := ⟨by rw [← hP]; exact hrc, by rw [← hP]; omega, fun pg => by rw [← hP, page_clip]⟩
    have aQ : AlikeL L Q := ⟨by rw [← hQ]; exact rf_merge hr, by rw [← hQ]; omega, fun pg => by rw [← hQ, page_merge hr]⟩
    rw [hP, hQ] at hmc
    have h1 := fun w' (g : W.grownBy w' none) => clip_ok (h.grow g) hr (by omega) a
    have h2 := fun w' (g : W.grownBy w' none) => merge_ok c (erow_grow h.1 g) hr (by omega)
    have h3 := fun w' s' c' (hh : ERow w' (.slice s' P.length c') P) => merge_ok c' hh aP.rf (by have := aP.len; omega)
    rw [hP] at h1
    rw [hQ] at h2
    rw [hmc] at h3
    have hAll : ∀ M, M ∈ [P, Q, Q] → AlikeL L M := fun M hM => by
      simp only [List.mem_cons, List.not_mem_nil, or_false] at hM
      rcases hM with rfl | rfl | rfl
      · exact aP
      · exact aQ
      · exact aQ
    have hlr := fun M (hA : AlikeL L M) (s' : Option Addr) (c' : Nat) (w' : World) (hh : ERow w' (.slice s' M.length c') M) => right_ok c' hh (fun x hx => ((rf_good hA.rf x hx).1).ok) (by have := hA.len; omega)
    have hlk := fun M (hA : AlikeL L M) (s' : Option Addr) (c' : Nat) (w' : World) (g : W.grownBy w' none) (hh : ERow w' (.slice s' M.length c') M) (pg : Int) => like_ok (erow_grow h.1 g) hh hr hA.rf (by omega) hA.len pg (hA.page pg)
    have hlk2 := fun M (hA : AlikeL L M) (s' : Option Addr) (c' : Nat) (w' : World) (g : W.grownBy w' none) (hh : ERow w' (.slice s' M.length c') M) (pg : Int) => like_ok hh (erow_grow h.1 g) hA.rf hr hA.len (by omega) pg (hA.page pg).symm
    have hct := fun (hi : Int) w' (g : W.grownBy w' none) => cut_ok (h.grow g) hr (by omega) a hi
    have hpt := fun (hi : Int) => cut_parts a hi hr
    have hbl := fun (hi : Int) => show (bothE L a hi).length ≤ 200 ∧ RF 0 (bothE L a hi) ∧ mergeE (bothE L a hi) = Q from by
      have e1 := clip_len_le hi hrc
      refine ⟨by unfold bothE; omega, rf_both a hi hr, ?_⟩
      unfold bothE
      rw [merge_clip, merge_clip, hQ]
    have H1 := Lib.hid h1
    have H2 := Lib.hid h2
    have H3 := Lib.hid h3
    have HAl := Lib.hid hAll
    have HLr := Lib.hid hlr
    have HLk := Lib.hid hlk
    have HLk2 := Lib.hid hlk2
    have HCt := Lib.hid hct
    have HPt := Lib.hid hpt
    have HBl := Lib.hid hbl
    have HQl := Lib.hid aQ.len
    have hpi := hp
    obtain ⟨p0, p1⟩ := hp
    obtain ⟨a0, a1⟩ := ha
    clear h hk hR hg1 hlv h1 h2 h3 hAll hlr hlk hlk2 hct hpt hbl hP hQ aP aQ hr hrc hlc hlm hlmc hmc hpi
    go_enter Try.func6, Try.ntmps6
    go_wp2_with fail
    refine HRt.out.mono ?_
    rintro e w2 ⟨rfl, g2⟩
    have HG2 := Lib.hid g2
    have HA := Lib.hid (H1.out w2 g2)
    clear g2
    go_wp2_with fail
    refine HA.out.mono ?_
    rintro e w3 ⟨u, rfl, hown, g3⟩
    obtain ⟨u1, c1, hvf⟩ := eown_form hown
    subst hvf
    have HR1 := Lib.hid (EOwn.ec hown)
    have HG3 := Lib.hid (grown_trans HG2.out g3)
    have HB := Lib.hid (H2.out w3 HG3.out)
    clear hown g3
    go_wp2_with fail
    refine HB.out.mono ?_
    rintro e w4 ⟨u, rfl, hown, g4⟩
    obtain ⟨u2, c2, hvf⟩ := eown_form hown
    subst hvf
    have HR2 := Lib.hid (EOwn.ec hown)
    have HR1b := Lib.hid (HR1.out.grow g4)
    have HG4 := Lib.hid (grown_trans HG3.out g4)
    have HC := Lib.hid (H1.out w4 HG4.out)
    clear hown g4
    go_wp2_with fail
    refine HC.out.mono ?_
    rintro e w5 ⟨u, rfl, hown, g5⟩
    obtain ⟨u3, c3, hvf⟩ := eown_form hown
    subst hvf
    have HR1c := Lib.hid (HR1b.out.grow g5)
    have HR2c := Lib.hid (HR2.out.grow g5)
    have HG5 := Lib.hid (grown_trans HG4.out g5)
    have HD := Lib.hid (H3.out w5 u3 c3 (EOwn.ec hown).1)
    clear hown g5
    go_wp2_with fail
    refine HD.out.mono ?_
    rintro e w6 ⟨u, rfl, hown, g6⟩
    obtain ⟨u4, c4, hvf⟩ := eown_form hown
    subst hvf
    have hr1 := HR1c.out.grow g6
    have hr2 := HR2c.out.grow g6
    have hr4 := EOwn.ec hown
    have HG6 := Lib.hid (grown_trans HG5.out g6)
    have g7 := World.grownBy_alloc w6 (.cells #[.slice u1 P.length c1, .slice u2 Q.length c2, .slice u4 Q.length c4] 22) none
    have hpts := parts_any (heap_alloc_new w6 _) (hr1.grow g7) (hr2.grow g7) (hr4.grow g7)
    have HPs := Lib.hid hpts
    have HG7 := Lib.hid (grown_trans HG6.out g7)
    obtain ⟨Ps, hPs⟩ : ∃ Ps, [P, Q, Q] = Ps := ⟨_, rfl⟩
    have hlen3 : Ps.length = 3 := by rw [← hPs]; rfl
    rw [hPs] at HPs HAl
    rw [hlen3] at HPs
    clear hown g6 hr1 hr2 hr4 g7 hpts hPs
    go_wp2_with fail
    generalize hw7 : w6.alloc (.cells #[.slice u1 P.length c1, .slice u2 Q.length c2, .slice u4 Q.length c4] 22 (0, 0)) = w7 at *
    obtain ⟨B, hBe⟩ : ∃ B, w6.heap.size = B := ⟨_, rfl⟩
    rw [hBe] at HPs
    simp only [hBe]
    clear hw7 hBe
    go_loopw [29] (fun iv wr => ∃ i : Nat, i ≤ 3 ∧ iv = .int .i64 i ∧ Hid (w7.grownBy wr none)) (fun iv _ => 3 - (intOf iv).toNat)
    case atStart => exact ⟨0, by omega, rfl, grown_refl _ _⟩
    case round =>
      obtain ⟨i, hi, rfl, HB⟩ := hrel
      by_cases hlt : i < 3
      · obtain ⟨M, hM⟩ : ∃ M, Ps[i]? = some M := ⟨_, List.getElem?_eq_getElem (by omega)⟩
        obtain ⟨B', hv, hcs⟩ := HPs.out.grow HB.out
        rw [hlen3] at hv
        injection hv with e1 e2 e3
        injection e1 with e1
        injection e1 with e1 e4
        subst e1
        obtain ⟨v, k0, hec⟩ := hcs i M hM
        obtain ⟨ma, mc, hvf, -⟩ := hec.slice
        subst hvf
        have hA := HAl.out M (List.mem_of_getElem? hM)
        have HGr := Lib.hid (grown_trans HG7.out HB.out)
        have hrt := HLr.out M hA ma mc wr hec.1
        rw [(right_iff M).2 hA.rf] at hrt
        have HRt2 := Lib.hid hrt
        have HEc := Lib.hid hec
        have HA2 := Lib.hid hA
        clear hcs hec hM hA hrt e2 e3 e4
        go_wp2_with fail
        refine HRt2.out.mono ?_
        rintro e w8 ⟨rfl, g8⟩
        have HG8 := Lib.hid (grown_trans HGr.out g8)
        have HB8 := Lib.hid (grown_trans HB.out g8)
        have HE8 := Lib.hid (HEc.out.grow g8)
        have HL1 := Lib.hid (HLk.out M HA2.out ma mc w8 HG8.out HE8.out.1 p)
        clear g8
        go_wp2_with fail
        refine HL1.out.mono ?_
        rintro e w9 ⟨rfl, g9⟩
        have HG9 := Lib.hid (grown_trans HG8.out g9)
        have HB9 := Lib.hid (grown_trans HB8.out g9)
        have HE9 := Lib.hid (HE8.out.grow g9)
        have HL2 := Lib.hid (HLk.out M HA2.out ma mc w9 HG9.out HE9.out.1 a)
        clear g9
        go_wp2_with fail
        refine HL2.out.mono ?_
        rintro e w10 ⟨rfl, g10⟩
        have HG10 := Lib.hid (grown_trans HG9.out g10)
        have HB10 := Lib.hid (grown_trans HB9.out g10)
        have HE10 := Lib.hid (HE9.out.grow g10)
        have HL3 := Lib.hid (HLk2.out M HA2.out ma mc w10 HG10.out HE10.out.1 p)
        clear g10
        go_wp2_with fail
        refine HL3.out.mono ?_
        rintro e w11 ⟨rfl, g11⟩
        have HB11 := Lib.hid (grown_trans HB10.out g11)
        clear g11
        go_wp2_with fail
        go_roundw
        case rel => exact ⟨i + 1, by omega, by go_num, HB11⟩
        case measure => simp [intOf]; omega
      · obtain rfl : i = 3 := by omega
        have HGr := Lib.hid (grown_trans HG7.out HB.out)
        clear HPs HAl HLr HLk HLk2 HRt HA HB HC HD HR1 HR1b HR1c HR2 HR2c
        go_wp2_with fail
        refine (HCt.out _ wr HGr.out).mono ?_
        rintro e w8 ⟨ul, ug, rfl, hown1, hown2, g8⟩
        generalize wrap64 (a.tdiv 2 + p.tdiv 2) = hi at *
        obtain ⟨A, G, C, e1, e2, e3⟩ := HPt.out hi
        obtain ⟨hb1, hb2, hb3⟩ := HBl.out hi
        rw [e1] at hown1
        rw [e2] at hown2
        rw [e3] at hb1 hb2 hb3
        obtain ⟨F, hF⟩ : ∃ F, A ++ C = F := ⟨_, rfl⟩
        rw [hF] at hown1
        have hec0 : EC w8 ul (A ++ G.take 0 ++ C) := by rw [List.take_zero, List.append_nil, hF]; exact EOwn.ec hown1
        have HE0 := Lib.hid hec0
        obtain ⟨gl, gc, hvf⟩ := eown_form hown2
        subst hvf
        obtain ⟨la, lc, hvf⟩ := eown_form hown1
        subst hvf
        have HGo := Lib.hid (eown_row hown2)
        have HG8 := Lib.hid (grown_trans HGr.out g8)
        have HRf := Lib.hid hb2
        have HMg := Lib.hid hb3
        have hlb : A.length + (G.length + C.length) ≤ 200 := by simpa using hb1
        clear hown1 hown2 g8 hb1 hb2 hb3 hec0 e1 e2 e3 hF HPt HBl HCt
        go_wp2_with fail
        go_loopw [9, 71] (fun lv iv wq => ∃ q : Nat, q ≤ G.length ∧ iv = .int .i64 q ∧ Hid (EC wq lv (A ++ G.take q ++ C)) ∧ Hid (w8.grownBy wq none)) (fun _ iv _ => G.length - (intOf iv).toNat)
        case atStart => exact ⟨0, by omega, rfl, HE0, grown_refl _ _⟩
        case round =>
          clear HE0
          obtain ⟨q, hq, rfl, HE, HB8⟩ := hrel
          by_cases hlt2 : q < G.length
          · obtain ⟨x, hx⟩ : ∃ x, G[q]? = some x := ⟨_, List.getElem?_eq_getElem hlt2⟩
            obtain ⟨g, o, c5, hv1, ka0, ka1, ka2, ka3, ka4, ka5, ka6, ka7, ka8, ka9⟩ := en_cells (erow_grow HGo.out HB8.out) hx
            injection hv1 with e1 e2 e3
            subst e1 e3
            have hnx := put_next HRf.out hx
            have hrp := rf_part (q := q) HRf.out
            have hgx : GoodE x := (rf_good HRf.out x (by simp [List.mem_of_getElem? hx])).1
            have hln : (A ++ G.take q ++ C).length ≤ 200 := by simp; omega
            obtain ⟨O, hO⟩ : ∃ O, A ++ G.take q ++ C = O := ⟨_, rfl⟩
            rw [hO] at hnx hrp hln HE
            obtain ⟨oa, oc, hvf, -⟩ := HE.out.slice
            subst hvf
            have hbx : w8.grownBy (wr.alloc (.cells #[.int .i64 x.s, .int .i64 x.e, .int .i64 x.f, .int .i64 x.o, .bool x.sh, .int .i64 x.p, .int .i64 x.m, .int .i64 x.i, .int .i64 x.a, .bool x.wi] 25)) none := grown_trans HB8.out (grown_box _ x)
            have hin := insert_ok (HE.out.grow (grown_box _ x)) hrp (by omega) x hgx.ok
            rw [hnx] at hin
            simp only at hin
            obtain ⟨O2, hO2⟩ : ∃ O2, A ++ G.take (q + 1) ++ C = O2 := ⟨_, rfl⟩
            rw [hO2] at hin
            have HO2 := Lib.hid hO2
            clear hO2
            have HIn := Lib.hid hin
            have HBx := Lib.hid hbx
            clear hx hnx hrp hgx hO hin hbx
            go_wp2_with fail
            refine HIn.out.mono ?_
            rintro e w9 ⟨u, rfl, hown, g9⟩
            obtain ⟨na, nc, hvf⟩ := eown_form hown
            subst hvf
            have HE9 := Lib.hid (EOwn.ec hown)
            have HB9 := Lib.hid (grown_trans HBx.out g9)
            clear hown g9
            go_wp2_with fail
            go_roundw
            case rel => exact ⟨q + 1, by omega, by go_num, by rw [HO2.out]; exact HE9, HB9⟩
            case measure => simp [intOf]; omega
          · obtain rfl : q = G.length := by omega
            rw [List.take_length, List.append_assoc] at HE
            have hln : (A ++ (G ++ C)).length ≤ 200 := by simp; omega
            have hrf := HRf.out
            have hmg := HMg.out
            obtain ⟨N, hN⟩ : ∃ N, A ++ (G ++ C) = N := ⟨_, rfl⟩
            rw [hN] at HE hln hrf hmg
            obtain ⟨oa, oc, hvf, -⟩ := HE.out.slice
            subst hvf
            have hM1 := merge_ok oc HE.out.1 hrf (by omega)
            rw [hmg] at hM1
            have HM1 := Lib.hid hM1
            have HG9 := Lib.hid (grown_trans HG8.out HB8.out)
            clear hM1 hrf hmg hN
            go_wp2_with fail
            refine HM1.out.mono ?_
            rintro e w10 ⟨u, rfl, hown, g10⟩
            obtain ⟨na, nc, hvf⟩ := eown_form hown
            subst hvf
            have HR10 := Lib.hid (eown_row hown)
            have HG10 := Lib.hid (grown_trans HG9.out g10)
            have HM2 := Lib.hid (H2.out w10 HG10.out)
            clear hown g10
            go_wp2_with fail
            refine HM2.out.mono ?_
            rintro e w11 ⟨u, rfl, hown, g11⟩
            obtain ⟨ma, mc, hvf⟩ := eown_form hown
            subst hvf
            have HG11 := Lib.hid (grown_trans HG10.out g11)
            have HS := Lib.hid (same_ok nc mc (erow_grow HR10.out g11) (eown_row hown) (by have := HQl.out; omega) true (by simp))
            clear hown g11
            go_wp2_with fail
            refine HS.out.mono ?_
            rintro e w12 ⟨rfl, g12⟩
            have HG12 := Lib.hid (grown_trans HG11.out g12)
            clear g12
            go_wp2_with fail
            refine (HLv.out _).mono ?_
            rintro e w13 ⟨rfl, g13⟩
            have HG13 := Lib.hid (grown_trans HG12.out g13)
            clear g13
            go_wp2_with fail
            go_ret
            exact ⟨rfl, HG13.out⟩
end Go.Proofs.Ytklmlimfhgonjaa
