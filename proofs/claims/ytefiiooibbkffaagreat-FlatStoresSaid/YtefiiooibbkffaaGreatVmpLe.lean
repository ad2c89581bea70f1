/- Layer 16 (landed): apply, over whatever is done to the entries of a range. Layer 16 (landed): put. Layer 16 (landed): Unmap, Map. -/
import Derived.Test.YtefiiooibbkffaaGreatVmpLc
namespace Go.Proofs.YtefiiooibbkffaaGreat
open Go.ChangeShapes Go.WideShapes Go.ChangeAt Go.RowKit Go.Deep
set_option linter.unusedVariables false
set_option linter.unusedSimpArgs false

/-- The block of a list. -/
def blkL (v : Value) : List Nat := match v.ownBlock with | some b => [b] | none => []
theorem mem_blk {v : Value} {b : Nat} : b ∈ blkL v ↔ v.ownBlock = some b := by
  unfold blkL
  cases v.ownBlock with
  | none => simp
  | some c => simp [eq_comm]
theorem eown_turn {w w' : World} {O : List Nat} {base : Nat} {v : Value} {L : List En} (h : EOwn w base v L) (t : Turn O w w') (hv : ∀ b, v.ownBlock = some b → b ∉ O) : EOwn w' base v L := OwnOf.kept h fun b hb => t.block b (OwnOf.lt h hb).2 (hv b hb)
theorem turn_own {w w' : World} {v : Value} (g : w.grownBy w' v.ownBlock) : Turn (blkL v) w w' := ⟨g.os, g.tape, g.output, g.size, fun k hk hO => g.block k hk fun e => hO (mem_blk.2 e.symm)⟩
theorem mem_cons_app {b x : Nat} {O P : List Nat} : b ∈ x :: (O ++ P) ↔ b = x ∨ b ∈ O ∨ b ∈ P := by simp
/-- What comes of a range: what is ahead of it near it, the new entries, what is behind it. -/
def placeX (L : List En) (lo hi : Int) (F : List En) : List En := (leftE (midE L lo hi) lo hi).take (findK (leftE (midE L lo hi) lo hi) lo) ++ F ++ (leftE (midE L lo hi) lo hi).drop (findK (leftE (midE L lo hi) lo hi) lo)
theorem placeL_X (L : List En) (lo hi : Int) (F : List En) : placeL L lo hi F = L.take (nearF L lo) ++ mergeE (placeX L lo hi F) ++ L.drop (nearB L hi) := rfl
theorem place_rf {L F : List En} (h : MapL L) {lo hi : Int} (hlh : lo < hi) (hF : RF 0 F) (hin : ∀ x, x ∈ F → lo ≤ x.s ∧ x.e ≤ hi) : RF 0 (placeX L lo hi F) := by
  obtain ⟨P, G, S, h1, h2, h3, h4, h5, h6, k1, k2, k3⟩ := place_parts h hlh
  unfold placeX
  rw [h4, h5, List.take_left, List.drop_left]
  have hr : RF 0 (P ++ S) := by rw [← h4]; exact rf_left _ _ (rf_mid h.rf)
  have hp := rf_pair hr
  rw [List.pairwise_append] at hp
  refine rf_mk (fun x hx => ?_) ?_
  · rcases List.mem_append.1 hx with hx | hx
    · rcases List.mem_append.1 hx with hx | hx
      · exact rf_good hr x (by simp [hx])
      · exact rf_good hF x hx
    · exact rf_good hr x (by simp [hx])
  · rw [List.pairwise_append, List.pairwise_append]
    refine ⟨⟨hp.1, rf_pair hF, fun a ha b hb => ?_⟩, hp.2.1, fun a ha b hb => ?_⟩
    · have q1 := k1 a ha
      have q2 := hin b hb
      omega
    · rcases List.mem_append.1 ha with ha | ha
      · exact hp.2.2 a ha b hb
      · have q1 := k3 b hb
        have q2 := hin a ha
        omega
theorem place_len {L F : List En} {b0 : Int} (h : RF b0 L) (lo hi : Int) : (placeX L lo hi F).length ≤ L.length + 2 + F.length := by
  unfold placeX
  have h1 := left_len' lo hi (rf_mid (lo := lo) (hi := hi) h)
  have h2 : (midE L lo hi).length ≤ L.length := by
    unfold midE
    rw [List.length_take, List.length_drop]
    omega
  rw [List.length_append, List.length_append, List.length_take, List.length_drop]
  omega
theorem merge_nn {w : World} {s : Option Addr} {L M : List En} {n : Nat} (c : Nat) (hn : L.length = n) (h : ERow w (.slice s n c) L) (hr : RF 0 L) (hl : L.length ≤ 100000) (hM : mergeE L = M) :
    Calls Tryz.prog 161 #[.slice s n c] w fun e w' => ∃ u, e = .returned u ∧ EOwn w' w.heap.size u M ∧ w.grownBy w' none := by
  subst hn hM
  exact merge_ok c h hr hl
theorem eown_row' {w : World} {base : Nat} {v : Value} {L : List En} (h : EOwn w base v L) : ERow w v L := eown_row h
set_option maxRecDepth 100000 in
set_option maxHeartbeats 8000000 in
theorem apply_ok {w : World} {r : Nat} {v : Value} {L : List En} (h : VM w r v L) (hm : MapL L) (hl : L.length ≤ 900) (lo hi : Int) (h0 : 0 ≤ lo) (h1 : lo < hi) (h2 : lo ≤ 67108864)
    (gf : Nat) (rc cap : Array Value) (eg : ∀ args w, (callFunc gf args).run Tryz.prog w = .ok (.enter gf args) w) (O : List Nat) (hO : ∀ b, b ∈ O → b < w.heap.size ∧ b ≠ r ∧ v.ownBlock ≠ some b) (F : List En) (hFl : F.length ≤ 1000) (er : Int) (P : World → Prop)
    (hP : ∀ w2 w3, w.heap.size ≤ w2.heap.size → P w2 → Turn (r :: blkL v) w2 w3 → P w3)
    (HD : ∀ w1 u c, w.grownBy w1 none → EOwn w1 w.heap.size (.slice u (goneE L lo hi).length c) (goneE L lo hi) → Calls Tryz.prog gf (rc ++ #[.slice u (goneE L lo hi).length c] ++ cap) w1 fun e w2 => ∃ u2, e = .returned (.tuple #[u2, .int .i64 er]) ∧ (er = 0 → EC w2 u2 F ∧ RF 0 (placeX L lo hi F)) ∧ Turn (O ++ blkL (.slice u (goneE L lo hi).length c)) w1 w2 ∧ P w2) :
    Calls Tryz.prog 157 #[.pointer (some ⟨r, 0, none⟩), .int .i64 lo, .int .i64 hi, .func (.func gf) rc cap] w fun e w' => e = .returned (.int .i64 er) ∧ ∃ v', VM w' r v' (if er = 0 then placeL L lo hi F else L) ∧ New w v v' ∧ Turn (r :: (O ++ blkL v)) w w' ∧ P w' := by
  have hnl := near_le L (Int.le_of_lt h1)
  have HN := Lib.hid (near_ok h hm.rf (by omega) lo hi h0 h2)
  obtain ⟨a, c, hv⟩ := h.form
  subst hv
  have hM : ((L.drop (nearF L lo)).take (nearB L hi - nearF L lo)) = midE L lo hi := rfl
  have HC := Lib.hid (fun W (g : w.grownBy W none) => ec_mid (h.grow g).ec hnl.1 hnl.2)
  rw [hM] at HC
  have hrm := rf_mid (lo := lo) (hi := hi) hm.rf
  have hml : (midE L lo hi).length ≤ 900 := by rw [← hM, List.length_take, List.length_drop]; omega
  have HCut := Lib.hid (fun (W : World) (s : Option Addr) (c' : Nat) (hh : EC W (.slice s (midE L lo hi).length c') (midE L lo hi)) => cut_ok hh hrm (by omega) lo hi)
  rw [gone_near hm.rf h1] at HCut
  have hrl := rf_left lo hi hrm
  have hll := left_len' lo hi hrm
  obtain ⟨k, hk⟩ : ∃ k, findK (leftE (midE L lo hi) lo hi) lo = k := ⟨_, rfl⟩
  obtain ⟨d, hd⟩ : ∃ d, hasB (leftE (midE L lo hi) lo hi) lo = d := ⟨_, rfl⟩
  have hkl : k ≤ (leftE (midE L lo hi) lo hi).length := by rw [← hk]; exact findK_le _ _
  have HF := Lib.hid (fun W (s : Option Addr) (c' : Nat) (hh : ERow W (.slice s (leftE (midE L lo hi) lo hi).length c') (leftE (midE L lo hi) lo hi)) => find_ok c' hh hrl (by omega) lo k hk d hd)
  have hX : placeX L lo hi F = (leftE (midE L lo hi) lo hi).take k ++ F ++ (leftE (midE L lo hi) lo hi).drop k := by unfold placeX; rw [hk]
  have hXl := place_len (F := F) hm.rf lo hi
  have HPL := Lib.hid (placeL_X L lo hi F)
  obtain ⟨i, hi'⟩ : ∃ i, nearF L lo = i := ⟨_, rfl⟩
  obtain ⟨j, hj⟩ : ∃ j, nearB L hi = j := ⟨_, rfl⟩
  obtain ⟨Md, hMd⟩ : ∃ Md, midE L lo hi = Md := ⟨_, rfl⟩
  rw [hi', hj] at HN HPL hnl
  rw [hi', hj] at HC
  rw [hMd] at HC HCut HF hll hkl hX hml
  obtain ⟨Lf, hLf⟩ : ∃ Lf, leftE Md lo hi = Lf := ⟨_, rfl⟩
  rw [hLf] at HCut HF hll hkl hX
  obtain ⟨G, hG⟩ : ∃ G, goneE L lo hi = G := ⟨_, rfl⟩
  rw [hG] at HCut
  rw [hG] at HD
  obtain ⟨X, hXX⟩ : ∃ X, placeX L lo hi F = X := ⟨_, rfl⟩
  rw [hXX] at hX hXl HPL HD
  have HHD := Lib.hid HD
  have HX := Lib.hid hX
  have HHO := Lib.hid hO
  have HPP := Lib.hid hP
  have HH := Lib.hid h
  have HXl := Lib.hid (show X.length ≤ 2000 by omega)
  have HLl := Lib.hid (show L.length ≤ 100000 by omega)
  have hrlt := h.lt
  have hij0 : (0 : Int) ≤ (i : Int) := by omega
  have hij1 : (i : Int) ≤ (j : Int) := by omega
  clear hm hG hXX hLf hMd hi' hj hk hd hrm hml hrl hll hX hXl hM HD hO hP h hl
  go_enter Tryz.func157, Tryz.ntmps157
  go_wp2_with fail
  refine HN.out.mono ?_
  rintro e w1 ⟨rfl, g1⟩
  have HG1 := Lib.hid g1
  have c1 := (HH.out.grow g1).at0
  obtain ⟨sm, cm, hq1, hec⟩ := HC.out w1 g1
  have HCc := Lib.hid (HCut.out w1 sm cm hec)
  clear g1 hec
  go_wp2_with fail
  refine HCc.out.mono ?_
  rintro e w2 ⟨u1, u2, rfl, hown1, hown2, hne, g2⟩
  obtain ⟨a1, cc1, hvf⟩ := OwnOf.form hown1
  subst hvf
  obtain ⟨a2, cc2, hvf⟩ := OwnOf.form hown2
  subst hvf
  have HO1 := Lib.hid (eown_lower hown1 HG1.out.size)
  have HO2 := Lib.hid (eown_lower hown2 HG1.out.size)
  have HNE := Lib.hid hne
  have HG2 := Lib.hid (grown_trans HG1.out g2)
  have HDo := Lib.hid (HHD.out w2 a2 cc2 HG2.out HO2.out)
  clear hown1 hown2 hne g2
  have hsz2 := HG2.out.size
  have hrO : ∀ b, b ∈ O ++ blkL (.slice a2 G.length cc2) → b ≠ r ∧ (Value.slice a L.length c).ownBlock ≠ some b ∧ (Value.slice a1 Lf.length cc1).ownBlock ≠ some b := fun b hb => by
    rcases List.mem_append.1 hb with hb | hb
    · obtain ⟨q1, q2, q3⟩ := HHO.out b hb
      exact ⟨q2, q3, fun e => by have := (OwnOf.lt HO1.out e).1; omega⟩
    · have hb2 := mem_blk.1 hb
      have q1 := (OwnOf.lt HO2.out hb2).1
      exact ⟨by omega, fun e => by have := (OwnOf.lt HH.out.own e).2; omega, HNE.out b hb2⟩
  have HRO := Lib.hid hrO
  clear hrO hsz2
  by_cases her : er = 0
  · subst her
    go_wp2_with (go_at_fn gf; refine HDo.out.mono ?_; rintro e w3 ⟨u3, rfl, he3, t3, p3⟩; obtain ⟨hec, hrf⟩ := he3 (by first | trivial | rfl); obtain ⟨a3, c3, hvf, -⟩ := hec.slice; subst hvf; have HE3 := Lib.hid hec; have HRF := Lib.hid hrf; have HT3 := Lib.hid t3; have HP3 := Lib.hid p3; have HL3 := Lib.hid (eown_turn HO1.out t3 fun b hb hm => (HRO.out b hm).2.2 hb); have HV3 := Lib.hid ((HH.out.grow HG2.out).turn t3 (fun hm => (HRO.out r hm).1 rfl) fun b hb hm => (HRO.out b hm).2.1 hb); have HFc := Lib.hid (HF.out w3 a1 cc1 (eown_row HL3.out)); clear he3 t3 p3 hec hrf)
    refine HFc.out.mono ?_
    rintro e w4 ⟨rfl, g4⟩
    have HG4 := Lib.hid g4
    have HE4 := Lib.hid (HE3.out.grow g4)
    have HL4 := Lib.hid (OwnOf.grow HL3.out g4)
    have hecL := EOwn.ec (OwnOf.grow HL3.out g4)
    obtain ⟨b1, e1, hq2, he1⟩ := ec_to hecL hkl
    obtain ⟨b2, e2, hq3, he2⟩ := ec_from hecL hkl
    obtain ⟨T, hT⟩ : ∃ T, Lf.take k = T := ⟨_, rfl⟩
    obtain ⟨D, hD⟩ : ∃ D, Lf.drop k = D := ⟨_, rfl⟩
    have hXT : X = [T, F, D].flatten := by rw [HX.out, hT, hD]; simp
    simp only [hT] at hq2 he1
    simp only [hD] at hq3 he2
    have HE1 := Lib.hid he1
    have HE2 := Lib.hid he2
    clear he1 he2 hecL g4 hT hD
    have gW : w4.grownBy ((w4.alloc (.cells #[.slice b1 T.length e1, .slice a3 F.length c3, .slice b2 D.length e2] 47)).drew) none := grown_trans (World.grownBy_alloc _ _ none) (grown_drew1 _)
    have hPT : EParts ((w4.alloc (.cells #[.slice b1 T.length e1, .slice a3 F.length c3, .slice b2 D.length e2] 47)).drew) (.slice (some ⟨w4.heap.size, 0, none⟩) 3 3) [T, F, D] := parts_three (heap_alloc_new w4 _) (HE1.out.grow gW) (HE4.out.grow gW) (HE2.out.grow gW)
    have hLn : lenAll [T, F, D] ≤ 1000000 := by rw [← lenAll_flat, ← hXT]; exact Nat.le_trans HXl.out (by omega)
    obtain ⟨nn, hnn⟩ : ∃ nn, [T, F, D].flatten.length = nn := ⟨_, rfl⟩
    have HNN := Lib.hid hnn
    have HCC := Lib.hid (concat_ok hPT (by simp) hLn)
    have HW := Lib.hid (grown_trans HG4.out gW)
    obtain ⟨M, hM⟩ : ∃ M, mergeE X = M := ⟨_, rfl⟩
    have HMg := Lib.hid (fun (W : World) (s : Option Addr) (c' : Nat) (hh : ERow W (.slice s nn c') [T, F, D].flatten) => merge_nn (M := M) c' hnn hh (by rw [← hXT]; exact HRF.out) (by rw [← hXT]; exact Nat.le_trans HXl.out (by omega)) (by rw [← hXT]; exact hM))
    have HMX := Lib.hid hM
    have HML := Lib.hid (show M.length ≤ 2000 by rw [← hM]; exact Nat.le_trans (merge_len X) HXl.out)
    have hk0 : (0 : Int) ≤ (k : Int) := by omega
    have hk1 : (k : Int) ≤ (Lf.length : Int) := by omega
    clear hPT gW hnn hLn hXT hM
    go_upto_region 7 with fail
    go_region_held3 (fun _ => True) (trivial)
      (first
        | (go_at_call 185; with_reducible refine HCC.out.mono ?_; rintro e w6 ⟨u6, rfl, hown6, g6⟩; obtain ⟨va, vc, hvf⟩ := eown_form hown6; rw [HNN.out] at hvf; subst hvf; have HG6 := Lib.hid (grown_trans HW.out g6); have HMc := Lib.hid (HMg.out w6 va vc (eown_row' hown6)); clear hown6 g6)
        | (go_at_call 161; with_reducible refine HMc.out.mono ?_; rintro e w7 ⟨u7, rfl, hown7, g7⟩; obtain ⟨vb, vd, hvf⟩ := eown_form hown7; subst hvf; have HO7 := Lib.hid hown7; have HG7 := Lib.hid (grown_trans HG6.out g7); have HS7 := Lib.hid g7.size; clear hown7 g7)
        | fail)
    have HV7 := Lib.hid (HV3.out.grow HG7.out)
    have c7 := HV7.out.at0
    have hvl : ∀ g, (Value.slice a L.length c).ownBlock = some g → (Value.slice vb M.length vd).ownBlock ≠ some g := fun g hg e => by
      have q1 := (OwnOf.lt HH.out.own hg).2
      have q2 := (OwnOf.lt HO7.out e).1
      have q3 := HG2.out.size
      have q4 := HT3.out.size
      have q5 := HG6.out.size
      omega
    have HRp := Lib.hid (replace_ok HV7.out.own HO7.out hvl (by have := HV7.out.lt; omega) HLl.out (Nat.le_trans HML.out (by omega)) i j hnl.1 hnl.2)
    clear hvl
    go_wp2_with fail
    refine HRp.out.mono ?_
    rintro e w8 ⟨v8, rfl, hown8, n8, g8⟩
    obtain ⟨a8, cc8, hvf⟩ := OwnOf.form hown8
    generalize (L.take i ++ M ++ L.drop j).length = q8 at hvf
    subst hvf
    have hd8 : w8.heap[r]? = some (.cells #[.slice a L.length c, .bool true] 164 (0, 0)) := (g8.block r HV7.out.lt (fun e => HV7.out.ne e.symm rfl)).trans HV7.out.head
    have c8 : w8.cell? ⟨r, 0, none⟩ = some (.slice a L.length c) := by rw [cell_of_row _ _ _ _ _ _ hd8]; rfl
    have f8 : w8.frozen? ⟨r, 0, none⟩ = false := frozen_of_row _ _ _ _ _ hd8
    have HV8 := Lib.hid (VM.put hd8 hown8)
    have HN8 := Lib.hid (n8.after (Nat.le_trans HG2.out.size (Nat.le_trans HT3.out.size HG7.out.size)))
    have T37 : Turn (r :: blkL (.slice a L.length c)) w3 (w8.setCell ⟨r, 0, none⟩ (.slice a8 q8 cc8)) := (Turn.grown HG7.out).trans' (((turn_own g8).mono fun b hb => List.mem_cons_of_mem _ hb).trans' (Turn.setCell _ w8 r 0 (.slice a8 q8 cc8) (by simp)))
    have HT := Lib.hid (show Turn (r :: (O ++ blkL (.slice a L.length c))) w (w8.setCell ⟨r, 0, none⟩ (.slice a8 q8 cc8)) from ((Turn.grown HG2.out).trans HT3.out fun b hb => by
        rcases List.mem_append.1 hb with hb | hb
        · exact .inl (mem_cons_app.2 (.inr (.inl hb)))
        · exact .inr (OwnOf.lt HO2.out (mem_blk.1 hb)).1).trans' (T37.mono fun b hb => by
        rcases List.mem_cons.1 hb with hb | hb
        · exact mem_cons_app.2 (.inl hb)
        · exact mem_cons_app.2 (.inr (.inr hb))))
    have HPf := Lib.hid (HPP.out w3 _ (Nat.le_trans HG2.out.size HT3.out.size) HP3.out T37)
    clear hown8 n8 g8 hd8 T37
    go_wp2_with fail
    go_ret
    refine ⟨by first | trivial | rfl, .slice a8 q8 cc8, ?_, HN8.out, HT.out, HPf.out⟩
    first | (rw [if_pos rfl, HPL.out, HMX.out]; exact HV8.out) | (rw [HPL.out, HMX.out]; exact HV8.out)
  · have her2 : (er == 0) = false := by simpa using her
    go_wp2_with (go_at_fn gf; refine HDo.out.mono ?_; rintro e w3 ⟨u3, rfl, he3, t3, p3⟩; have HT3 := Lib.hid t3; have HP3 := Lib.hid p3; have HV3 := Lib.hid ((HH.out.grow HG2.out).turn t3 (fun hm => (HRO.out r hm).1 rfl) fun b hb hm => (HRO.out b hm).2.1 hb); clear he3 t3 p3)
    go_ret
    exact ⟨rfl, _, by first | exact HV3.out | (rw [if_neg her]; exact HV3.out), New.refl _ _, (Turn.grown HG2.out).trans HT3.out fun b hb => by
        rcases List.mem_append.1 hb with hb | hb
        · exact .inl (mem_cons_app.2 (.inr (.inl hb)))
        · exact .inr (OwnOf.lt HO2.out (mem_blk.1 hb)).1, HP3.out⟩
end Go.Proofs.YtefiiooibbkffaaGreat

namespace Go.Proofs.YtefiiooibbkffaaGreat
open Go.ChangeShapes Go.WideShapes Go.ChangeAt Go.RowKit Go.Deep
set_option linter.unusedVariables false
set_option linter.unusedSimpArgs false

theorem EC.turn {w w' : World} {u : Value} {L : List En} {O : List Nat} (h : EC w u L) (t : Turn O w w') (hO : ∀ b, u.ownBlock = some b → b ∉ O) : EC w' u L := ⟨h.1.imp (fun k => row_turn k t hO) id, h.2⟩
theorem eg_put : ∀ args w, (callFunc 183 args).run Tryz.prog w = .ok (.enter 183 args) w := enters_of Tryz.func183 (by kernel_rfl) rfl
theorem put1_ok {w : World} {b0 b1 n c n2 c2 n3 c3 : Nat} {s s2 s3 : Option Addr} (h1 : w.cell? ⟨b1, 0, none⟩ = some (.slice s3 n3 c3)) (f1 : w.frozen? ⟨b1, 0, none⟩ = false) (h0 : w.cell? ⟨b0, 0, none⟩ = some (.slice s2 n2 c2)) (hne : b0 ≠ b1) :
    Calls Tryz.prog 183 #[.slice s n c, .pointer (some ⟨b1, 0, none⟩), .pointer (some ⟨b0, 0, none⟩)] w fun e w' => e = .returned (.tuple #[.slice s2 n2 c2, .int .i64 0]) ∧ w' = w.setCell ⟨b1, 0, none⟩ (.slice s n c) := by
  have k0 : (w.setCell ⟨b1, 0, none⟩ (.slice s n c)).cell? ⟨b0, 0, none⟩ = some (.slice s2 n2 c2) := by
    rw [World.cell?_of_block (heap_setCell_other w ⟨b1, 0, none⟩ b0 _ (by first | exact hne | exact hne.symm))]
    exact h0
  go_enter Tryz.func183, Tryz.ntmps183
  go_wp2_with fail
  go_ret2
  exact ⟨rfl, rfl⟩
set_option maxHeartbeats 4000000 in
theorem put_ok {w : World} {r : Nat} {v : Value} {L : List En} (h : VM w r v L) (hm : MapL L) (hl : L.length ≤ 900) (lo n : Int) (h0 : 0 ≤ lo) (h1 : 1 ≤ n) (h2 : lo ≤ 67108864) (h3 : n ≤ 4096) (F : List En) (hFl : F.length ≤ 1000) (hFr : RF 0 F) (hFi : ∀ x, x ∈ F → lo ≤ x.s ∧ x.e ≤ lo + n)
    (fs : Option Addr) (fc : Nat) (hF : EC w (.slice fs F.length fc) F) (hFb : ∀ b, (Value.slice fs F.length fc).ownBlock = some b → b < w.heap.size) :
    Calls Tryz.prog 153 #[.pointer (some ⟨r, 0, none⟩), .int .i64 lo, .int .i64 n, .slice fs F.length fc] w fun e w' => ∃ u v', e = .returned u ∧ EOwn w' w.heap.size u (goneE L lo (lo + n)) ∧ VM w' r v' (placeL L lo (lo + n) F) ∧ New w v v' ∧ Turn (r :: blkL v) w w' := by
  obtain ⟨f, hf⟩ : ∃ f, F.length = f := ⟨_, rfl⟩
  obtain ⟨w1, hw1⟩ : ∃ w1, (w.alloc (.cells #[.slice fs f fc] 47)).alloc (.cells #[.slice none 0 0] 47) = w1 := ⟨_, rfl⟩
  have g1 : w.grownBy w1 none := by rw [← hw1]; exact grown_trans (World.grownBy_alloc _ _ _) (World.grownBy_alloc _ _ _)
  have hs1 : w1.heap.size = w.heap.size + 2 := by rw [← hw1]; simp
  have hb0 : w1.heap[w.heap.size]? = some (.cells #[.slice fs f fc] 47 (0, 0)) := by rw [← hw1, heap_alloc_old _ _ (by simp)]; exact heap_alloc_new w _
  have hb1 : w1.heap[w.heap.size + 1]? = some (.cells #[.slice none 0 0] 47 (0, 0)) := by rw [← hw1]; exact heap_second w _ _
  obtain ⟨G, hG⟩ : ∃ G, goneE L lo (lo + n) = G := ⟨_, rfl⟩
  have hrl := h.lt
  have hvl : ∀ b, v.ownBlock = some b → b < w.heap.size := fun b hb => (OwnOf.lt h.own hb).2
  have hA := apply_ok (h.grow g1) hm hl lo (lo + n) h0 (by omega) h2 183 #[] #[.pointer (some ⟨w.heap.size + 1, 0, none⟩), .pointer (some ⟨w.heap.size, 0, none⟩)] eg_put [w.heap.size + 1]
    (fun b hb => by
      simp at hb
      subst hb
      exact ⟨by omega, by omega, fun e => by have := hvl _ e; omega⟩) F hFl 0
    (fun w2 => ∃ s c, w2.cell? ⟨w.heap.size + 1, 0, none⟩ = some (.slice s G.length c) ∧ EOwn w2 w.heap.size (.slice s G.length c) G)
    (fun w2 w3 hs hp t => by
      obtain ⟨s, c, q1, q2⟩ := hp
      have hlt : w.heap.size + 1 < w2.heap.size := by omega
      have hnot : ∀ b, w.heap.size ≤ b → b ∉ r :: blkL v := fun b hb hm => by
        rcases List.mem_cons.1 hm with e | e
        · omega
        · have := hvl b (mem_blk.1 e)
          omega
      refine ⟨s, c, ?_, eown_turn q2 t fun b hb => hnot b (OwnOf.lt q2 hb).1⟩
      have hk := t.block (w.heap.size + 1) hlt (hnot _ (by omega))
      rw [World.cell?_of_block (a := ⟨w.heap.size + 1, 0, none⟩) hk]
      exact q1)
    (fun w2 u c hg hu => by
      rw [hG] at hu ⊢
      have q0 : w2.cell? ⟨w.heap.size, 0, none⟩ = some (.slice fs f fc) := by
        have hk := hg.block w.heap.size (by omega) (by simp)
        rw [World.cell?_of_block (a := ⟨w.heap.size, 0, none⟩) hk, cell_of_row _ _ _ _ _ _ hb0]
        rfl
      have hbk : w2.heap[w.heap.size + 1]? = some (.cells #[.slice none 0 0] 47 (0, 0)) := (hg.block _ (by omega) (by simp)).trans hb1
      have q1 : w2.cell? ⟨w.heap.size + 1, 0, none⟩ = some (.slice none 0 0) := by rw [cell_of_row _ _ _ _ _ _ hbk]; rfl
      refine (put1_ok (s := u) (n := G.length) (c := c) q1 (frozen_of_row _ _ _ _ _ hbk) q0 (by omega)).mono ?_
      rintro e w3 ⟨rfl, rfl⟩
      have hub : ∀ b, (Value.slice u G.length c).ownBlock = some b → b ∉ [w.heap.size + 1] := fun b hb hm => by
        have := (OwnOf.lt hu hb).1
        simp at hm
        omega
      have ht : Turn [w.heap.size + 1] w2 (w2.setCell ⟨w.heap.size + 1, 0, none⟩ (.slice u G.length c)) := Turn.setCell _ w2 _ 0 _ (by simp)
      refine ⟨.slice fs f fc, rfl, fun _ => ⟨?_, place_rf hm (by omega) hFr hFi⟩, ht.mono fun b hb => List.mem_append.2 (.inl hb), u, c, ?_, OwnOf.lower (eown_turn hu ht hub) (by omega)⟩
      · rw [← hf]
        exact ((hF.grow g1).grow hg).turn ht fun b hb hm => by
          have := hFb b hb
          simp at hm
          omega
      · rw [cell_of_row _ _ _ _ _ _ (heap_setCell_same w2 _ 0 _ _ _ hbk)]
        rfl)
  rw [if_pos rfl] at hA
  have HA := Lib.hid hA
  have HW1 := Lib.hid hw1
  have hhi : IntKind.i64.wrap (lo + n) = lo + n := by rw [IntKind.wrap_i64]; omega
  rw [hf, hG]
  clear hA hb0 hb1 g1 h hm hl hF hFb hFr hFi hFl
  go_enter Tryz.func153, Tryz.ntmps153
  go_wp2_with fail
  refine HA.out.mono ?_
  rintro e w2 ⟨rfl, v', hv', n', t', s, c, q1, q2⟩
  have HV2 := Lib.hid hv'
  have HN2 := Lib.hid n'
  have HT2 := Lib.hid t'
  have HQ2 := Lib.hid q2
  clear hv' n' t' q2
  go_wp2_with fail
  go_ret
  exact ⟨_, _, rfl, HQ2.out, HV2.out, fun b hb => (HN2.out b hb).imp id fun k => by omega, (Turn.grown (by rw [← HW1.out]; exact grown_trans (World.grownBy_alloc _ _ _) (World.grownBy_alloc _ _ _))).trans HT2.out fun b hb => by
    rcases mem_cons_app.1 hb with e | e | e
    · exact .inl (by simp [e])
    · simp at e
      exact .inr (by omega)
    · exact .inl (List.mem_cons_of_mem _ e)⟩
end Go.Proofs.YtefiiooibbkffaaGreat

namespace Go.Proofs.YtefiiooibbkffaaGreat
open Go.ChangeShapes Go.WideShapes Go.ChangeAt Go.RowKit Go.Deep
set_option linter.unusedVariables false
set_option linter.unusedSimpArgs false

theorem unmap_ok {w : World} {r : Nat} {v : Value} {L : List En} (h : VM w r v L) (hm : MapL L) (hl : L.length ≤ 900) (lo n : Int) (ho : okI lo) (hn : okI n) :
    Calls Tryz.prog 119 #[.pointer (some ⟨r, 0, none⟩), .int .i64 lo, .int .i64 n] w fun e w' => ∃ u v', e = .returned (.tuple #[u, .int .i64 (unmapV L lo n).err]) ∧ EOwn w' w.heap.size u (unmapV L lo n).gone ∧ VM w' r v' (unmapV L lo n).l ∧ New w v v' ∧ Turn (r :: blkL v) w w' := by
  have HA := Lib.hid (asked_ok h lo n ho hn true)
  cases k : rangeV lo n with
  | true =>
    obtain ⟨r1, r2, r3, r4⟩ := range_iff.1 k
    have e : unmapV L lo n = ⟨mergeE (leftE L lo (lo + n)), 0, goneE L lo (lo + n), 0⟩ := by unfold unmapV; rw [if_pos k]
    rw [e]
    have HP := Lib.hid (put_ok h hm hl lo n r1 r2 (by omega) r3 [] (by simp) trivial (fun x hx => by cases hx) none 0 (EC.nil w) (fun b hb => by cases hb))
    rw [place_unmap hm (by omega)] at HP
    rw [k] at HA
    clear e k h hm ho hn
    go_enter Tryz.func119, Tryz.ntmps119
    go_wp2_with fail
    refine HA.out.mono ?_
    rintro e w1 ⟨rfl, e1⟩
    subst e1
    go_wp2_with fail
    refine HP.out.mono ?_
    rintro e w2 ⟨u, v', rfl, q1, q2, q3, q4⟩
    have H1 := Lib.hid q1
    have H2 := Lib.hid q2
    have H3 := Lib.hid q3
    have H4 := Lib.hid q4
    clear q1 q2 q3 q4
    go_wp2_with fail
    go_ret2
    exact ⟨_, _, rfl, H1.out, H2.out, H3.out, H4.out⟩
  | false =>
    have e : unmapV L lo n = ⟨L, 0, [], 2⟩ := by unfold unmapV; rw [k]; rfl
    rw [e]
    rw [k] at HA
    have HH := Lib.hid h
    clear e k h hm ho hn
    go_enter Tryz.func119, Tryz.ntmps119
    go_wp2_with fail
    refine HA.out.mono ?_
    rintro e w1 ⟨rfl, e1⟩
    subst e1
    go_wp2_with fail
    go_ret2
    exact ⟨_, _, rfl, OwnOf.nil _ _, HH.out, New.refl _ _, Turn.refl _ _⟩
/-- A row of one entry, as it is handed in. -/
theorem ec_own {w : World} {B : Nat} {x : En} (hn : w.heap[B]? = some (.cells #[.int .i64 x.s, .int .i64 x.e, .int .i64 x.f, .int .i64 x.o, .bool x.sh, .int .i64 x.p, .int .i64 x.m, .int .i64 x.i, .int .i64 x.a, .bool x.wi] 50 (0, 0))) : EC w (.slice (some ⟨B, 0, none⟩) 1 1) [x] := ec_one hn
theorem may_size (addr : Int) (x : En) (fixed : Bool) : mayB addr x fixed = (sizeB x && (!fixed || rangeV addr (x.e - x.s))) := by
  unfold mayB sizeB
  cases sizedB x <;> cases goodB (moveE x 0) <;> simp
set_option maxHeartbeats 4000000 in
/-- The last steps of Map: the entry is moved and put. -/
theorem map_put {w : World} {r : Nat} {v : Value} {L : List En} (h : VM w r v L) (hm : MapL L) (hl : L.length ≤ 900) (x : En) (a : Int) (h0 : 0 ≤ a) (h1 : a + (x.e - x.s) ≤ 67108864) (h2 : x.s < x.e) (h3 : x.e - x.s ≤ 4096) (hg : GoodE (moveE x 0)) (W : World) (hW : w.grownBy W none) :
    Calls Tryz.prog 153 #[.pointer (some ⟨r, 0, none⟩), .int .i64 a, .int .i64 (x.e - x.s), .slice (some ⟨W.heap.size, 0, none⟩) 1 1] (W.alloc (.cells #[.int .i64 (moveE x a).s, .int .i64 (moveE x a).e, .int .i64 (moveE x a).f, .int .i64 (moveE x a).o, .bool (moveE x a).sh, .int .i64 (moveE x a).p, .int .i64 (moveE x a).m, .int .i64 (moveE x a).i, .int .i64 (moveE x a).a, .bool (moveE x a).wi] 50)) fun e w' => ∃ u v', e = .returned u ∧ EOwn w' w.heap.size u (goneE L a (a + (x.e - x.s))) ∧ VM w' r v' (mergeE (putE (leftE L a (a + (x.e - x.s))) (moveE x a))) ∧ New w v v' ∧ Turn (r :: blkL v) w w' := by
  have g2 := grown_trans hW (World.grownBy_alloc W (.cells #[.int .i64 (moveE x a).s, .int .i64 (moveE x a).e, .int .i64 (moveE x a).f, .int .i64 (moveE x a).o, .bool (moveE x a).sh, .int .i64 (moveE x a).p, .int .i64 (moveE x a).m, .int .i64 (moveE x a).i, .int .i64 (moveE x a).a, .bool (moveE x a).wi] 50) none)
  have hgm := good_move hg h0 h1
  refine (put_ok (h.grow g2) hm hl a (x.e - x.s) h0 (by omega) (by omega) h3 [moveE x a] (by simp) ⟨h0, hgm, trivial⟩ (fun y hy => by simp at hy; subst hy; exact ⟨Int.le_refl _, Int.le_refl _⟩) (some ⟨W.heap.size, 0, none⟩) 1 (ec_own (heap_alloc_new W _)) (fun b hb => by have e : W.heap.size = b := Option.some.inj hb; simp; omega)).mono ?_
  rintro e w' ⟨u, v', rfl, q1, q2, q3, q4⟩
  rw [place_put (lo := a) (hi := a + (x.e - x.s)) (x := moveE x a) hm (by omega) rfl rfl] at q2
  exact ⟨u, v', rfl, OwnOf.lower q1 g2.size, q2, q3.after g2.size, (Turn.grown g2).trans' q4⟩
set_option maxHeartbeats 8000000 in
theorem map_ok {w : World} {r : Nat} {v : Value} {L : List En} (h : VM w r v L) (hm : MapL L) (hl : L.length ≤ 900) (addr : Int) (x : En) (fixed : Bool) (ho : okI addr) (hx : OkN x) :
    Calls Tryz.prog 116 #[.pointer (some ⟨r, 0, none⟩), .int .i64 addr, .agg #[.int .i64 x.s, .int .i64 x.e, .int .i64 x.f, .int .i64 x.o, .bool x.sh, .int .i64 x.p, .int .i64 x.m, .int .i64 x.i, .int .i64 x.a, .bool x.wi], .bool fixed] w fun e w' => ∃ u v', e = .returned (.tuple #[.int .i64 (mapV L addr x fixed).n, u, .int .i64 (mapV L addr x fixed).err]) ∧ EOwn w' w.heap.size u (mapV L addr x fixed).gone ∧ VM w' r v' (mapV L addr x fixed).l ∧ New w v v' ∧ Turn (r :: blkL v) w w' := by
  have HG0 := Lib.hid (World.grownBy_alloc w (.cells #[.int .i64 x.s, .int .i64 x.e, .int .i64 x.f, .int .i64 x.o, .bool x.sh, .int .i64 x.p, .int .i64 x.m, .int .i64 x.i, .int .i64 x.a, .bool x.wi] 50) none)
  have HB0 := Lib.hid (EnB.new w x)
  have HS := Lib.hid (size_ok x hx (w.alloc (.cells #[.int .i64 x.s, .int .i64 x.e, .int .i64 x.f, .int .i64 x.o, .bool x.sh, .int .i64 x.p, .int .i64 x.m, .int .i64 x.i, .int .i64 x.a, .bool x.wi] 50)))
  have HMd := Lib.hid (fun W (g : w.grownBy W none) => made_ok (h.grow g))
  have HH := Lib.hid h
  cases hsz : sizeB x with
  | false =>
    have e : mapV L addr x fixed = ⟨L, 0, [], 2⟩ := by unfold mapV; rw [may_size, hsz]; rfl
    rw [e]
    rw [hsz] at HS
    clear e h hm hsz hx ho hl
    go_enter Tryz.func116, Tryz.ntmps116
    go_wp2_with fail
    refine HS.out.mono ?_
    rintro e w1 ⟨n, rfl, -, -, g1⟩
    have HG1 := Lib.hid (grown_trans HG0.out g1)
    have HMa := Lib.hid (HMd.out w1 HG1.out)
    clear g1
    go_wp2_with fail
    refine HMa.out.mono ?_
    rintro e w2 ⟨rfl, e1⟩
    subst e1
    go_wp2_with fail
    go_ret3
    exact ⟨_, _, rfl, OwnOf.nil _ _, HH.out.grow HG1.out, New.refl _ _, Turn.grown HG1.out⟩
  | true =>
    have hparts : 0 ≤ x.s ∧ x.s < x.e ∧ x.e - x.s ≤ 4096 := by
      unfold sizeB at hsz
      simp only [Bool.and_eq_true] at hsz
      exact sized_iff.1 hsz.1
    have hgood : GoodE (moveE x 0) := by
      unfold sizeB at hsz
      simp only [Bool.and_eq_true] at hsz
      exact (goodB_iff _).1 hsz.2
    obtain ⟨p1, p2, p3⟩ := hparts
    have hon : okI (x.e - x.s) := ⟨by omega, by omega⟩
    rw [hsz] at HS
    cases fixed with
    | true =>
      have HBe := Lib.hid (fun W => mayBe_ok W addr (x.e - x.s) ho hon)
      cases k : rangeV addr (x.e - x.s) with
      | false =>
        have e : mapV L addr x true = ⟨L, 0, [], 2⟩ := by unfold mapV; rw [may_size, hsz, k]; rfl
        rw [e]
        rw [k] at HBe
        clear e k h hm hsz hx ho hl hon hgood
        go_enter Tryz.func116, Tryz.ntmps116
        go_wp2_with fail
        refine HS.out.mono ?_
        rintro e w1 ⟨n, rfl, -, hn, g1⟩
        obtain rfl := hn (by first | trivial | rfl)
        have HG1 := Lib.hid (grown_trans HG0.out g1)
        have HMa := Lib.hid (HMd.out w1 HG1.out)
        have HBa := Lib.hid (HBe.out w1)
        clear g1
        go_wp2_with fail
        refine HMa.out.mono ?_
        rintro e w2 ⟨rfl, e1⟩
        subst e1
        go_wp2_with fail
        refine HBa.out.mono ?_
        rintro e w2 ⟨rfl, e1⟩
        subst e1
        go_wp2_with fail
        go_ret3
        exact ⟨_, _, rfl, OwnOf.nil _ _, HH.out.grow HG1.out, New.refl _ _, Turn.grown HG1.out⟩
      | true =>
        obtain ⟨r1, r2, r3, r4⟩ := range_iff.1 k
        have e : mapV L addr x true = ⟨mergeE (putE (leftE L addr (addr + (x.e - x.s))) (moveE x addr)), addr, goneE L addr (addr + (x.e - x.s)), 0⟩ := by unfold mapV; rw [may_size, hsz, k]; rfl
        rw [e]
        rw [k] at HBe
        have HPut := Lib.hid (map_put h hm hl x addr r1 (by omega) p2 p3 hgood)
        have HMv := Lib.hid (fun W => moved_ok x addr (x.e - x.s) r1 (by omega) (by omega) p3 W)
        rw [putAt_move] at HMv
        clear e k h hm hsz hx ho hl hon hgood
        go_enter Tryz.func116, Tryz.ntmps116
        go_wp2_with fail
        refine HS.out.mono ?_
        rintro e w1 ⟨n, rfl, -, hn, g1⟩
        obtain rfl := hn (by first | trivial | rfl)
        have HG1 := Lib.hid (grown_trans HG0.out g1)
        have HMa := Lib.hid (HMd.out w1 HG1.out)
        have HBa := Lib.hid (HBe.out w1)
        have HMw := Lib.hid (HMv.out w1)
        obtain ⟨q0, q1, q2, q3, q4, q5, q6, q7, q8, q9⟩ := (HB0.out.grow g1).all
        clear g1
        go_wp2_with fail
        refine HMa.out.mono ?_
        rintro e w2 ⟨rfl, e1⟩
        subst e1
        go_wp2_with fail
        refine HBa.out.mono ?_
        rintro e w2 ⟨rfl, e1⟩
        subst e1
        go_wp2_with fail
        refine HMw.out.mono ?_
        rintro e w3 ⟨rfl, g3⟩
        have HG3 := Lib.hid (grown_trans HG1.out g3)
        have HPa := Lib.hid (HPut.out w3 HG3.out)
        clear g3 q0 q1 q2 q3 q4 q5 q6 q7 q8 q9
        go_wp2_with fail
        refine HPa.out.mono ?_
        rintro e w4 ⟨u, v', rfl, k1, k2, k3, k4⟩
        have H1 := Lib.hid k1
        have H2 := Lib.hid k2
        have H3 := Lib.hid k3
        have H4 := Lib.hid k4
        clear k1 k2 k3 k4
        go_wp2_with fail
        go_ret3
        exact ⟨_, _, rfl, H1.out, H2.out, H3.out, H4.out⟩
    | false =>
      obtain ⟨a, c, hv⟩ := h.form
      subst hv
      have HSp := Lib.hid (fun W (g : w.grownBy W none) => space_ok (h.grow g).ec hm.rf (by omega) addr (x.e - x.s))
      cases k : spaceE L addr (x.e - x.s) with
      | none =>
        have e : mapV L addr x false = ⟨L, 0, [], 5⟩ := by unfold mapV; rw [may_size, hsz, k]; rfl
        rw [e]
        have hsv : spaceV L addr (x.e - x.s) = .tuple #[.int .i64 0, .bool false] := by unfold spaceV; rw [k]
        rw [hsv] at HSp
        clear e k h hm hsz hx ho hl hon hgood hsv
        go_enter Tryz.func116, Tryz.ntmps116
        go_wp2_with fail
        refine HS.out.mono ?_
        rintro e w1 ⟨n, rfl, -, hn, g1⟩
        obtain rfl := hn (by first | trivial | rfl)
        have HG1 := Lib.hid (grown_trans HG0.out g1)
        have HMa := Lib.hid (HMd.out w1 HG1.out)
        have HSa := Lib.hid (HSp.out w1 HG1.out)
        have c1 := (HH.out.grow HG1.out).at0
        clear g1
        go_wp2_with fail
        refine HMa.out.mono ?_
        rintro e w2 ⟨rfl, e1⟩
        subst e1
        go_wp2_with fail
        refine HSa.out.mono ?_
        rintro e w3 ⟨rfl, g3⟩
        have HG3 := Lib.hid (grown_trans HG1.out g3)
        clear g3 c1
        go_wp2_with fail
        go_ret3
        exact ⟨_, _, rfl, OwnOf.nil _ _, HH.out.grow HG3.out, New.refl _ _, Turn.grown HG3.out⟩
      | some at' =>
        have e : mapV L addr x false = ⟨mergeE (putE L (moveE x at')), at', [], 0⟩ := by unfold mapV; rw [may_size, hsz, k]; rfl
        rw [e]
        have hsv : spaceV L addr (x.e - x.s) = .tuple #[.int .i64 at', .bool true] := by unfold spaceV; rw [k]
        rw [hsv] at HSp
        obtain ⟨q1, q2, q3⟩ := free_space hm.rf p2 k
        have hfree := (free_iff hm.rf (good_move hgood q1 q2).lt).1 q3
        obtain ⟨f1, f2⟩ := free_same (lo := at') (hi := at' + (x.e - x.s)) hm.rf (by omega) hfree
        have HPut := Lib.hid (map_put h hm hl x at' q1 q2 p2 p3 hgood)
        rw [f1, f2] at HPut
        have HMv := Lib.hid (fun W => moved_ok x at' (x.e - x.s) q1 (by omega) (by omega) p3 W)
        rw [putAt_move] at HMv
        clear e k h hm hsz hx ho hl hon hgood hsv hfree f1 f2 q3
        go_enter Tryz.func116, Tryz.ntmps116
        go_wp2_with fail
        refine HS.out.mono ?_
        rintro e w1 ⟨n, rfl, -, hn, g1⟩
        obtain rfl := hn (by first | trivial | rfl)
        have HG1 := Lib.hid (grown_trans HG0.out g1)
        have HB1 := Lib.hid (HB0.out.grow g1)
        have HMa := Lib.hid (HMd.out w1 HG1.out)
        have HSa := Lib.hid (HSp.out w1 HG1.out)
        have c1 := (HH.out.grow HG1.out).at0
        clear g1
        go_wp2_with fail
        refine HMa.out.mono ?_
        rintro e w2 ⟨rfl, e1⟩
        subst e1
        go_wp2_with fail
        refine HSa.out.mono ?_
        rintro e w3 ⟨rfl, g3⟩
        have HG3 := Lib.hid (grown_trans HG1.out g3)
        have HMw := Lib.hid (HMv.out w3)
        obtain ⟨q0, q1, q2, q3, q4, q5, q6, q7, q8, q9⟩ := (HB1.out.grow g3).all
        clear g3 c1
        go_wp2_with fail
        refine HMw.out.mono ?_
        rintro e w4 ⟨rfl, g4⟩
        have HG4 := Lib.hid (grown_trans HG3.out g4)
        have HPa := Lib.hid (HPut.out w4 HG4.out)
        clear g4 q0 q1 q2 q3 q4 q5 q6 q7 q8 q9
        go_wp2_with fail
        refine HPa.out.mono ?_
        rintro e w5 ⟨u, v', rfl, k1, k2, k3, k4⟩
        have H1 := Lib.hid k1
        have H2 := Lib.hid k2
        have H3 := Lib.hid k3
        have H4 := Lib.hid k4
        clear k1 k2 k3 k4
        go_wp2_with fail
        go_ret3
        exact ⟨_, _, rfl, H1.out, H2.out, H3.out, H4.out⟩
end Go.Proofs.YtefiiooibbkffaaGreat
