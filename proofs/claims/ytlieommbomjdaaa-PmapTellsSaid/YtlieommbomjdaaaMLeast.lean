/- PmapLeast, walked out of what package pmap says. -/
import Derived.Test.YtlieommbomjdaaaMUints
namespace Go.Proofs.Ytlieommbomjdaaa
open Go.ChangeShapes Go.WideShapes Go.ChangeAt Go.RowKit Go.Deep
set_option linter.unusedVariables false

/-- What the law's first loop has. -/
structure LstW (S : SpP) (w wr : World) (m d p x : Nat) (r : Int) (s : MS) (tv mv : Value) (ts ms vs : List Int) (j : Nat) : Prop where
  sp : PXr S w wr m d 128 p x 1 r s (tv.ownBlock.toList ++ mv.ownBlock.toList)
  at_ : LeastAt 128 s r ts ms
  t : IOwn wr w.heap.size tv ts
  m : IOwn wr w.heap.size mv ms
  tl : ts.length ≤ j
  ml : ms.length ≤ j
  in_ : ∀ u, okV u → Lv s r u → ∃ v, v ∈ vs.take j ∧ v % 67108864 = u
theorem LstW.start {S : SpP} {w wr : World} {m d p x : Nat} {r : Int} {s : MS} {vs : List Int} {O OX : List Nat} (h : PX S w wr m d 128 p O x OX 1 r s) (hi : Inv1 128 s 1 r) (hN : s.N = 1) (hno : ∀ u, ¬ Lv s r u) : LstW S w wr m d p x r s (.slice none 0 0) (.slice none 0 0) [] [] vs 0 :=
  ⟨⟨O, OX, h, fun b hb => by simp [Value.ownBlock] at hb⟩, ⟨hi, .nil, .nil, fun t => ⟨fun q => (List.not_mem_nil q).elim, fun ⟨u, _, q, _⟩ => (hno u q).elim⟩, fun t => ⟨fun q => (List.not_mem_nil q).elim, fun ⟨u, _, q, _⟩ => (hno u q).elim⟩, fun u _ q => (hno u q).elim, by rw [hN]; rfl⟩,
    IOwn.nil _ _, IOwn.nil _ _, Nat.le_refl _, Nat.le_refl _, fun u _ q => (hno u q).elim⟩

set_option maxRecDepth 100000 in
set_option maxHeartbeats 4000000 in
theorem least_walk {S : SpP} {Z : World → Nat → List Nat → Prop} (H : PmOk S Z) (w : World) (sv : Option Addr) (l cc : Nat) (vs : List Int) (hv : UintsAre w sv l vs) :
    Calls Try.prog 7 #[.slice sv l cc] w fun e w' => e = .returned (.bool true) ∧ w.grownBy w' none := by
  have HH := Lib.hid H
  have HL := Lib.hid (lives7 H)
  have HV := Lib.hid hv
  have HN := Lib.hid (newE w (Below.refl _ w) 128 128 rfl (by decide) (by decide))
  have hnoughts : ∃ M : List UInt8, List.replicate (128 * 4096) 0 = M := ⟨_, rfl⟩
  obtain ⟨M, hM⟩ := hnoughts
  rw [hM] at HN
  clear H hM hv
  by_cases h25 : (l : Int) > 25
  · have d0 : decide ((l : Int) > 25) = true := by simpa using h25
    clear h25 HN
    go_enter Try.func7, Try.ntmps7
    go_wp2_with fail
    refine (HL.out _).mono ?_
    rintro e w9 ⟨rfl, g9⟩
    have HG := Lib.hid g9
    clear g9
    go_wp2_with fail
    go_ret
    exact ⟨rfl, HG.out⟩
  · have d0 : decide ((l : Int) > 25) = false := by simpa using h25
    have hl : l ≤ 25 := by omega
    clear h25
    go_enter Try.func7, Try.ntmps7
    go_wp2_with fail
    refine HN.out.mono ?_
    rintro e w1 ⟨rfl, h1, g1⟩
    have HP := Lib.hid (pm_start h1 (by decide) (by decide) 128 rfl)
    generalize w.heap.size + 1 = m at *
    generalize hd : w.heap.size = d at *
    clear h1 g1 HN
    go_wp2_with fail
    refine HP.out.mono ?_
    rintro e w2 ⟨p, O, rfl, h2, -, -⟩
    have HF := Lib.hid (pm_first HH.out h2 (by decide) (by decide) 1 (ok_s7 (by decide) (by decide)))
    clear h2 HP
    go_wp2_with fail
    refine HF.out.mono ?_
    rintro e w3 ⟨x, O3, OX3, r, s0, rfl, h3, hi, hN, hno, -⟩
    have HS := Lib.hid (LstW.start (vs := vs) h3 hi hN hno)
    clear h3 hi hN hno HF
    go_wp2_with fail
    go_loopw [7, 8, 10, 11, 30] (fun tv mv _ _ iv wr => ∃ (j : Nat) (s : MS) (ts ms : List Int), j ≤ l ∧ iv = .int .i64 j ∧ ts.length ≤ 25 ∧ ms.length ≤ 25 ∧ Hid (LstW S w wr m d p x r s tv mv ts ms vs j)) (fun _ _ _ _ iv _ => l - (intOf iv).toNat)
    case atStart => exact ⟨0, s0, [], [], by omega, rfl, by simp, by simp, HS⟩
    case round =>
      obtain ⟨j, s, ts, ms, hj, rfl, htl, hml, HJ⟩ := hrel
      by_cases hlt : j < l
      · obtain ⟨v, g, o, hvj, hsv, hcv, hokv⟩ := HV.out.get j hlt
        subst hsv
        have c0 := HJ.out.sp.low.cell hcv (by simp)
        obtain ⟨v0, v1⟩ := hokv
        have hvr : 0 ≤ v % 67108864 ∧ v % 67108864 < 67108864 := ⟨by omega, by omega⟩
        obtain ⟨he, hst, hLv⟩ := HJ.out.at_.step hvr (by have := HJ.out.tl; have := HJ.out.ml; omega)
        have hE := HJ.out.sp.enter HH.out HJ.out.at_.inv.inv (v % 67108864) 1 1 ⟨by omega, by omega⟩ (ok_s7 (by decide) (by decide)) (ok_s7 (by decide) (by decide))
        rw [he] at hE
        have HE := Lib.hid hE
        have HST := Lib.hid hst
        have HLv := Lib.hid hLv
        have HVJ := Lib.hid hvj
        obtain ⟨n, hn⟩ : ∃ n, v % 67108864 = n := ⟨_, rfl⟩
        rw [hn] at HE HST HLv hvr
        have n0 := hvr.1
        have n1 := hvr.2
        have HNv := Lib.hid hn
        clear hE hst hLv hcv hvj he hvr
        go_wp2_with fail
        refine HE.out.mono ?_
        rintro e w4 ⟨rfl, h4, k4⟩
        have ht4 := HJ.out.t.kept (w' := w4) fun b hb => k4 b (by simp [hb])
        have hm4 := HJ.out.m.kept (w' := w4) fun b hb => k4 b (by simp [hb])
        have HQ1 := Lib.hid (put_walk ht4 HJ.out.at_.tr (by omega) (n / 262144))
        have H4 := Lib.hid h4
        have HM4 := Lib.hid hm4
        clear h4 k4 ht4 hm4
        obtain ⟨E, hE⟩ : ∃ E, (enterM 128 1 r n 1 1 s).2 = E := ⟨_, rfl⟩
        rw [hE] at H4 HST HLv
        clear hE
        go_wp2_with fail
        refine HQ1.out.mono ?_
        rintro e w5 ⟨g5, c5, rfl, h5, q5⟩
        have hm5 := HM4.out.grow q5
        have HQ2 := Lib.hid (put_walk hm5 HJ.out.at_.mr (by omega) (n / 512))
        have hw4 := H4.out.low.size
        have H5 := Lib.hid (H4.out.fresh HH.out q5 (B' := [g5] ++ u8.ownBlock.toList) fun b hb => by
          simp only [List.mem_append, List.mem_singleton] at hb
          rcases hb with rfl | hb
          · exact ⟨.inr (h5.lt rfl).1, (h5.lt rfl).2⟩
          · have hb2 : u8.ownBlock = some b := by simpa using hb
            exact ⟨.inl (by simp [hb2]), Nat.lt_of_lt_of_le (HM4.out.lt hb2).2 q5.size⟩)
        have HT5 := Lib.hid (h5.lower (show w.heap.size ≤ w4.heap.size from hw4))
        clear h5 hm5 HQ1 hw4
        go_wp2_with fail
        refine HQ2.out.mono ?_
        rintro e w6 ⟨g6, c6, rfl, h6, q6⟩
        have hw5 := H5.out.low.size
        have H6 := Lib.hid (H5.out.fresh HH.out q6 (B' := [g5] ++ [g6]) fun b hb => by
          simp only [List.mem_append, List.mem_singleton] at hb
          rcases hb with rfl | rfl
          · exact ⟨.inl (by simp), Nat.lt_of_lt_of_le (HT5.out.lt rfl).2 q6.size⟩
          · exact ⟨.inr (h6.lt rfl).1, (h6.lt rfl).2⟩)
        have HT6 := Lib.hid (HT5.out.grow q6)
        have HM6 := Lib.hid (h6.lower (show w.heap.size ≤ w5.heap.size from hw5))
        have HA := Lib.hid (H6.out.tables HH.out HST.out.inv.inv)
        rw [HST.out.N] at HA
        have l5 : (putL ts (n / 262144)).length ≤ ts.length + 1 := by rw [putL_len HJ.out.at_.tr]; split <;> omega
        have l6 : (putL ms (n / 512)).length ≤ ms.length + 1 := by rw [putL_len HJ.out.at_.mr]; split <;> omega
        have HTL := Lib.hid (show (putL ts (n / 262144)).length ≤ j + 1 from Nat.le_trans l5 (by have := HJ.out.tl; omega))
        have HML := Lib.hid (show (putL ms (n / 512)).length ≤ j + 1 from Nat.le_trans l6 (by have := HJ.out.ml; omega))
        have hIn : ∀ u, okV u → Lv E r u → ∃ y, y ∈ vs.take (j + 1) ∧ y % 67108864 = u := fun u hu hq => by
          have hvj := HVJ.out
          rcases (HLv.out u hu).1 hq with e | hq
          · exact ⟨v, by rw [List.take_add_one, hvj]; simp, by rw [e]; exact HNv.out⟩
          · obtain ⟨y, hy, e⟩ := HJ.out.in_ u hu hq
            exact ⟨y, by rw [List.take_add_one]; simp [hy], e⟩
        have HIn := Lib.hid hIn
        generalize putL ts (n / 262144) = ts' at *
        generalize putL ms (n / 512) = ms' at *
        have t25 : ts'.length ≤ 25 := by have := HTL.out; omega
        have m25 : ms'.length ≤ 25 := by have := HML.out; omega
        clear h6 HQ2 q5 q6 hw5 hIn l5 l6 H4 HM4 H5
        go_wp2_with fail
        refine HA.out.mono ?_
        rintro e w7 ⟨rfl, q7⟩
        have H7 := Lib.hid (H6.out.grow HH.out q7)
        have HC7 := Lib.hid (H7.out.count 1)
        rw [count_one, HST.out.inv.tot, HST.out.N] at HC7
        have HQ7 := Lib.hid q7
        clear q7 HA
        go_wp2_with fail
        refine HC7.out.mono ?_
        rintro e w8 ⟨rfl, q8⟩
        have H8 := Lib.hid (H7.out.grow HH.out q8)
        have HA8 := Lib.hid (H8.out.tables HH.out HST.out.inv.inv)
        rw [HST.out.N] at HA8
        have HQ8 := Lib.hid (grown_trans HQ7.out q8)
        clear q8 HC7
        go_wp2_with fail
        refine HA8.out.mono ?_
        rintro e w9 ⟨rfl, q9⟩
        have HQ9 := Lib.hid (grown_trans HQ8.out q9)
        have HJ9 := Lib.hid (show LstW S w w9 m d p x r E (.slice (some ⟨g5, 0, none⟩) ts'.length c5) (.slice (some ⟨g6, 0, none⟩) ms'.length c6) ts' ms' vs (j + 1) from
          ⟨H8.out.grow HH.out q9, HST.out, HT6.out.grow HQ9.out, HM6.out.grow HQ9.out, HTL.out, HML.out, HIn.out⟩)
        clear q9 HA8
        go_wp2_with fail
        go_roundw
        case rel => exact ⟨j + 1, E, ts', ms', by omega, by go_num, t25, m25, HJ9⟩
        case measure => simp [intOf]; omega
      · obtain rfl : j = l := by omega
        have HR := Lib.hid (show PXr S w wr m d 128 p x 1 r s [] ∧ Inv1 128 s 1 r ∧ ∀ u, okV u → Lv s r u → ∃ i y, vs[i]? = some y ∧ i < j ∧ 0 ≤ i ∧ y % 67108864 = u from
          ⟨HJ.out.sp.fresh HH.out (grown_refl _ _) (fun b hb => by cases hb), HJ.out.at_.inv, fun u hu hq => by
            obtain ⟨y, hy, e⟩ := HJ.out.in_ u hu hq
            obtain ⟨i, hi⟩ := List.getElem?_of_mem hy
            rw [List.getElem?_take] at hi
            split at hi
            · rename_i hlt2; exact ⟨i, y, hi, hlt2, Nat.zero_le _, e⟩
            · cases hi⟩)
        clear HJ
        go_wp2_with fail
        go_loopw [13, 68] (fun _ iv wx => ∃ (i : Nat) (s : MS), i ≤ j ∧ iv = .int .i64 i ∧ Hid (PXr S w wx m d 128 p x 1 r s [] ∧ Inv1 128 s 1 r ∧ ∀ u, okV u → Lv s r u → ∃ q y, vs[q]? = some y ∧ q < j ∧ i ≤ q ∧ y % 67108864 = u)) (fun _ iv _ => j - (intOf iv).toNat)
        case atStart => exact ⟨0, s, by omega, rfl, HR⟩
        case round =>
          obtain ⟨i, s', hi, rfl, HI⟩ := hrel
          by_cases hli : i < j
          · obtain ⟨v, g, o, hvj, hsv, hcv, hokv⟩ := HV.out.get i hli
            subst hsv
            have c0 := HI.out.1.low.cell hcv (by simp)
            obtain ⟨v0, v1⟩ := hokv
            have hvr : 0 ≤ v % 67108864 ∧ v % 67108864 < 67108864 := ⟨by omega, by omega⟩
            have HVJ := Lib.hid hvj
            obtain ⟨n, hn⟩ : ∃ n, v % 67108864 = n := ⟨_, rfl⟩
            rw [hn] at hvr
            have n0 := hvr.1
            have n1 := hvr.2
            have HNv := Lib.hid hn
            have HE := Lib.hid (HI.out.1.remove HH.out HI.out.2.1.inv n ⟨by omega, by omega⟩)
            have HNx := Lib.hid (show Inv1 128 (removeM 128 r n s').2 1 r ∧ ∀ u, okV u → Lv (removeM 128 r n s').2 r u → ∃ q y, vs[q]? = some y ∧ q < j ∧ i + 1 ≤ q ∧ y % 67108864 = u from
              ⟨HI.out.2.1.remove, fun u hu hq => by
                obtain ⟨hne, hq⟩ := (HI.out.2.1.inv.removeL (v := n) (u := u) ⟨by omega, by omega⟩ hu).2.1 hq
                obtain ⟨q, y, h1, h2, h3, h4⟩ := HI.out.2.2 u hu hq
                refine ⟨q, y, h1, h2, ?_, h4⟩
                by_cases e : q = i
                · exfalso
                  subst e
                  rw [HVJ.out] at h1
                  cases h1
                  exact hne (h4.symm.trans HNv.out)
                · omega⟩)
            clear hcv hvj hvr
            go_wp2_with fail
            refine HE.out.mono ?_
            rintro e w4 ⟨rfl, h4, -⟩
            have H4 := Lib.hid h4
            clear h4
            go_wp2_with fail
            go_roundw
            case rel => exact ⟨i + 1, _, by omega, by go_num, H4.out, HNx.out.1, HNx.out.2⟩
            case measure => simp [intOf]; omega
          · obtain rfl : i = j := by omega
            have HA := Lib.hid (HI.out.1.tables HH.out HI.out.2.1.inv)
            rw [HI.out.2.1.inv.lone (fun u hu hq => by obtain ⟨q, y, _, h2, h3, _⟩ := HI.out.2.2 u hu hq; omega)] at HA
            go_wp2_with fail
            refine HA.out.mono ?_
            rintro e w4 ⟨rfl, q4⟩
            have HG := Lib.hid (grown_trans HI.out.1.low q4)
            clear q4
            go_wp2_with fail
            refine (HL.out _).mono ?_
            rintro e w9 ⟨rfl, g9⟩
            have HG9 := Lib.hid (grown_trans HG.out g9)
            clear g9
            go_wp2_with fail
            go_ret
            exact ⟨rfl, HG9.out⟩
end Go.Proofs.Ytlieommbomjdaaa
