/- FileCuts, walked out of what package file says. -/
import Derived.Test.YtlaniifbfgcfaaaIKeeps
namespace Go.Proofs.Ytlaniifbfgcfaaa
open Go.ChangeShapes Go.WideShapes Go.ChangeAt Go.RowKit Go.Deep
set_option linter.unusedVariables false

def cutP (pa : List UInt8) (a b : Int) : Int → Int → List UInt8 := fun i k => if (i = 1 ∧ 0 ≤ k ∧ k < a) ∨ (i = 2 ∧ 0 ≤ k ∧ k < b) then pa else pageZ
def cutS (M : Int) (pa : List UInt8) (a b : Int) : IS := ⟨[M, M], cutP pa a b, 0⟩
def midS (M : Int) (pa : List UInt8) (k : Int) : IS := ⟨[k, M], cutI (cutP pa M M) 1 k, 0⟩
def finS (M : Int) (pa : List UInt8) (k : Int) : IS := ⟨[M, M], cutI (cutI (cutP pa M M) 1 k) 1 M, 0⟩
theorem cutP_0 (pa : List UInt8) : cutP pa 0 0 = zerosI := by
  funext i k
  unfold cutP zerosI
  rw [if_neg (by omega)]
theorem cut_make1 {M : Int} (h0 : 0 ≤ M) (h1 : M ≤ 4096) : makeI newI M = (1, 0, ⟨[M], zerosI, 0⟩) := by
  unfold makeI
  rw [if_pos ⟨h0, h1⟩, if_neg (by decide)]
  rfl
theorem cut_make2 {M : Int} (h0 : 0 ≤ M) (h1 : M ≤ 4096) (pa : List UInt8) : makeI ⟨[M], zerosI, 0⟩ M = (2, 0, cutS M pa 0 0) := by
  unfold makeI
  rw [if_pos ⟨h0, h1⟩, if_neg (by show ¬ 16 ≤ 1; decide)]
  unfold cutS
  rw [cutP_0]
  rfl
theorem cut_w1 {M : Int} {pa : List UInt8} {a b : Int} (hp : pa.length = 4096) (h0 : 0 ≤ a) (h1 : a < M) : writeI (cutS M pa a b) 1 a pa = (0, cutS M pa (a + 1) b) := by
  have hh : (cutS M pa a b).has 1 := ⟨Int.le_refl _, by show (1 : Int) ≤ 2; decide⟩
  unfold writeI
  rw [if_pos hh, if_pos ⟨⟨hh, h0, h1⟩, hp⟩, if_neg (by show ¬ (0 : Int) = 1; decide)]
  unfold cutS
  rw [show putI (cutP pa a b) 1 a pa = cutP pa (a + 1) b by
    funext i k
    unfold putI cutP
    by_cases e : i = 1 ∧ k = a
    · rw [if_pos e, if_pos (.inl ⟨e.1, by omega, by omega⟩)]
    · rw [if_neg e]
      by_cases h : (i = 1 ∧ 0 ≤ k ∧ k < a) ∨ (i = 2 ∧ 0 ≤ k ∧ k < b)
      · rw [if_pos h, if_pos (by omega)]
      · rw [if_neg h, if_neg (by omega)]]
  rfl
theorem cut_w2 {M : Int} {pa : List UInt8} {a b : Int} (hp : pa.length = 4096) (h0 : 0 ≤ b) (h1 : b < M) : writeI (cutS M pa a b) 2 b pa = (0, cutS M pa a (b + 1)) := by
  have hh : (cutS M pa a b).has 2 := ⟨by decide, by show (2 : Int) ≤ 2; decide⟩
  unfold writeI
  rw [if_pos hh, if_pos ⟨⟨hh, h0, h1⟩, hp⟩, if_neg (by show ¬ (0 : Int) = 1; decide)]
  unfold cutS
  rw [show putI (cutP pa a b) 2 b pa = cutP pa a (b + 1) by
    funext i k
    unfold putI cutP
    by_cases e : i = 2 ∧ k = b
    · rw [if_pos e, if_pos (.inr ⟨e.1, by omega, by omega⟩)]
    · rw [if_neg e]
      by_cases h : (i = 1 ∧ 0 ≤ k ∧ k < a) ∨ (i = 2 ∧ 0 ≤ k ∧ k < b)
      · rw [if_pos h, if_pos (by omega)]
      · rw [if_neg h, if_neg (by omega)]]
  rfl
theorem cut_r1 {M : Int} {pa : List UInt8} {k : Int} (h0 : 0 ≤ k) (h1 : k ≤ 4096) : resizeI (cutS M pa M M) 1 k = (0, midS M pa k) := by
  unfold resizeI
  rw [if_pos ⟨Int.le_refl _, by show (1 : Int) ≤ 2; decide⟩, if_pos ⟨h0, h1⟩]
  rfl
theorem cut_r2 {M : Int} {pa : List UInt8} {k : Int} (h0 : 0 ≤ M) (h1 : M ≤ 4096) : resizeI (midS M pa k) 1 M = (0, finS M pa k) := by
  unfold resizeI
  rw [if_pos ⟨Int.le_refl _, by show (1 : Int) ≤ 2; decide⟩, if_pos ⟨h0, h1⟩]
  rfl
theorem cut_read1 {M : Int} {pa : List UInt8} {k i : Int} (h0 : 0 ≤ i) (h1 : i < M) : readI (finS M pa k) 1 i = (0, if k ≤ i then pageZ else pa, finS M pa k) := by
  have hh : (finS M pa k).has 1 := ⟨Int.le_refl _, by show (1 : Int) ≤ 2; decide⟩
  unfold readI
  rw [if_pos hh, if_pos ⟨hh, h0, h1⟩, if_neg (by show ¬ (0 : Int) = 1; decide)]
  rw [show (finS M pa k).P 1 i = if k ≤ i then pageZ else pa by
    show cutI (cutI (cutP pa M M) 1 k) 1 M 1 i = _
    unfold cutI cutP
    rw [if_neg (by omega)]
    by_cases e : k ≤ i
    · rw [if_pos ⟨rfl, e⟩, if_pos e]
    · rw [if_neg (by omega), if_neg e, if_pos (by omega)]]
  rfl
theorem cut_read2 {M : Int} {pa : List UInt8} {k i : Int} (h0 : 0 ≤ i) (h1 : i < M) : readI (finS M pa k) 2 i = (0, pa, finS M pa k) := by
  have hh : (finS M pa k).has 2 := ⟨by decide, by show (2 : Int) ≤ 2; decide⟩
  unfold readI
  rw [if_pos hh, if_pos ⟨hh, h0, h1⟩, if_neg (by show ¬ (0 : Int) = 1; decide)]
  rw [show (finS M pa k).P 2 i = pa by
    show cutI (cutI (cutP pa M M) 1 k) 1 M 2 i = _
    unfold cutI cutP
    rw [if_neg (by omega), if_neg (by omega), if_pos (by omega)]]
  rfl

theorem LI.to {D : World → Nat → IS → List Nat → Nat → Prop} {w w' w2 : World} {p : Nat} {s s' : IS} {O O' : List Nat} {k k' : Nat} (h : LI D w w' p s O k) (h2 : D w2 p s' O' k') (t : Turn O w' w2) (o : ∀ b, b ∈ O' → b ∈ O ∨ w'.heap.size ≤ b) (hk : s'.Ok) : LI D w w2 p s' O' k' := by
  refine ⟨h2, fun b hb => ?_, ((Turn.grown h.grown).trans' t).noGrown h.own, hk⟩
  rcases o b hb with h3 | h3
  · exact h.own b h3
  · have := h.grown.size; omega
theorem Fresh.turn {w w' w2 : World} {O : List Nat} {s : Option Addr} {l c : Nat} {bs : List UInt8} (h : Fresh w w' O (.slice s l c) bs) (t : Turn O w' w2) (hl : bs.length = 4096) : Src w2 s 4096 bs := by
  obtain ⟨a, c', e, h0 | ⟨g, e2, hg, hO, hb⟩⟩ := h
  · omega
  · simp only [Value.slice.injEq] at e
    obtain ⟨rfl, -, -⟩ := e
    subst e2
    have := (hb.kept (t.block g hb.lt hO)).src
    rwa [hl] at this
set_option maxRecDepth 100000 in
set_option maxHeartbeats 4000000 in
theorem cuts_walk10 {D : World → Nat → IS → List Nat → Nat → Prop} (H : FlOk D) (w : World) (n0 : Int) (hn : okU n0) (x y : Int) (hx : okU x) (hy : okU y) (sa : Option Addr) (la ca : Nat) (A : List UInt8) (hA : Src w sa la A) :
    Calls Try.prog 4 #[.int .u64 n0, .agg #[.int .u64 x, .int .u64 y], .slice sa la ca] w fun e w' => e = .returned (.bool true) ∧ w.grownBy w' none := by
  have HLv := Lib.hid (fun wx => lives10 H wx)
  have HT := Lib.hid H
  have ga := World.grownBy_alloc w (.cells #[.int .u64 x, .int .u64 y] 57 (0, 0)) none
  have hz := heap_alloc_new w (.cells #[.int .u64 x, .int .u64 y] 57 (0, 0))
  generalize hwA : w.alloc (.cells #[.int .u64 x, .int .u64 y] 57 (0, 0)) = wA at *
  have z0 : wA.cell? ⟨w.heap.size, 0, none⟩ = some (.int .u64 x) := by rw [cell_of_row _ _ _ _ _ _ hz]; rfl
  have z1 : wA.cell? ⟨w.heap.size, 1, none⟩ = some (.int .u64 y) := by rw [cell_of_row _ _ _ _ _ _ hz]; rfl
  have HGa := Lib.hid (grown_then ga)
  have HA := Lib.hid hA
  obtain ⟨c, hc⟩ : ∃ c : Nat, n0 % 30 = c := Int.eq_ofNat_of_zero_le (by omega)
  have c1 : c < 30 := by omega
  have n1 := hn.1
  have n2 := hn.2
  have x1 := hx.1
  have x2 := hx.2
  have y1 := hy.1
  have y2 := hy.2
  by_cases hl : la ≤ 4096
  · have d0 : decide ((la : Int) > 4096) = false := by simp; omega
    have la1 : la ≤ 1000000 := by omega
    have HN := Lib.hid (H.new wA.drew)
    clear H hn hA hl hx hy ga hz
    go_enter Try.func4, Try.ntmps4
    go_wp2_with fail
    go_region
    go_wp2_with fail
    refine HN.out.mono ?_
    rintro e w1 ⟨p, O, rfl, h1, g1, o1⟩
    have hM0 : (0 : Int) ≤ 1 + (c : Int) := by omega
    have hM1 : 1 + (c : Int) ≤ 4096 := by omega
    have hwA2 : w.heap.size ≤ wA.drew.heap.size := HGa.out.size
    have H1 := Lib.hid (show LI D w w1 p newI O 0 from ⟨h1, fun b hb => by have := o1 b hb; omega, grown_trans HGa.out g1, newI_ok⟩)
    have hk := HT.out.make h1 H1.out.ok (1 + (c : Int)) (okS (by omega) (by omega))
    have hok := H1.out.ok.make (n := 1 + (c : Int))
    rw [cut_make1 hM0 hM1] at hk hok
    have HK := Lib.hid hk
    have HO := Lib.hid hok
    clear hk h1 g1 o1 HN hok
    go_wp2_with fail
    refine HK.out.mono ?_
    rintro e w2 ⟨rfl, h2⟩
    obtain ⟨O2, h2, -, -⟩ := H1.out.left h2 HO.out
    have hpl := fillOf_len A
    obtain ⟨pa, hpe⟩ : ∃ pa, fillOf A = pa := ⟨_, rfl⟩
    have hk := HT.out.make h2.d h2.ok (1 + (c : Int)) (okS (by omega) (by omega))
    have hok := h2.ok.make (n := 1 + (c : Int))
    rw [cut_make2 hM0 hM1 pa] at hk hok
    rw [hpe] at hpl
    have HPA := Lib.hid hpe
    have HPl := Lib.hid hpl
    have HK := Lib.hid hk
    have HO := Lib.hid hok
    have H2 := Lib.hid h2
    clear hk h2 hok hpl hpe H1
    go_wp2_with fail
    refine HK.out.mono ?_
    rintro e w3 ⟨rfl, h3⟩
    obtain ⟨O3, h3, -, -⟩ := H2.out.left h3 HO.out
    have H3 := Lib.hid h3
    clear h3 HK HO H2
    go_wp2_with fail
    go_loopw [15] (fun iv wr => ∃ (j : Nat) (O : List Nat), (j : Int) ≤ 1 + (c : Int) ∧ iv = .int .i64 j ∧ Hid (LI D w wr p (cutS (1 + (c : Int)) pa j j) O (2 * j))) (fun iv _ => c + 2 - (intOf iv).toNat)
    case atStart => exact ⟨0, O3, by omega, rfl, H3.out⟩
    case round =>
      clear H3
      obtain ⟨j, O4, hj, rfl, HJ⟩ := hrel
      by_cases hlt : (j : Int) < 1 + (c : Int)
      · have e0 : decide ((j : Int) < 1 + (c : Int)) = true := by simp; omega
        have HP := Lib.hid (page_ok ca (HA.out.grown HJ.out.grown) la1)
        go_wp2_with fail
        refine HP.out.mono ?_
        rintro e w4 ⟨g, rfl, hg, hb, g4⟩
        have H4 := Lib.hid (HJ.out.grow HT.out g4)
        have hsrc := hb.src
        rw [fillOf_len, HPA.out] at hsrc
        have hk := HT.out.write H4.out.d H4.out.ok (by omega) 1 (j : Int) (some ⟨g, 0, none⟩) 4096 4096 pa (okS (by decide) (by decide)) (okS (by omega) (by omega)) hsrc (by decide) (fun _ ad e hm => by cases e; have h9 := HT.out.lt HJ.out.d g hm; omega)
        have hok := H4.out.ok.write (i := 1) (n := (j : Int)) (bs := pa)
        rw [cut_w1 HPl.out (by omega) hlt] at hk hok
        have HK := Lib.hid hk
        have HO := Lib.hid hok
        clear hk hsrc hb hg g4 HP HJ hok
        go_wp2_with fail
        refine HK.out.mono ?_
        rintro e w5 ⟨rfl, h5⟩
        obtain ⟨O5, h5, -, -⟩ := H4.out.left h5 HO.out
        have H5 := Lib.hid h5
        have HP := Lib.hid (page_ok ca (HA.out.grown h5.grown) la1)
        clear h5 HK HO H4
        go_wp2_with fail
        refine HP.out.mono ?_
        rintro e w6 ⟨g, rfl, hg, hb, g6⟩
        have H6 := Lib.hid (H5.out.grow HT.out g6)
        have hsrc := hb.src
        rw [fillOf_len, HPA.out] at hsrc
        have hk := HT.out.write H6.out.d H6.out.ok (by omega) 2 (j : Int) (some ⟨g, 0, none⟩) 4096 4096 pa (okS (by decide) (by decide)) (okS (by omega) (by omega)) hsrc (by decide) (fun _ ad e hm => by cases e; have h9 := HT.out.lt H5.out.d g hm; omega)
        have hok := H6.out.ok.write (i := 2) (n := (j : Int)) (bs := pa)
        rw [cut_w2 HPl.out (by omega) hlt] at hk hok
        have HK := Lib.hid hk
        have HO := Lib.hid hok
        clear hk hsrc hb hg g6 HP H5 hok
        go_wp2_with fail
        refine HK.out.mono ?_
        rintro e w7 ⟨rfl, h7⟩
        obtain ⟨O7, h7, -, -⟩ := H6.out.left h7 HO.out
        have H7 := Lib.hid h7
        clear h7 HK HO H6
        go_wp2_with fail
        go_roundw
        case rel => exact ⟨j + 1, O7, by omega, by go_num, H7⟩
        case measure => simp [intOf]; omega
      · have hje : (j : Int) = 1 + (c : Int) := by omega
        have e0 : decide ((j : Int) < 1 + (c : Int)) = false := by simp; omega
        rw [hje] at HJ
        obtain ⟨k, hk0⟩ : ∃ k : Nat, x % (1 + (c : Int) + 1) = k := Int.eq_ofNat_of_zero_le (Int.emod_nonneg _ (by omega))
        have k1 : (k : Int) < 1 + (c : Int) + 1 := by rw [← hk0]; exact Int.emod_lt_of_pos _ (by omega)
        obtain ⟨i, hi0⟩ : ∃ i : Nat, y % (1 + (c : Int)) = i := Int.eq_ofNat_of_zero_le (Int.emod_nonneg _ (by omega))
        have i1 : (i : Int) < 1 + (c : Int) := by rw [← hi0]; exact Int.emod_lt_of_pos _ (by omega)
        have hk := HT.out.resize HJ.out.d HJ.out.ok (by omega) 1 (k : Int) (okS (by decide) (by decide)) (okS (by omega) (by omega))
        have hok := HJ.out.ok.resize (i := 1) (n := (k : Int))
        rw [cut_r1 (by omega) (by omega)] at hk hok
        have HK := Lib.hid hk
        have HO := Lib.hid hok
        clear hk hok hlt
        go_wp2_with fail
        refine HK.out.mono ?_
        rintro e w5 ⟨rfl, h5⟩
        obtain ⟨O5, h5, -, -⟩ := HJ.out.left h5 HO.out
        have hk := HT.out.resize h5.d h5.ok (by omega) 1 (1 + (c : Int)) (okS (by decide) (by decide)) (okS (by omega) (by omega))
        have hok := h5.ok.resize (i := 1) (n := 1 + (c : Int))
        rw [cut_r2 hM0 hM1] at hk hok
        have HK := Lib.hid hk
        have HO := Lib.hid hok
        have H5 := Lib.hid h5
        clear hk hok h5 HJ
        go_wp2_with fail
        refine HK.out.mono ?_
        rintro e w6 ⟨rfl, h6⟩
        obtain ⟨O6, h6, -, -⟩ := H5.out.left h6 HO.out
        have hk := HT.out.read h6.d h6.ok (by omega) 1 (i : Int) (okS (by decide) (by decide)) (okS (by omega) (by omega))
        rw [cut_read1 (by omega) i1] at hk
        have HK := Lib.hid hk
        have H6 := Lib.hid h6
        clear hk h6 H5 HO
        go_wp2_with fail
        refine HK.out.mono ?_
        rintro e w7 ⟨u7, O7, rfl, h7, t7, o7, f7⟩
        have hL : (if (k : Int) ≤ i then pageZ else pa).length = 4096 := by
          split
          · exact pageZ_length
          · exact HPl.out
        obtain ⟨us, uc, hu7, -⟩ := f7.src
        have h7' := H6.out.to h7 t7 o7 H6.out.ok
        have hk := HT.out.read h7'.d h7'.ok (by omega) 2 (i : Int) (okS (by decide) (by decide)) (okS (by omega) (by omega))
        rw [cut_read2 (by omega) i1] at hk
        have HK2 := Lib.hid hk
        have H7 := Lib.hid h7'
        rw [hL] at hu7
        have HF7 := Lib.hid f7
        subst hu7
        obtain ⟨U, hU⟩ : ∃ U, (if (k : Int) ≤ i then pageZ else pa) = U := ⟨_, rfl⟩
        rw [hU] at HF7 hL
        have HUU := Lib.hid hU
        have HL := Lib.hid hL
        clear hk h7 t7 o7 f7 h7' HK H6 hL hU
        go_wp2_with fail
        refine HK2.out.mono ?_
        rintro e w8 ⟨u8, O8, rfl, h8, t8, o8, f8⟩
        obtain ⟨vs, vc, rfl, vsrc⟩ := f8.src
        have h8' := H7.out.to h8 t8 o8 H7.out.ok
        rw [HPl.out] at vsrc ⊢
        have usrc := HF7.out.turn t8 HL.out
        have HU := Lib.hid usrc
        have HV := Lib.hid vsrc
        have H8 := Lib.hid h8'
        have HP := Lib.hid (page_ok ca (HA.out.grown h8'.grown) la1)
        clear h8 t8 o8 f8 h8' usrc vsrc HK2 H7 HF7
        go_wp2_with fail
        refine HP.out.mono ?_
        rintro e w9 ⟨g, rfl, hg, hb, g9⟩
        have H9 := Lib.hid (H8.out.grow HT.out g9)
        have hsrc := hb.src
        rw [fillOf_len, HPA.out] at hsrc
        have HX9 := Lib.hid hsrc
        have HU9 := Lib.hid (HU.out.grown g9)
        have HV9 := Lib.hid (HV.out.grown g9)
        clear hg hb g9 hsrc HP H8 HU HV
        by_cases hki : (k : Int) ≤ i
        · have e1 : decide ((i : Int) ≥ (k : Int)) = true := decide_eq_true hki
          have e2 : decide (k ≤ i) = true := decide_eq_true (by omega)
          have e3 : decide ((k : Int) ≤ (i : Int)) = true := decide_eq_true hki
          have hUz := HUU.out
          rw [if_pos hki] at hUz
          have HP := Lib.hid (page_ok (w := w9) (s := none) (l := 0) (bs := []) 0 ⟨rfl, .inl rfl⟩ (by decide))
          clear hki
          go_wp2_with fail
          refine HP.out.mono ?_
          rintro e w10 ⟨g', rfl, hg, hb, g10⟩
          have hsrc := hb.src
          rw [fillOf_len, fill_nil, hUz] at hsrc
          have HB := Lib.hid (bytesEq (HU9.out.grown g10) hsrc uc 4096 true (by rw [beq_self_eq_true]))
          have H10 := Lib.hid (H9.out.grow HT.out g10)
          have HV10 := Lib.hid (HV9.out.grown g10)
          clear hg hb g10 hsrc HP H9 HV9 hUz
          go_wp2_with fail
          refine HB.out.mono ?_
          rintro e w11 ⟨rfl, e11⟩
          subst w11
          have HP := Lib.hid (page_ok ca (HA.out.grown H10.out.grown) la1)
          clear HB
          go_wp2_with fail
          refine HP.out.mono ?_
          rintro e w11 ⟨g3, rfl, hg, hb, g11⟩
          have hsrc := hb.src
          rw [fillOf_len, HPA.out] at hsrc
          have HB := Lib.hid (bytesEq (HV10.out.grown g11) hsrc vc 4096 true (by rw [beq_self_eq_true]))
          have HG := Lib.hid (grown_trans H10.out.grown g11)
          clear hg hb g11 hsrc HP
          go_wp2_with fail
          refine HB.out.mono ?_
          rintro e w12 ⟨rfl, e12⟩
          subst w12
          go_wp2_with fail
          refine (HLv.out _).mono ?_
          rintro e w13 ⟨rfl, g13⟩
          have HG13 := Lib.hid (grown_trans HG.out g13)
          clear g13
          go_wp2_with fail
          go_ret
          exact ⟨rfl, HG13.out⟩
        · have e1 : decide ((i : Int) ≥ (k : Int)) = false := decide_eq_false (by omega)
          have e2 : decide (k ≤ i) = false := decide_eq_false (by omega)
          have e3 : decide ((k : Int) ≤ (i : Int)) = false := decide_eq_false hki
          have hUz := HUU.out
          rw [if_neg hki] at hUz
          have HB := Lib.hid (bytesEq HU9.out (hUz ▸ HX9.out) uc 4096 true (by rw [beq_self_eq_true]))
          have H10 := H9
          have HV10 := HV9
          clear hki hUz
          go_wp2_with fail
          refine HB.out.mono ?_
          rintro e w11 ⟨rfl, e11⟩
          subst w11
          have HP := Lib.hid (page_ok ca (HA.out.grown H10.out.grown) la1)
          clear HB
          go_wp2_with fail
          refine HP.out.mono ?_
          rintro e w11 ⟨g3, rfl, hg, hb, g11⟩
          have hsrc := hb.src
          rw [fillOf_len, HPA.out] at hsrc
          have HB := Lib.hid (bytesEq (HV10.out.grown g11) hsrc vc 4096 true (by rw [beq_self_eq_true]))
          have HG := Lib.hid (grown_trans H10.out.grown g11)
          clear hg hb g11 hsrc HP
          go_wp2_with fail
          refine HB.out.mono ?_
          rintro e w12 ⟨rfl, e12⟩
          subst w12
          go_wp2_with fail
          refine (HLv.out _).mono ?_
          rintro e w13 ⟨rfl, g13⟩
          have HG13 := Lib.hid (grown_trans HG.out g13)
          clear g13
          go_wp2_with fail
          go_ret
          exact ⟨rfl, HG13.out⟩
  · have d0 : decide ((la : Int) > 4096) = true := by simp; omega
    clear H hn hA hl hx hy ga hz
    go_enter Try.func4, Try.ntmps4
    go_wp2_with fail
    go_region
    all_goals
      go_wp2_with fail
      refine (HLv.out _).mono ?_
      rintro e w1 ⟨rfl, g1⟩
      have HG := Lib.hid (grown_trans HGa.out g1)
      clear g1
      go_wp2_with fail
      go_ret
      exact ⟨rfl, HG.out⟩
end Go.Proofs.Ytlaniifbfgcfaaa
