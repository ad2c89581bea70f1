/- Package pmap: Enter, of the program's own words. Package pmap: Remove, of the program's own words. -/
import Derived.Test.YtlieommbomjdaaaQB5
namespace Go.Proofs.Ytlieommbomjdaaa
open Go.ChangeShapes Go.WideShapes Go.ChangeAt Go.RowKit Go.Deep
set_option linter.unusedVariables false

/-- Tables put below a way, one behind the other. -/
inductive Puts (n : Nat) (v : Int) : List Int → List Int → WoF → List Int → WoF → Prop
  | nil {ys : List Int} {W : WoF} : Puts n v ys [] W ys W
  | cons {ys ts yf : List Int} {t p L : Int} {j : Nat} {W Wf : WoF} : (ys.length = 1 ∧ j = 0 ∧ L = 2) ∨ (ys.length = 2 ∧ j = 1 ∧ L = 1) ∨ (ys.length = 3 ∧ j = 2 ∧ L = 0) → ys[j]? = some p → 0 ≤ p ∧ p < n → 0 ≤ t ∧ t < n →
      Puts n v (ys ++ [t]) ts (updW (zeroW W t) p (indexOf v L) (encOf 1 t)) yf Wf → Puts n v ys (t :: ts) W yf Wf
theorem Takes.len {n : Nat} {a : Int} {l : Nat} {xs us : List FrV} {ts : List Int} {e : Int} (h : Takes n a l xs ts e us) : ts.length ≤ 3 := by
  have : ts.length + l ≤ 3 := by
    induction h with
    | done => simp
    | step hl _ _ _ _ ih => simp only [List.length_cons]; omega
    | fail hl _ _ => simp; omega
  omega
/-- Behind a call, by words. -/
def QWL (w0 w w' : World) (m d n p : Nat) (O : List Nat) (x : Nat) (a r : Int) (W : WoF) (xs : List FrV) : Prop := ∃ M, wordI n M = W ∧ QXL w0 w w' m d n p O x a r M xs

section
variable {w0 w w' w2 : World} {m d n p x : Nat} {O O2 : List Nat} {a r : Int} {M M' : List UInt8} {xs zs us vs : List FrV} {ts : List Int} {e : Int}
set_option maxHeartbeats 2000000 in
theorem sp_enter_no (h : QX w0 w m d n p O x a r M xs) (v fr q : Int) (hno : ¬ ((0 ≤ v ∧ v < 67108864) ∧ (1 ≤ q ∧ q ≤ 7) ∧ (0 ≤ fr ∧ fr < n))) :
    Calls Try.prog 13 #[.pointer (some ⟨x, 0, none⟩), .int .i64 v, .int .i64 fr, .int .i64 q] w fun e w' => e = .returned (.int .i64 2) ∧ w' = w := by
  have HMd := Lib.hid (sp_made h.sp)
  have HF0 := fun b hb => sp_isFrame h.sp h.st fr b hb
  rcases (show v < 0 ∨ (¬ v < 0 ∧ 67108864 ≤ v) ∨ (¬ v < 0 ∧ ¬ 67108864 ≤ v ∧ q < 1) ∨ (¬ v < 0 ∧ ¬ 67108864 ≤ v ∧ ¬ q < 1 ∧ 7 < q) ∨ (¬ v < 0 ∧ ¬ 67108864 ≤ v ∧ ¬ q < 1 ∧ ¬ 7 < q ∧ ¬ (0 ≤ fr ∧ fr < n)) by omega) with h1 | ⟨h1, h2⟩ | ⟨h1, h2, h3⟩ | ⟨h1, h2, h3, h4⟩ | ⟨h1, h2, h3, h4, h5⟩
  · clear h hno HF0
    go_enter Try.func13, Try.ntmps13
    go_wp2_with fail
    refine HMd.out.mono ?_
    rintro e w1 ⟨rfl, e1⟩
    subst w1
    go_wp2_with fail
    go_ret
    exact ⟨rfl, rfl⟩
  · have g2 : decide (v ≥ 67108864) = true := by simpa using h2
    clear h hno HF0 h2
    go_enter Try.func13, Try.ntmps13
    go_wp2_with fail
    refine HMd.out.mono ?_
    rintro e w1 ⟨rfl, e1⟩
    subst w1
    go_wp2_with fail
    go_ret
    exact ⟨rfl, rfl⟩
  · have g2 : decide (v ≥ 67108864) = false := by simpa using h2
    clear h hno HF0 h2
    go_enter Try.func13, Try.ntmps13
    go_wp2_with fail
    refine HMd.out.mono ?_
    rintro e w1 ⟨rfl, e1⟩
    subst w1
    go_wp2_with fail
    go_ret
    exact ⟨rfl, rfl⟩
  · have g2 : decide (v ≥ 67108864) = false := by simpa using h2
    have g4 : decide (q > 7) = true := by simpa using h4
    clear h hno HF0 h2 h4
    go_enter Try.func13, Try.ntmps13
    go_wp2_with fail
    refine HMd.out.mono ?_
    rintro e w1 ⟨rfl, e1⟩
    subst w1
    go_wp2_with fail
    go_ret
    exact ⟨rfl, rfl⟩
  · have g2 : decide (v ≥ 67108864) = false := by simpa using h2
    have g4 : decide (q > 7) = false := by simpa using h4
    have HF := Lib.hid (HF0 false (decide_eq_false h5))
    clear h hno HF0 h2 h4 h5
    go_enter Try.func13, Try.ntmps13
    go_wp2_with fail
    refine HMd.out.mono ?_
    rintro e w1 ⟨rfl, e1⟩
    subst w1
    go_wp2_with fail
    refine HF.out.mono ?_
    rintro e w1 ⟨rfl, e1⟩
    subst w1
    go_wp2_with fail
    go_ret
    exact ⟨rfl, rfl⟩

theorem QX.mem1 (h : QX w0 w m d n p O x a r M xs) (hs : St w0 w' m d n M') (g : w.grownBy w' (some d)) : QX w0 w' m d n p O x a r M' xs := by
  have hb : ∀ b, b ∈ x :: O → w'.heap[b]? = w.heap[b]? := fun b hb => g.block b (h.lt b (by simp only [List.mem_cons] at hb ⊢; rcases hb with hb | hb <;> simp [hb])) fun e => by
    injection e with e
    subst e
    rcases List.mem_cons.1 hb with rfl | hb
    · exact h.xn (by simp)
    · exact h.dn hb
  exact ⟨hs, PP.kept h.pool fun b hm => hb b (by simp [hm]), h.sp.kept (hb x (by simp)), h.num, h.oge, h.apart, h.xge, h.xn⟩
theorem IOwn.mem {base : Nat} {v : Value} {ys : List Int} (h : IOwn w base v ys) (g : w.grownBy w' (some d)) (hd : d < base) : IOwn w' base v ys := h.kept fun b hb => g.block b (h.lt hb).2 fun e => by
  injection e with e
  have := (h.lt hb).1
  omega

/-- Between two rounds of Enter. -/
def EnterAt (w0 w wr : World) (m d n p : Nat) (O : List Nat) (x : Nat) (a r : Int) (us : List FrV) (v : Int) (ts : List Int) (yf : List Int) (Wf : WoF) (tv wv : Value) (k : Nat) : Prop :=
  ∃ O' M' yk, QX w0 wr m d n p O' x a r M' us ∧ Turn (d :: O) w wr ∧ (∀ b, b ∈ O' → b ∈ O ∨ w.heap.size ≤ b) ∧ IOwn wr w.heap.size tv ts ∧ IOwn wr w.heap.size wv yk ∧ (∀ b, wv.ownBlock = some b → tv.ownBlock ≠ some b) ∧ Puts n v yk (ts.drop k) (wordI n M') yf Wf

set_option maxHeartbeats 8000000 in
theorem sp_enter (h : QX w0 w m d n p O x a r M xs) (ha : okI a) (v fr q : Int) (hv : 0 ≤ v ∧ v < 67108864) (hq : 1 ≤ q ∧ q ≤ 7) (hf : 0 ≤ fr ∧ fr < n) (ys : List Int) (hy3 : 1 ≤ ys.length ∧ ys.length ≤ 3) (hway : ∀ zs, WayEnd n (wordI n M) r v zs → zs = ys) (ht : Takes n a ys.length xs ts e us)
    (hb : (ts = [] ∧ vs = us) ∨ (∃ k e0, ts = [k] ∧ giveF us k = ⟨0, e0, vs⟩ ∧ vs.length = n) ∨ e = 0) (yf : List Int) (Wf : WoF) (lf : Int) (hp : e = 0 → Puts n v ys ts (wordI n M) yf Wf ∧ yf.length = 3 ∧ yf[2]? = some lf ∧ 0 ≤ lf ∧ lf < n) :
    Calls Try.prog 13 #[.pointer (some ⟨x, 0, none⟩), .int .i64 v, .int .i64 fr, .int .i64 q] w fun en w' => en = .returned (.int .i64 e) ∧
      ((e = 0 ∧ QWL w0 w w' m d n p O x a r (updW Wf lf (indexOf v 0) (encOf (flagsOf q true) fr)) us) ∨ (e ≠ 0 ∧ QXL w0 w w' m d n p O x a r M vs)) := by
  have HMd := Lib.hid (sp_made h.sp)
  have HF := Lib.hid (sp_isFrame h.sp h.st fr true (decide_eq_true hf))
  have HWy := Lib.hid (sp_way h.sp h.st v)
  have HQ := Lib.hid h
  have HWay := Lib.hid hway
  have HTk := Lib.hid ht
  have HB := Lib.hid hb
  have HPt := Lib.hid hp
  have htl := ht.len
  have HA := Lib.hid ha
  have HY3 := Lib.hid hy3
  have hv0 : decide (v < 0) = false := by simp; omega
  have hv1 : decide (v ≥ 67108864) = false := by simp; omega
  have hq0 : decide (q < 1) = false := by simp; omega
  have hq1 : decide (q > 7) = false := by simp; omega
  have hdw := h.lt d (by simp)
  have HDW := Lib.hid hdw
  have HLT := Lib.hid h.lt
  have HW0 := Lib.hid h.below.size
  clear h hway ht hb hp hv hq hf ha hy3 hdw
  go_enter Try.func13, Try.ntmps13
  go_wp2_with fail
  refine HMd.out.mono ?_
  rintro e' w1 ⟨rfl, e1⟩
  subst w1
  go_wp2_with fail
  refine HF.out.mono ?_
  rintro e' w1 ⟨rfl, e1⟩
  subst w1
  go_wp2_with fail
  refine HWy.out.mono ?_
  rintro e' w2 ⟨ys2, u2, rfl, hw2, ho2, g2⟩
  obtain rfl := HWay.out ys2 hw2
  obtain ⟨s2, c2, rfl, _⟩ := ho2.form
  have HO2 := Lib.hid ho2
  have HG2 := Lib.hid g2
  have HT := Lib.hid (sp_takes (HQ.out.grow g2) HA.out ys2.length HY3.out HTk.out HB.out)
  clear hw2 ho2 g2
  go_wp2_with fail
  refine HT.out.mono ?_
  rintro e' w3 (⟨rfl, tv, rfl, O3, q3, t3, f3, o3⟩ | ⟨he, rfl, h3⟩)
  · obtain ⟨s3, c3, rfl, _⟩ := o3.form
    have hwd : w.heap.size ≤ w2.heap.size := HG2.out.size
    have h2g := fun b (hb : (Value.slice s2 ys2.length c2).ownBlock = some b) => HO2.out.lt hb
    have hE0 : EnterAt w0 w w3 m d n p O x a r us v ts yf Wf (.slice s3 ts.length c3) (.slice s2 ys2.length c2) 0 :=
      ⟨O3, M, ys2, q3, (Turn.grown HG2.out).trans' t3, fun b hb => by
        rcases f3 b hb with k | k
        · exact .inl k
        · exact .inr (Nat.le_trans hwd k), o3.lower hwd, HO2.out.kept fun b hb => t3.block b (h2g b hb).2 fun hm => by
          have h1 := (h2g b hb).1
          rcases List.mem_cons.1 hm with k | k
          · have := HDW.out; omega
          · have := HLT.out b (by simp [k]); omega, fun b hb hb2 => by
          have h1 := (h2g b hb).2
          have h2 := (o3.lt hb2).1
          omega, (HPt.out rfl).1⟩
    have HE0 := Lib.hid hE0
    have HP3 := Lib.hid (HPt.out rfl).2
    clear q3 t3 f3 o3 hwd h2g hE0
    go_wp2_with fail
    go_loopw [9, 46] (fun wv iv wr => ∃ k : Nat, k ≤ ts.length ∧ iv = .int .i64 k ∧ Hid (EnterAt w0 w wr m d n p O x a r us v ts yf Wf (.slice s3 ts.length c3) wv k)) (fun _ iv _ => ts.length - (intOf iv).toNat)
    case atStart => exact ⟨0, by omega, rfl, HE0⟩
    case round =>
      obtain ⟨k, hk, rfl, HEA⟩ := hrel
      obtain ⟨O4, M4, yk, k1, k2, k3, k4, k5, k6, k7⟩ := HEA.out
      have HQ4 := Lib.hid k1
      have HT4 := Lib.hid k2
      have HF4 := Lib.hid k3
      have HTv := Lib.hid k4
      have HWv := Lib.hid k5
      have HNe := Lib.hid k6
      have cx := k1.sp.at.1
      clear k1 k2 k3 k4 k5 k6 HEA
      by_cases hlt : k < ts.length
      · obtain ⟨t, hkt⟩ : ∃ t, ts[k]? = some t := ⟨_, List.getElem?_eq_getElem hlt⟩
        have hdr : ts.drop k = t :: ts.drop (k + 1) := by
          rw [List.drop_eq_getElem_cons hlt]
          rw [List.getElem?_eq_getElem hlt] at hkt
          injection hkt with hkt
          rw [hkt]
        obtain ⟨g, rfl⟩ : ∃ g, s3 = some ⟨g, 0, none⟩ := by
          obtain ⟨s', c', e', hf⟩ := HTv.out.form
          injection e' with e1 e2 e3
          subst e1
          rcases hf with e | ⟨g, e, _⟩
          · rw [e] at hlt; simp at hlt
          · exact ⟨g, e⟩
        have c0 : wr.cell? ⟨g, k, none⟩ = some (.int .i64 t) := by
          have := HTv.out.cells (g := g) rfl k (.int .i64 t) (by simp [hkt])
          rw [Addr.add_lit, Nat.zero_add] at this
          exact this
        rw [hdr] at k7
        cases k7 with
        | @cons _ _ _ _ pq L j _ _ hj hjp hp0 ht0 hput =>
          have HZ := Lib.hid (zeroE HQ4.out.st t t.toNat (by omega) (by omega))
          have hW1 := words_zero (n := n) HQ4.out.st.len t.toNat (by omega)
          rw [show ((t.toNat : Nat) : Int) = t by omega] at hW1
          have HW1 := Lib.hid hW1
          have HPut := Lib.hid hput
          have HJ := Lib.hid hj
          have HJP := Lib.hid hjp
          have HP0 := Lib.hid hp0
          have HT0 := Lib.hid ht0
          obtain ⟨s5, c5, rfl, _⟩ := HWv.out.form
          have hyl : yk.length ≤ 999999 := by omega
          have HYL := Lib.hid hyl
          clear hkt hdr hW1 hput hj hjp hp0 ht0 hyl
          go_wp2_with fail
          refine HZ.out.mono ?_
          rintro e' w4 ⟨rfl, s4, g4⟩
          have HQ5 := Lib.hid (HQ4.out.mem1 s4 g4)
          have HWv5 := Lib.hid (HWv.out.mem g4 HDW.out)
          have HTv5 := Lib.hid (HTv.out.mem g4 HDW.out)
          have G4 := Lib.hid g4
          have HWr := Lib.hid (sp_write_at HQ5.out HWv5.out HDW.out v 1 t pq L j HJ.out HJP.out HP0.out)
          clear s4 g4
          go_wp2_with fail
          refine HWr.out.mono ?_
          rintro e' w5 ⟨rfl, s5', g5⟩
          have HQ6 := Lib.hid (HQ5.out.mem1 s5' g5)
          have HWv6 := Lib.hid (HWv5.out.mem g5 HDW.out)
          have HTv6 := Lib.hid (HTv5.out.mem g5 HDW.out)
          have G5 := Lib.hid (grown_trans G4.out g5)
          have hw5 : w.heap.size ≤ w5.heap.size := Nat.le_trans HT4.out.size (grown_trans G4.out g5).size
          have HW5 := Lib.hid hw5
          clear s5' g5 hw5
          go_wp2_with (at_builtin; refine wpList_int8 w5 rfl _ _ rfl w.heap.size _ yk t (by rfl) HWv6.out w5.heap.size (by rfl) rfl HYL.out HW5.out ?_; intro v9 w9 hown9 hg9 hb9; obtain ⟨g9, c9, rfl⟩ := ownsRow_succ (k := yk.length) (by have := hown9; unfold IOwn at this; rw [List.length_append] at this; exact this); have O9 := Lib.hid hown9; have G9 := Lib.hid hg9; have B9 := Lib.hid hb9; clear hown9 hg9 hb9)
          go_roundw
          case rel =>
            have ga := World.grownBy_alloc w5 (.cells #[.int .i64 t] 3) none
            have hlt3 : ∀ b, b ∈ x :: m :: d :: [] → b < w.heap.size := fun b hb => HLT.out b (by simp only [List.mem_cons, List.not_mem_nil, or_false] at hb ⊢; rcases hb with hb | hb | hb <;> simp [hb])
            have o6 := HWv6.out.grow ga
            have q9 := (HQ6.out.grow ga).row G9.out HW0.out hlt3 (fun k hk => own_blk o6 hk) (by decide) (by decide)
            have t9 := Turn.row ((HT4.out.trans' (Turn.one (O := d :: O) G5.out (by simp))).trans' (Turn.grown ga)) G9.out (fun k hk => (own_blk o6 hk).1)
            have hw := words_set (n := n) (L := splice M4 (t.toNat * 4096) zeroPage) HQ5.out.st.len HP0.out (index_okX v L) (okU_enc 1 t)
            rw [HW1.out] at hw
            refine ⟨k + 1, by omega, by go_num, Lib.hid ⟨O4, _, yk ++ [t], q9, t9, HF4.out, IOwn.kept (HTv6.out.grow ga) fun b hb => G9.out.block b (by have := ((HTv6.out.grow ga).lt hb).2; exact this) fun e => HNe.out b e.symm hb, O9.out, fun b hb hb2 => ?_, by rw [hw]; exact HPut.out⟩⟩
            rcases B9.out with e | e
            · exact HNe.out b (e.symm.trans hb) hb2
            · have h1 := (HTv6.out.lt hb2).2
              have h2 := ga.size
              rw [hb] at e
              injection e with e
              omega
          case measure => simp [intOf]; omega
      · obtain rfl : k = ts.length := by omega
        rw [List.drop_length] at k7
        obtain ⟨e1, e2⟩ : yk = yf ∧ wordI n M4 = Wf := by cases k7; exact ⟨rfl, rfl⟩
        have HE2 := Lib.hid e2
        subst e1
        have HP4 := Lib.hid HP3.out
        clear k7 e2
        go_wp2_with fail
        refine (flagsOf_ok q true wr).mono ?_
        rintro e' w4 ⟨rfl, h4⟩
        have g4 := grown_of_below' h4
        have HQ5 := Lib.hid (HQ4.out.grow g4)
        have HWr := Lib.hid (sp_write_at HQ5.out (HWv.out.grow g4) HDW.out v (flagsOf q true) fr lf 0 2 (.inr (.inr ⟨HP3.out.1, rfl, rfl⟩)) HP3.out.2.1 HP3.out.2.2)
        have T5 := Lib.hid (HT4.out.trans' (Turn.grown g4))
        obtain ⟨s5, c5, rfl, _⟩ := HWv.out.form
        clear h4 g4
        go_wp2_with fail
        refine HWr.out.mono ?_
        rintro e' w5 ⟨rfl, s5', g5⟩
        have HQ6 := Lib.hid (HQ5.out.mem1 s5' g5)
        have T6 := Lib.hid (T5.out.trans' (Turn.one (O := d :: O) g5 (by simp)))
        clear s5' g5
        go_wp2_with fail
        go_ret
        refine ⟨rfl, _, ?_, O4, HQ6.out, T6.out, HF4.out⟩
        rw [words_set (n := n) HQ5.out.st.len HP3.out.2.2 (index_okX v 0) (okU_enc _ _), HE2.out]
  · have b0 : (e != 0) = true := by simpa using he
    have H3 := Lib.hid (QXL.since HG2.out h3)
    have HE := Lib.hid he
    clear h3 he
    go_wp2_with fail
    go_ret
    exact ⟨rfl, .inr ⟨HE.out, H3.out⟩⟩
end
end Go.Proofs.Ytlieommbomjdaaa

namespace Go.Proofs.Ytlieommbomjdaaa
open Go.ChangeShapes Go.WideShapes Go.ChangeAt Go.RowKit Go.Deep
set_option linter.unusedVariables false

/-- Tables that have nothing given away, from a way's end on. -/
inductive Tidy (n : Nat) (v : Int) : List Int → WoF → List FrV → WoF → List FrV → Prop
  | root {r : Int} {W : WoF} {xs : List FrV} : Tidy n v [r] W xs W xs
  | keep {ys : List Int} {t : Int} {j : Nat} {W : WoF} {xs : List FrV} : (ys.length = 2 ∧ j = 1) ∨ (ys.length = 3 ∧ j = 2) → ys[j]? = some t → (∃ i, okX i ∧ W t i ≠ 0) → Tidy n v ys W xs W xs
  | give {ys : List Int} {t p L : Int} {j : Nat} {W Wf : WoF} {xs zs xf : List FrV} : (ys.length = 1 ∧ j = 0 ∧ L = 2) ∨ (ys.length = 2 ∧ j = 1 ∧ L = 1) → ys[j]? = some p → 0 ≤ p ∧ p < n → (∀ i, okX i → W t i = 0) → giveF xs t = ⟨0, 0, zs⟩ → zs.length = n →
      Tidy n v ys (updW W p (indexOf v L) 0) zs Wf xf → Tidy n v (ys ++ [t]) W xs Wf xf

theorem IOwn.cut {w : World} {base g c : Nat} {ys : List Int} {t : Int} (h : IOwn w base (.slice (some ⟨g, 0, none⟩) (ys ++ [t]).length c) (ys ++ [t])) : IOwn w base (.slice (some ⟨g, 0, none⟩) ys.length c) ys := by
  obtain ⟨cur, hb, h2, h3, h4, h5, h6⟩ := h.blk
  rw [List.length_append, List.length_singleton] at h3 h6
  refine ⟨by simp, .inr ⟨g, c, cur, rfl, hb, h2, by omega, h4, h5, ?_⟩⟩
  rw [Nat.mul_one]
  have := congrArg (List.take ys.length) h6
  rw [List.take_take, Nat.min_eq_left (by omega), List.map_append, List.take_left' (by simp)] at this
  exact this
theorem enc_zero : encOf 0 0 = 0 := by unfold encOf; omega

section
variable {w0 w w' w2 : World} {m d n p x : Nat} {O O2 : List Nat} {a r : Int} {M M' : List UInt8} {xs zs us vs xf : List FrV} {ts : List Int} {e : Int}
/-- Between two rounds of Remove. -/
def RemoveAt (w0 w wr : World) (m d n p : Nat) (O : List Nat) (x : Nat) (a r : Int) (v : Int) (Wf : WoF) (xf : List FrV) (wv : Value) (l : Nat) : Prop :=
  ∃ O' M' yk xk, QX w0 wr m d n p O' x a r M' xk ∧ Turn (d :: O) w wr ∧ (∀ b, b ∈ O' → b ∈ O ∨ w.heap.size ≤ b) ∧ IOwn wr w.heap.size wv yk ∧ yk.length = l ∧ Tidy n v yk (wordI n M') xk Wf xf

set_option maxHeartbeats 8000000 in
theorem sp_remove (h : QX w0 w m d n p O x a r M xs) (v A B rt mt lf : Int) (hfind : leafE n (wordI n M) r v = some (A, B)) (hway : ∀ zs, WayEnd n (wordI n M) r v zs → zs = [rt, mt, lf]) (hlf : 0 ≤ lf ∧ lf < n) (Wf : WoF) (ht : Tidy n v [rt, mt, lf] (updW (wordI n M) lf (indexOf v 0) 0) xs Wf xf) :
    Calls Try.prog 15 #[.pointer (some ⟨x, 0, none⟩), .int .i64 v] w fun en w' => en = .returned (.bool true) ∧ QWL w0 w w' m d n p O x a r Wf xf := by
  have hF := sp_find h.sp h.st v
  rw [hfind] at hF
  unfold findV at hF
  have HF := Lib.hid hF
  have HQ := Lib.hid h
  have HWay := Lib.hid hway
  have HLF := Lib.hid hlf
  have HTd := Lib.hid ht
  have hdw := h.lt d (by simp)
  have HDW := Lib.hid hdw
  have HW0 := Lib.hid h.below.size
  clear h hF hfind hway hlf ht hdw
  go_enter Try.func15, Try.ntmps15
  go_wp2_with fail
  refine HF.out.mono ?_
  rintro e' w1 ⟨rfl, g1⟩
  have HG1 := Lib.hid g1
  have ga := World.grownBy_alloc w1 (.cells #[.int .i64 A, .int .i64 B] 44) none
  have HG2 := Lib.hid (grown_trans g1 ga)
  have hq2 := HQ.out.grow (grown_trans g1 ga)
  have HQ2 := Lib.hid hq2
  have HWy := Lib.hid (sp_way hq2.sp hq2.st v)
  clear g1 ga hq2
  go_wp2_with fail
  refine HWy.out.mono ?_
  rintro e' w3 ⟨ys3, u3, rfl, hw3, ho3, g3⟩
  obtain rfl := HWay.out ys3 hw3
  have HG3 := Lib.hid (grown_trans HG2.out g3)
  have HQ3 := Lib.hid (HQ2.out.grow g3)
  have HO3 := Lib.hid (ho3.lower HG2.out.size)
  obtain ⟨s3, c3, rfl, hf3⟩ := ho3.form
  obtain ⟨g, rfl⟩ : ∃ g, s3 = some ⟨g, 0, none⟩ := by
    rcases hf3 with e | ⟨g, e, _⟩
    · cases e
    · exact ⟨g, e⟩
  have HWr := Lib.hid (sp_write_at HQ3.out HO3.out HDW.out v 0 0 lf 0 2 (.inr (.inr ⟨rfl, rfl, rfl⟩)) rfl HLF.out)
  clear hw3 ho3 g3 hf3
  go_wp2_with fail
  refine HWr.out.mono ?_
  rintro e' w4 ⟨rfl, s4, g4⟩
  have HQ4 := Lib.hid (HQ3.out.mem1 s4 g4)
  have hW := words_set (n := n) HQ3.out.st.len HLF.out (index_okX v 0) (okU_enc 0 0)
  rw [enc_zero] at hW s4
  have HR0 := Lib.hid (show RemoveAt w0 w w4 m d n p O x a r v Wf xf (.slice (some ⟨g, 0, none⟩) 3 c3) 3 from
    ⟨O, _, [rt, mt, lf], xs, HQ3.out.mem1 s4 g4, (Turn.grown HG3.out).trans' (Turn.one (O := d :: O) g4 (by simp)), fun b hb => .inl hb, HO3.out.mem g4 HDW.out, rfl, by rw [hW]; exact HTd.out⟩)
  clear s4 g4 hW
  go_wp2_with fail
  go_loopw [7] (fun wv wr => ∃ (l c : Nat), l ≤ 3 ∧ wv = .slice (some ⟨g, 0, none⟩) l c ∧ Hid (RemoveAt w0 w wr m d n p O x a r v Wf xf wv l)) (fun wv _ => lenV wv)
  case atStart => exact ⟨3, c3, by omega, rfl, HR0⟩
  case round =>
    obtain ⟨l, c, hl3, rfl, HR⟩ := hrel
    obtain ⟨O5, M5, yk, xk, k1, k2, k3, k4, k5, k6⟩ := HR.out
    have HQ5 := Lib.hid k1
    have HT5 := Lib.hid k2
    have HF5 := Lib.hid k3
    have HO5 := Lib.hid k4
    clear k1 k2 k3 HR
    cases k6 with
    | @root r1 =>
      have k5 : 1 = l := k5
      subst k5
      clear k4
      go_wp2_with fail
      go_ret
      exact ⟨rfl, M5, rfl, O5, HQ5.out, HT5.out, HF5.out⟩
    | @keep _ t j _ _ hj hjt hne =>
      have c0 : wr.cell? ⟨g, j, none⟩ = some (.int .i64 t) := by
        have := k4.cells (g := g) rfl j (.int .i64 t) (by simp [hjt])
        rw [Addr.add_lit, Nat.zero_add] at this
        exact this
      have HG := Lib.hid (sp_full HQ5.out t hne)
      rcases hj with ⟨hlen, rfl⟩ | ⟨hlen, rfl⟩
      all_goals
        rw [hlen] at k5
        subst k5
        clear k4 hne hjt hlen
        go_wp2_with fail
        refine HG.out.mono ?_
        rintro e' w6 ⟨rfl, e6⟩
        subst w6
        go_wp2_with fail
        go_ret
        exact ⟨rfl, M5, rfl, O5, HQ5.out, HT5.out, HF5.out⟩
    | @give ys t p2 L j _ _ _ zs _ hj hjp hp0 hz hgv hzl hrest =>
      have c0 : wr.cell? ⟨g, ys.length, none⟩ = some (.int .i64 t) := by
        have := k4.cells (g := g) rfl ys.length (.int .i64 t) (by simp)
        rw [Addr.add_lit, Nat.zero_add] at this
        exact this
      have hblk := HO5.out
      rw [← k5] at hblk
      obtain ⟨_, _, _, hcap, _⟩ := hblk.blk
      rw [List.length_append, List.length_singleton] at hcap
      have HG := Lib.hid (sp_clear HQ5.out t hz 0 hgv hzl)
      have HRest := Lib.hid hrest
      have HJP := Lib.hid hjp
      have HP0 := Lib.hid hp0
      clear hz hgv hzl hrest hjp hp0
      rcases hj with ⟨hlen, rfl, rfl⟩ | ⟨hlen, rfl, rfl⟩
      · have HL := Lib.hid hlen
        rw [hlen] at c0
        have hcz : (1 : Int) ≤ (c : Int) := by omega
        clear hcap
        have HCut := Lib.hid (fun W (h : IOwn W w.heap.size (.slice (some ⟨g, 0, none⟩) (ys ++ [t]).length c) (ys ++ [t])) => h.cut)
        rw [show (ys ++ [t]).length = 2 by rw [List.length_append, hlen]; rfl, hlen] at HCut
        rw [show (ys ++ [t]).length = 2 by rw [List.length_append, hlen]; rfl] at k5
        subst k5
        have k0 : IntKind.i64.wrap 1 = 1 := by decide
        have k0' : IntKind.i64.wrap 2 = 2 := by decide
        clear k4 hlen
        go_wp2_with fail
        refine HG.out.mono ?_
        rintro e' w6 ⟨rfl, h6⟩
        obtain ⟨O6, q6, t6, f6⟩ := h6
        have HO6 := Lib.hid (HCut.out w6 (HO5.out.kept fun b hb => t6.block b (HO5.out.lt hb).2 fun hm => by
          rcases List.mem_cons.1 hm with e | hm
          · have := (HO5.out.lt hb).1; have := HDW.out; omega
          · obtain ⟨cur, hc⟩ := (own_blk HO5.out hb).2
            exact HQ5.out.pool.other hc (by decide) (by decide) hm))
        have HQ6 := Lib.hid q6
        have HT6 := Lib.hid (HT5.out.trans t6 fun b hb => by
          rcases List.mem_cons.1 hb with e | hb
          · exact .inl (by simp [e])
          · rcases HF5.out b hb with e | e
            · exact .inl (by simp [e])
            · exact .inr e)
        have HF6 := Lib.hid (show ∀ b, b ∈ O6 → b ∈ O ∨ w.heap.size ≤ b from fun b hb => by
          rcases f6 b hb with e | e
          · exact HF5.out b e
          · exact .inr (Nat.le_trans HT5.out.size e))
        have HWr2 := Lib.hid (sp_write_at HQ6.out HO6.out HDW.out v 0 0 p2 2 0 (.inl ⟨HL.out, rfl, rfl⟩) HJP.out HP0.out)
        clear q6 t6 f6
        go_wp2_with fail
        refine HWr2.out.mono ?_
        rintro e' w7 ⟨rfl, s7, g7⟩
        have hW7 := words_set (n := n) HQ6.out.st.len HP0.out (index_okX v 2) (okU_enc 0 0)
        rw [enc_zero] at hW7 s7
        have HR7 := Lib.hid (show RemoveAt w0 w w7 m d n p O x a r v Wf xf (.slice (some ⟨g, 0, none⟩) 1 c) 1 from
          ⟨O6, _, ys, zs, HQ6.out.mem1 s7 g7, HT6.out.trans' (Turn.one (O := d :: O) g7 (by simp)), HF6.out, HO6.out.mem g7 HDW.out, HL.out, by rw [hW7]; exact HRest.out⟩)
        clear s7 g7 hW7
        go_wp2_with fail
        go_roundw
        case rel => exact ⟨1, c, by omega, rfl, HR7⟩
        case measure => simp [lenV]
      · have HL := Lib.hid hlen
        rw [hlen] at c0
        have hcz : (2 : Int) ≤ (c : Int) := by omega
        clear hcap
        have HCut := Lib.hid (fun W (h : IOwn W w.heap.size (.slice (some ⟨g, 0, none⟩) (ys ++ [t]).length c) (ys ++ [t])) => h.cut)
        rw [show (ys ++ [t]).length = 3 by rw [List.length_append, hlen]; rfl, hlen] at HCut
        rw [show (ys ++ [t]).length = 3 by rw [List.length_append, hlen]; rfl] at k5
        subst k5
        have k0 : IntKind.i64.wrap 1 = 1 := by decide
        have k0' : IntKind.i64.wrap 2 = 2 := by decide
        clear k4 hlen
        go_wp2_with fail
        refine HG.out.mono ?_
        rintro e' w6 ⟨rfl, h6⟩
        obtain ⟨O6, q6, t6, f6⟩ := h6
        have HO6 := Lib.hid (HCut.out w6 (HO5.out.kept fun b hb => t6.block b (HO5.out.lt hb).2 fun hm => by
          rcases List.mem_cons.1 hm with e | hm
          · have := (HO5.out.lt hb).1; have := HDW.out; omega
          · obtain ⟨cur, hc⟩ := (own_blk HO5.out hb).2
            exact HQ5.out.pool.other hc (by decide) (by decide) hm))
        have HQ6 := Lib.hid q6
        have HT6 := Lib.hid (HT5.out.trans t6 fun b hb => by
          rcases List.mem_cons.1 hb with e | hb
          · exact .inl (by simp [e])
          · rcases HF5.out b hb with e | e
            · exact .inl (by simp [e])
            · exact .inr e)
        have HF6 := Lib.hid (show ∀ b, b ∈ O6 → b ∈ O ∨ w.heap.size ≤ b from fun b hb => by
          rcases f6 b hb with e | e
          · exact HF5.out b e
          · exact .inr (Nat.le_trans HT5.out.size e))
        have HWr2 := Lib.hid (sp_write_at HQ6.out HO6.out HDW.out v 0 0 p2 1 1 (.inr (.inl ⟨HL.out, rfl, rfl⟩)) HJP.out HP0.out)
        clear q6 t6 f6
        go_wp2_with fail
        refine HWr2.out.mono ?_
        rintro e' w7 ⟨rfl, s7, g7⟩
        have hW7 := words_set (n := n) HQ6.out.st.len HP0.out (index_okX v 1) (okU_enc 0 0)
        rw [enc_zero] at hW7 s7
        have HR7 := Lib.hid (show RemoveAt w0 w w7 m d n p O x a r v Wf xf (.slice (some ⟨g, 0, none⟩) 2 c) 2 from
          ⟨O6, _, ys, zs, HQ6.out.mem1 s7 g7, HT6.out.trans' (Turn.one (O := d :: O) g7 (by simp)), HF6.out, HO6.out.mem g7 HDW.out, HL.out, by rw [hW7]; exact HRest.out⟩)
        clear s7 g7 hW7
        go_wp2_with fail
        go_roundw
        case rel => exact ⟨2, c, by omega, rfl, HR7⟩
        case measure => simp [lenV]
end
end Go.Proofs.Ytlieommbomjdaaa
