/- VmapHoles, walked out of what package vmap says. Written by wip/genvlaw.py and what is behind it. -/
import Derived.Test.YtamkmmhjmpjibaaVmpMore
import Derived.OwnWalk
namespace Go.Proofs.Ytamkmmhjmpjibaa
open Go.ChangeShapes Go.WideShapes Go.ChangeAt Go.RowKit Go.Deep
set_option linter.unusedVariables false
set_option linter.unusedSimpArgs false
set_option linter.unusedSimpArgs false

/-- One of the three calls on a range, told by whether all of it has entries. -/
theorem other_w {L : List En} (h : MapL L) {lo : Int} {k : Nat} (hr : rangeV lo k = true) (c v most : Int) (on : Bool) (h0 : 0 ≤ v) (h1 : v ≤ most) (hk : (c = 3 ∧ most ≤ 2) ∨ (c = 4 ∧ most ≤ 4) ∨ c = 5) {b : Bool} (hb : wholeB L lo (lo + k) = b) :
    ∃ M e, otherV L lo k c v most on = ⟨M, 0, [], e⟩ ∧ MapL M ∧ M.length ≤ L.length + 3 ∧ wholeB M lo (lo + k) = b ∧ (b = true → e = 0) ∧ (b = false → e = 5 ∧ M = L) := by
  obtain ⟨d1, d2, -⟩ := other_did h lo k c v most on hk
  have hro : b = true → RF 0 (chgE (setV c v on) L lo (lo + k)) := fun e => rf_other h.rf h0 h1 hk
  unfold otherV at d1 d2 ⊢
  rw [if_pos ⟨hr, h0, h1⟩] at d1 d2 ⊢
  cases b with
  | true =>
    rw [if_pos hb] at d1 d2 ⊢
    exact ⟨_, _, rfl, d1, d2, by rw [set_whole h (hro rfl)]; exact hb, fun _ => rfl, fun e => by cases e⟩
  | false =>
    rw [if_neg (by rw [hb]; simp)]
    exact ⟨_, _, rfl, h, by omega, hb, fun e => (by cases e), fun _ => ⟨rfl, rfl⟩⟩
theorem prot_w {L : List En} (h : MapL L) {lo : Int} {k : Nat} (hr : rangeV lo k = true) {b : Bool} (hb : wholeB L lo (lo + k) = b) :
    ∃ M e, protV L lo k 0 = ⟨M, 0, [], e⟩ ∧ MapL M ∧ M.length ≤ L.length + 3 ∧ (b = true → e = 0) ∧ (b = false → e = 5 ∧ M = L) := by
  obtain ⟨d1, d2, -⟩ := prot_did h lo k 0
  unfold protV at d1 d2 ⊢
  rw [if_pos ⟨hr, by decide, by decide⟩, mayP_zero, if_pos rfl] at d1 d2 ⊢
  cases b with
  | true =>
    rw [if_pos hb] at d1 d2 ⊢
    exact ⟨_, _, rfl, d1, d2, fun _ => rfl, fun e => by cases e⟩
  | false =>
    rw [if_neg (by rw [hb]; simp)]
    exact ⟨_, _, rfl, h, by omega, fun e => (by cases e), fun _ => ⟨rfl, rfl⟩⟩
theorem unmap_w {L : List En} (h : MapL L) {lo : Int} {k : Nat} (hr : rangeV lo k = true) :
    ∃ M g, unmapV L lo k = ⟨M, 0, g, 0⟩ ∧ MapL M ∧ M.length ≤ L.length + 3 ∧ ∃ M2, unmapV M lo k = ⟨M2, 0, [], 0⟩ ∧ MapL M2 := by
  obtain ⟨d1, d2, -⟩ := unmap_did h lo k
  have hp := page_unmap h hr
  obtain ⟨M, hM⟩ : ∃ M, (unmapV L lo k).l = M := ⟨_, rfl⟩
  rw [hM] at d1 d2 hp
  obtain ⟨q1, -⟩ := unmap_did d1 lo k
  have hg : goneE M lo (lo + k) = [] := gone_nil d1.rf fun pg h1 h2 => by rw [hp, if_pos ⟨h1, h2⟩]
  unfold unmapV at hM q1 ⊢
  rw [if_pos hr] at hM q1 ⊢
  subst hM
  exact ⟨_, _, rfl, d1, d2, _, by rw [if_pos hr]; exact congrArg (fun g => Did.mk _ 0 g 0) hg, q1⟩
theorem EOwn.far {w w' : World} {base : Nat} {O : List Nat} {u : Value} {L : List En} (h : EOwn w base u L) (t : Turn O w w') (ho : ∀ g, u.ownBlock = some g → g ∉ O) : EOwn w' base u L :=
  OwnOf.kept h fun b hb => t.block b (OwnOf.lt h hb).2 (ho b hb)
theorem far_next {w : World} {base r : Nat} {u v v' : Value} {L : List En} (hu : EOwn w base u L) (h : ∀ g, u.ownBlock = some g → g ∉ r :: blkL v) (n : New w v v') : ∀ g, u.ownBlock = some g → g ∉ r :: blkL v' := fun g hg hm => by
  rcases List.mem_cons.1 hm with e | e
  · exact h g hg (e ▸ List.mem_cons_self)
  · rcases n g (mem_blk.1 e) with q | q
    · exact h g hg (List.mem_cons_of_mem _ (mem_blk.2 q))
    · have := (OwnOf.lt hu hg).2
      omega

set_option maxRecDepth 100000 in
set_option maxHeartbeats 32000000 in
theorem holes_walk (W : World) (s : Option Addr) (l c : Nat) (As : List VAct) (hA : VActsAre W s l As) (lo n : Int) (ho : okI lo) (hn : okU n) :
    Calls Try.prog 9 #[.slice s l c, .int .i64 lo, .int .u64 n] W fun e w' => e = .returned (.bool true) ∧ W.grownBy w' none := by
  have HAs := Lib.hid hA
  have HLv := Lib.hid (fun wx => lives_ok wx)
  have HNw := Lib.hid (fun wx => new_ok wx)
  by_cases hl : 40 < l
  · have b0 : decide ((l : Int) > 40) = true := decide_eq_true (by omega)
    clear hA
    go_enter Try.func9, Try.ntmps9
    go_wp2_with fail
    refine (HLv.out _).mono ?_
    rintro e w1 ⟨rfl, g1⟩
    have HG1 := Lib.hid g1
    clear g1
    go_wp2_with fail
    go_ret
    exact ⟨rfl, HG1.out⟩
  · have b0 : decide ((l : Int) > 40) = false := decide_eq_false (by omega)
    by_cases k1 : lo < 0
    · have b1 : decide (lo < 0) = true := decide_eq_true k1
      go_enter Try.func9, Try.ntmps9
      go_wp2_with fail
      refine (HLv.out _).mono ?_
      rintro e w1 ⟨rfl, g1⟩
      have HG1 := Lib.hid g1
      clear g1
      go_wp2_with fail
      go_ret
      exact ⟨rfl, HG1.out⟩
    · have b1 : decide (lo < 0) = false := decide_eq_false k1
      by_cases k2 : lo > 67108814
      · have b2 : decide (lo > 67108814) = true := decide_eq_true k2
        go_enter Try.func9, Try.ntmps9
        go_wp2_with fail
        refine (HLv.out _).mono ?_
        rintro e w1 ⟨rfl, g1⟩
        have HG1 := Lib.hid g1
        clear g1
        go_wp2_with fail
        go_ret
        exact ⟨rfl, HG1.out⟩
      · have b2 : decide (lo > 67108814) = false := decide_eq_false k2
        obtain ⟨n0, n1⟩ := hn
        have HBs := Lib.hid (grown_refl W none)
        clear hA
        go_enter Try.func9, Try.ntmps9
        go_wp2_with fail
        refine (HNw.out _).mono ?_
        rintro e w1 ⟨rfl, k1, g1⟩
        have HSt := Lib.hid (Nat.le_refl W.heap.size)
        have HI := Lib.hid (show VM w1 W.heap.size (.slice none 0 0) (foldV [] (As.take 0)) from k1)
        have HG1 := Lib.hid g1
        clear k1 g1
        go_wp2_with fail
        go_loopw [7, 35] (fun mv iv wr => ∃ (q r : Nat) (v : Value), q ≤ l ∧ mv = .pointer (some ⟨r, 0, none⟩) ∧ iv = .int .i64 q ∧ W.heap.size ≤ r ∧ Hid (VM wr r v (foldV [] (As.take q))) ∧ Hid (W.grownBy wr none)) (fun _ iv _ => l - (intOf iv).toNat)
        case atStart => exact ⟨0, _, _, by omega, rfl, rfl, HSt.out, HI, HG1⟩
        case round =>
          clear HI HG1 HSt
          obtain ⟨q, r, v, hq, rfl, rfl, hr, HV, HG⟩ := hrel
          by_cases hlt : q < l
          · obtain ⟨A, hAq⟩ : ∃ A, As[q]? = some A := ⟨_, List.getElem?_eq_getElem (by rw [HAs.out.len]; exact hlt)⟩
            obtain ⟨b, o, hs, hc⟩ := HAs.out.at (grown_trans HBs.out HG.out) hAq
            subst hs
            obtain ⟨c0, c1, c2, c3, c4, c5, c6, c7, c8, c9, c10, c11, c12, c13, c14⟩ := hc
            have HFt := Lib.hid (fold_take16 [] hAq)
            obtain ⟨hM, hMl⟩ := fold_did (As.take q) mapL_nil
            have hMl2 : (foldV [] (As.take q)).length ≤ 900 := by
              rw [List.length_take] at hMl
              simp at hMl
              omega
            have HGb := Lib.hid (World.grownBy_alloc wr (.cells #[.int .i64 A.k, .int .i64 A.lo, .int .i64 A.n, .int .i64 A.how, .int .i64 A.x.s, .int .i64 A.x.e, .int .i64 A.x.f, .int .i64 A.x.o, .bool A.x.sh, .int .i64 A.x.p, .int .i64 A.x.m, .int .i64 A.x.i, .int .i64 A.x.a, .bool A.x.wi, .bool A.on] 33) none)
            have HVb := Lib.hid (HV.out.grow HGb.out)
            have HAc := Lib.hid (act_ok HVb.out hM hMl2 A (HAs.out.ok A (List.mem_of_getElem? hAq)))
            clear hAq hM hMl hMl2
            go_wp2_with fail
            refine HAc.out.mono ?_
            rintro e w2 ⟨r', u, v', rfl, -, k2, k3, -, k4, t2⟩
            have HV2 := Lib.hid k2
            have HG2 := Lib.hid (turn_up (grown_trans HG.out HGb.out) hr (own_up HV.out hr) t2)
            have hr2 : W.heap.size ≤ r' := by
              rcases k3 with e | e
              · omega
              · have := HG.out.size
                have := HGb.out.size
                omega
            clear k2 k3 k4 t2 c0 c1 c2 c3 c4 c5 c6 c7 c8 c9 c10 c11 c12 c13 c14
            go_wp2_with fail
            go_roundw
            case rel => exact ⟨q + 1, r', v', by omega, rfl, by go_num, hr2, by rw [HFt.out]; exact HV2, HG2⟩
            case measure => simp [intOf]; omega
          · obtain rfl : q = l := by omega
            have HVf := HV.out
            rw [List.take_of_length_le (by rw [HAs.out.len]; exact Nat.le_refl _)] at HVf
            obtain ⟨hM, hMl⟩ := fold_did As mapL_nil
            simp only [List.length_nil, HAs.out.len] at hMl
            obtain ⟨Lm, hLm⟩ : ∃ Lm, foldV [] As = Lm := ⟨_, rfl⟩
            rw [hLm] at HVf hM hMl
            have HVL := Lib.hid HVf
            have HM := Lib.hid hM
            have hLl : Lm.length ≤ 200 := by omega
            clear HVf hM hMl HV hLm HNw
            obtain ⟨k, hk⟩ : ∃ k : Nat, 1 + n % 40 = (k : Int) := Int.eq_ofNat_of_zero_le (by omega)
            have hk1 : 1 ≤ k := by omega
            have hk2 : k ≤ 40 := by omega
            have hrg : rangeV lo k = true := range_iff.2 ⟨by omega, by omega, by omega, by omega⟩
            obtain ⟨b, hb⟩ : ∃ b, wholeB Lm lo (lo + k) = b := ⟨_, rfl⟩
            obtain ⟨M1, e1, q1, m1, l1, w1, t1, f1⟩ := other_w HM.out hrg 3 0 2 false (by decide) (by decide) (.inl ⟨rfl, by decide⟩) hb
            obtain ⟨M2, e2, q2, m2, l2, w2, t2, f2⟩ := other_w m1 hrg 4 0 4 false (by decide) (by decide) (.inr (.inl ⟨rfl, by decide⟩)) w1
            obtain ⟨M3, e3, q3, m3, l3, w3, t3, f3⟩ := other_w m2 hrg 5 0 1 false (by decide) (by decide) (.inr (.inr rfl)) w2
            obtain ⟨M4, e4, q4, m4, l4, t4, f4⟩ := prot_w m3 hrg w3
            obtain ⟨M5, g5, q5, m5, l5, M6, q6, m6⟩ := unmap_w m4 hrg
            have hok : okI (k : Int) := ⟨by omega, by omega⟩
            have HEn := Lib.hid (entries_ok HVL.out (by omega))
            have HWh := Lib.hid (fun (W' : World) s' c' (h : EC W' (.slice s' Lm.length c') Lm) => whole_ok h HM.out.rf (by omega) lo (lo + k) b hb)
            have HC1 := Lib.hid (fun (W' : World) v' (h : VM W' r v' Lm) => inherit_ok h HM.out (by omega) lo k 0 ho hok)
            have HC2 := Lib.hid (fun (W' : World) v' (h : VM W' r v' M1) => advise_ok h m1 (by omega) lo k 0 ho hok)
            have HC3 := Lib.hid (fun (W' : World) v' (h : VM W' r v' M2) => wire_ok h m2 (by omega) lo k false ho hok)
            have HC4 := Lib.hid (fun (W' : World) v' (h : VM W' r v' M3) => protect_ok h m3 (by omega) lo k 0 ho hok ⟨by decide, by decide⟩)
            have HC5 := Lib.hid (fun (W' : World) v' (h : VM W' r v' M4) => unmap_ok h m4 (by omega) lo k ho hok)
            have HC6 := Lib.hid (fun (W' : World) v' (h : VM W' r v' M5) => unmap_ok h m5 (by omega) lo k ho hok)
            have HE4 := Lib.hid (fun (W' : World) v' (h : VM W' r v' M4) => entries_ok h (by omega))
            rw [q1] at HC1
            rw [q2] at HC2
            rw [q3] at HC3
            rw [q4] at HC4
            rw [q5] at HC5
            rw [q6] at HC6
            simp only at HC1 HC2 HC3 HC4 HC5 HC6
            have hrv := HVL.out.rv
            clear q1 q2 q3 q4 q5 q6 m1 m2 m3 m4 m5 m6 hb w1 w2 w3 HM hrg
            go_wp2_with fail
            refine HEn.out.mono ?_
            rintro e x1 ⟨u1, rfl, k1, g1⟩
            obtain ⟨a1, z1, hvf⟩ := OwnOf.form k1
            subst hvf
            have HG1 := Lib.hid (grown_trans HG.out g1)
            have HV1 := Lib.hid (HVL.out.grow g1)
            have HU1 := Lib.hid k1
            have HF1 := Lib.hid (show ∀ g, (Value.slice a1 Lm.length z1).ownBlock = some g → g ∉ r :: blkL v from fun g hg hm => by have := (OwnOf.lt k1 hg).1; have := hrv g hm; omega)
            have HW1 := Lib.hid (HWh.out x1 a1 z1 (EOwn.ec k1))
            have hr0 := hr
            clear k1 g1 HEn HWh hrv HVL
            go_wp2_with fail
            refine HW1.out.mono ?_
            rintro e x2 ⟨rfl, g2⟩
            have HG2 := Lib.hid (grown_trans HG1.out g2)
            have HV2 := Lib.hid (HV1.out.grow g2)
            have HU2 := Lib.hid (HU1.out.grow g2)
            have HF2 := Lib.hid HF1.out
            clear g2 HW1 HV1 HU1 HG1 HF1
            cases b with
            | true =>
              obtain rfl := t1 rfl
              obtain rfl := t2 rfl
              obtain rfl := t3 rfl
              obtain rfl := t4 rfl
              clear t1 t2 t3 t4 f1 f2 f3 f4
              go_wp2_with fail
              refine (HC1.out _ _ HV2.out).mono ?_
              rintro e x3 ⟨rfl, v3, kv, nw, t⟩
              have HV3 := Lib.hid kv
              have HG3 := Lib.hid (turn_up HG2.out hr0 (own_up HV2.out hr0) t)
              have HU3 := Lib.hid (EOwn.far HU2.out t HF2.out)
              have HF3 := Lib.hid (far_next HU2.out HF2.out nw)
              clear kv nw t HC1 HV2 HG2 HU2 HF2
              go_wp2_with fail
              refine (HC2.out _ _ HV3.out).mono ?_
              rintro e x4 ⟨rfl, v4, kv, nw, t⟩
              have HV4 := Lib.hid kv
              have HG4 := Lib.hid (turn_up HG3.out hr0 (own_up HV3.out hr0) t)
              have HU4 := Lib.hid (EOwn.far HU3.out t HF3.out)
              have HF4 := Lib.hid (far_next HU3.out HF3.out nw)
              clear kv nw t HC2 HV3 HG3 HU3 HF3
              go_wp2_with fail
              refine (HC3.out _ _ HV4.out).mono ?_
              rintro e x5 ⟨rfl, v5, kv, nw, t⟩
              have HV5 := Lib.hid kv
              have HG5 := Lib.hid (turn_up HG4.out hr0 (own_up HV4.out hr0) t)
              have HU5 := Lib.hid (EOwn.far HU4.out t HF4.out)
              have HF5 := Lib.hid (far_next HU4.out HF4.out nw)
              clear kv nw t HC3 HV4 HG4 HU4 HF4
              go_wp2_with fail
              refine (HC4.out _ _ HV5.out).mono ?_
              rintro e x6 ⟨rfl, v6, kv, nw, t⟩
              have HV6 := Lib.hid kv
              have HG6 := Lib.hid (turn_up HG5.out hr0 (own_up HV5.out hr0) t)
              have HU6 := Lib.hid (EOwn.far HU5.out t HF5.out)
              have HF6 := Lib.hid (far_next HU5.out HF5.out nw)
              clear kv nw t HC4 HV5 HG5 HU5 HF5
              go_wp2_with fail
              refine (HC5.out _ _ HV6.out).mono ?_
              rintro e x8 ⟨u8, v8, rfl, ku, kv, nw, t⟩
              have HV8 := Lib.hid kv
              have HG8 := Lib.hid (turn_up HG6.out hr0 (own_up HV6.out hr0) t)
              have HU8 := Lib.hid (EOwn.far HU6.out t HF6.out)
              have HF8 := Lib.hid (far_next HU6.out HF6.out nw)
              obtain ⟨b8, z8, hvf⟩ := OwnOf.form ku
              subst hvf
              clear ku
              clear kv nw t HC5 HV6 HG6 HU6 HF6
              go_wp2_with fail
              refine (HC6.out _ _ HV8.out).mono ?_
              rintro e x10 ⟨u10, v10, rfl, ku, kv, nw, t⟩
              have HV10 := Lib.hid kv
              have HG10 := Lib.hid (turn_up HG8.out hr0 (own_up HV8.out hr0) t)
              have HU10 := Lib.hid (EOwn.far HU8.out t HF8.out)
              have HF10 := Lib.hid (far_next HU8.out HF8.out nw)
              obtain ⟨b10, z10, hvf⟩ := OwnOf.form ku
              subst hvf
              clear ku
              clear kv nw t HC6 HV8 HG8 HU8 HF8
              go_wp2_with fail
              refine (HLv.out _).mono ?_
              rintro e y9 ⟨rfl, g9⟩
              have HG9 := Lib.hid (grown_trans HG10.out g9)
              clear g9
              go_wp2_with fail
              go_ret
              exact ⟨rfl, HG9.out⟩
            | false =>
              obtain ⟨rfl, rfl⟩ := f1 rfl
              obtain ⟨rfl, rfl⟩ := f2 rfl
              obtain ⟨rfl, rfl⟩ := f3 rfl
              obtain ⟨rfl, rfl⟩ := f4 rfl
              clear t1 t2 t3 t4 f1 f2 f3 f4
              go_wp2_with fail
              refine (HC1.out _ _ HV2.out).mono ?_
              rintro e x3 ⟨rfl, v3, kv, nw, t⟩
              have HV3 := Lib.hid kv
              have HG3 := Lib.hid (turn_up HG2.out hr0 (own_up HV2.out hr0) t)
              have HU3 := Lib.hid (EOwn.far HU2.out t HF2.out)
              have HF3 := Lib.hid (far_next HU2.out HF2.out nw)
              clear kv nw t HC1 HV2 HG2 HU2 HF2
              go_wp2_with fail
              refine (HC2.out _ _ HV3.out).mono ?_
              rintro e x4 ⟨rfl, v4, kv, nw, t⟩
              have HV4 := Lib.hid kv
              have HG4 := Lib.hid (turn_up HG3.out hr0 (own_up HV3.out hr0) t)
              have HU4 := Lib.hid (EOwn.far HU3.out t HF3.out)
              have HF4 := Lib.hid (far_next HU3.out HF3.out nw)
              clear kv nw t HC2 HV3 HG3 HU3 HF3
              go_wp2_with fail
              refine (HC3.out _ _ HV4.out).mono ?_
              rintro e x5 ⟨rfl, v5, kv, nw, t⟩
              have HV5 := Lib.hid kv
              have HG5 := Lib.hid (turn_up HG4.out hr0 (own_up HV4.out hr0) t)
              have HU5 := Lib.hid (EOwn.far HU4.out t HF4.out)
              have HF5 := Lib.hid (far_next HU4.out HF4.out nw)
              clear kv nw t HC3 HV4 HG4 HU4 HF4
              go_wp2_with fail
              refine (HC4.out _ _ HV5.out).mono ?_
              rintro e x6 ⟨rfl, v6, kv, nw, t⟩
              have HV6 := Lib.hid kv
              have HG6 := Lib.hid (turn_up HG5.out hr0 (own_up HV5.out hr0) t)
              have HU6 := Lib.hid (EOwn.far HU5.out t HF5.out)
              have HF6 := Lib.hid (far_next HU5.out HF5.out nw)
              clear kv nw t HC4 HV5 HG5 HU5 HF5
              have HE6 := Lib.hid (HE4.out _ _ HV6.out)
              go_wp2_with fail
              refine HE6.out.mono ?_
              rintro e y1 ⟨u7, rfl, k7, g7⟩
              obtain ⟨a7, z7, hvf⟩ := OwnOf.form k7
              subst hvf
              have HG7a := Lib.hid (grown_trans HG6.out g7)
              have HV7a := Lib.hid (HV6.out.grow g7)
              have HU7a := Lib.hid (HU6.out.grow g7)
              have HS7 := Lib.hid (same_ok z7 z1 (eown_row k7) (eown_row HU7a.out) (by omega) true (by simp))
              clear k7 g7 HE6 HV6 HG6 HU6
              go_wp2_with fail
              refine HS7.out.mono ?_
              rintro e y2 ⟨rfl, g8⟩
              have HG7 := Lib.hid (grown_trans HG7a.out g8)
              have HV7 := Lib.hid (HV7a.out.grow g8)
              have HU7 := Lib.hid (HU7a.out.grow g8)
              have HF7 := Lib.hid HF6.out
              clear g8 HS7 HV7a HG7a HU7a HF6
              go_wp2_with fail
              refine (HC5.out _ _ HV7.out).mono ?_
              rintro e x8 ⟨u8, v8, rfl, ku, kv, nw, t⟩
              have HV8 := Lib.hid kv
              have HG8 := Lib.hid (turn_up HG7.out hr0 (own_up HV7.out hr0) t)
              have HU8 := Lib.hid (EOwn.far HU7.out t HF7.out)
              have HF8 := Lib.hid (far_next HU7.out HF7.out nw)
              obtain ⟨b8, z8, hvf⟩ := OwnOf.form ku
              subst hvf
              clear ku
              clear kv nw t HC5 HV7 HG7 HU7 HF7
              go_wp2_with fail
              refine (HC6.out _ _ HV8.out).mono ?_
              rintro e x10 ⟨u10, v10, rfl, ku, kv, nw, t⟩
              have HV10 := Lib.hid kv
              have HG10 := Lib.hid (turn_up HG8.out hr0 (own_up HV8.out hr0) t)
              have HU10 := Lib.hid (EOwn.far HU8.out t HF8.out)
              have HF10 := Lib.hid (far_next HU8.out HF8.out nw)
              obtain ⟨b10, z10, hvf⟩ := OwnOf.form ku
              subst hvf
              clear ku
              clear kv nw t HC6 HV8 HG8 HU8 HF8
              go_wp2_with fail
              refine (HLv.out _).mono ?_
              rintro e y9 ⟨rfl, g9⟩
              have HG9 := Lib.hid (grown_trans HG10.out g9)
              clear g9
              go_wp2_with fail
              go_ret
              exact ⟨rfl, HG9.out⟩

theorem holes_say (W : World) (s : Option Addr) (l c : Nat) (As : List VAct) (hA : VActsAre W s l As) (lo n : Int) (ho : okI lo) (hn : okU n) :
    Calls Try.prog 9 #[.slice s l c, .int .i64 lo, .int .u64 n] W fun e w' => e = .returned (.bool true) ∧ Below W.heap.size W w' :=
  said (holes_walk W s l c As hA lo n ho hn)
end Go.Proofs.Ytamkmmhjmpjibaa
