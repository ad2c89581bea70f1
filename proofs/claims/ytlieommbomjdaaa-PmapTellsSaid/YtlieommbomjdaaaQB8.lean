/- Layer 7: PmapFlags: a page entered, its A and D set by hand, protected, cleared. Layer 7: PmapFlags, walked. -/
import Derived.Test.YtlieommbomjdaaaQB7
import Derived.Test.YtlieommbomjdaaaMB4
namespace Go.Proofs.Ytlieommbomjdaaa
open Go.ChangeShapes Go.WideShapes Go.ChangeAt Go.RowKit Go.Deep
set_option linter.unusedVariables false

section
variable {n : Nat} {s : MS} {a r f v x y k q p : Int}
theorem MOk.leaf_set {E : Int → Prop} (h : MOk n s E) (hr : Tab (getF s.xs) r a 0) (hl : leafW n s.W r v = some (f, y)) (hk : kindOf (flagOf x) = 2) : leafW n (leafM s f v x).W r v = some (f, x) := by
  obtain ⟨hp, _, _⟩ := leaf_place hl
  obtain ⟨m, e0, hm, e1, hf⟩ := h.place hr hp
  have hrf := tab_ne hr hf (by omega)
  have hmf := tab_ne hm hf (by omega)
  have a0 : (leafM s f v x).W r (indexOf v 2) = entT m := by show updW s.W f (indexOf v 0) x r (indexOf v 2) = _; unfold updW; rw [if_neg (fun e => hrf e.1)]; exact e0
  have a1 : (leafM s f v x).W m (indexOf v 1) = entT f := by show updW s.W f (indexOf v 0) x m (indexOf v 1) = _; unfold updW; rw [if_neg (fun e => hmf e.1)]; exact e1
  have a2 : (leafM s f v x).W f (indexOf v 0) = x := by show updW s.W f (indexOf v 0) x f (indexOf v 0) = _; unfold updW; rw [if_pos ⟨rfl, rfl⟩]
  have hpl : placeW n (leafM s f v x).W r v = some f := by
    unfold placeW at hp ⊢
    split at hp
    · rename_i hc
      rw [if_pos hc, nx_ent h.le a0 (h.lt hm)]
      exact nx_ent h.le a1 (h.lt hf)
    · cases hp
  unfold leafW
  rw [hpl]
  show (if kindOf (flagOf ((leafM s f v x).W f (indexOf v 0))) = 2 then some (f, (leafM s f v x).W f (indexOf v 0)) else none) = _
  rw [a2, if_pos hk]
theorem Inv7.set (h : Inv7 n s a r) (hl : leafW n s.W r v = some (f, y)) (hk : kindOf (flagOf x) = 2) : Inv7 n (leafM s f v x) a r := by
  obtain ⟨h1, _, h3⟩ := h.ok.turn h.root hl hk
  exact ⟨h1, h3, h.N, h.a⟩
/-- The first page entered. -/
theorem first_leaf (h : Inv1 n s 1 r) (h0 : s.N = 1) (hn : 3 ≤ n) (hno : ∀ u, ¬ Lv s r u) (hv : 0 ≤ v ∧ v < 67108864) (hq : 1 ≤ q ∧ q ≤ 7) (hp : 0 ≤ p ∧ p < n) :
    ∃ s1 f, enterM n 1 r v p q s = (0, s1) ∧ Inv7 n s1 1 r ∧ leafW n s1.W r v = some (f, encOf (flagsOf q true) p) := by
  have hV : okV v := ⟨hv.1, by have := hv.2; omega⟩
  have he := h.fits (v := v) (p := q) (fr := p) hv hq hp (by omega)
  have hi := (h.enter (v := v) (fr := p) (p := q)).inv
  have e1 : enterM n 1 r v p q s = enter1 n 1 r v (encOf (flagsOf q true) p) s := enterM_in hv hq hp
  have hh := (h.inv.ok.enter1_has (y := encOf (flagsOf q true) p) h.inv.root (kind_flags q p hq) hV h.inv.root hV).2
  rw [← e1] at hh
  rw [if_pos ⟨he, rfl, rfl⟩] at hh
  obtain ⟨f, hf⟩ := hh.2 rfl
  exact ⟨_, f, Prod.ext he rfl, hi, (hi.ok.leaf_iff hi.root).2 ⟨hV, hf⟩⟩
theorem fl_bits (G P : Int) (hG : 0 ≤ G ∧ G < 32) (hP : 0 ≤ P ∧ P < 256) : flagOf (encOf (G + 192) P) = G + 192 ∧ ppnOf (encOf (G + 192) P) = P ∧ adOf (G + 192) = 192 := by
  rw [flag_enc, ppn_enc]
  have b1 : bit (G + 192) 64 = true := by unfold bit; simp; omega
  have b2 : bit (G + 192) 128 = true := by unfold bit; simp; omega
  refine ⟨by omega, by omega, ?_⟩
  unfold adOf
  rw [b1, b2]
  rfl
theorem had_full (G k : Int) (hG : 0 ≤ G ∧ G < 32) : hadOf (G + 192) k = adOf k ∧ hadOf (G + 192 - adOf k) k = 0 ∧ 0 ≤ adOf k ∧ adOf k ≤ 192 := by
  have b1 : bit (G + 192) 64 = true := by unfold bit; simp; omega
  have b2 : bit (G + 192) 128 = true := by unfold bit; simp; omega
  unfold hadOf adOf
  rw [b1, b2]
  cases h1 : bit k 64 <;> cases h2 : bit k 128
  all_goals
    refine ⟨?_, ?_, ?_, ?_⟩
  all_goals
    try simp only [one, Bool.true_and, Bool.and_true, Bool.and_false, if_true, if_false, Bool.false_eq_true, bit, decide_eq_true_eq]
  all_goals
    first | omega | (split <;> omega) | (split <;> split <;> omega)
/-- A and D set by hand. -/
theorem set_ad (q : Int) (hq : 1 ≤ q ∧ q ≤ 7) : bits .or .u64 (bits .or .u64 (encOf (flagsOf q true) 2) 64) 128 = encOf (flagsOf q true + 192) 2 := by
  rcases (show q = 1 ∨ q = 2 ∨ q = 3 ∨ q = 4 ∨ q = 5 ∨ q = 6 ∨ q = 7 by omega) with rfl | rfl | rfl | rfl | rfl | rfl | rfl <;> decide
theorem kind_ad (q P : Int) (hq : 1 ≤ q ∧ q ≤ 7) (z : Int) (hz : flagOf (encOf (flagsOf q true + z) P) % 16 = flagsOf q true % 16) : kindOf (flagOf (encOf (flagsOf q true + z) P)) = 2 := by
  have h1 := kind_flags q P hq
  rw [kind_low] at h1 ⊢
  rw [hz]
  rw [flag_enc] at h1
  obtain ⟨f0, f1⟩ := flag_lt q
  rw [show flagsOf q true % 256 % 16 = flagsOf q true % 16 by omega] at h1
  exact h1
end

section
variable {w0 w w' : World} {m d n : Nat} {M : List UInt8}
theorem eql_refM_nil (w : World) (a : Addr) : (binOp .eql 50 (.pointer (some a)) (.pointer none)).run Try.prog w = .ok (.bool false) w := by
  have h1 : ∀ d : Nat, (Op.equalIn (d + 1) 50 (.pointer (some a)) (.pointer none)).run Try.prog w = .ok false w := fun d => by
    simp [Op.equalIn, run_underlying Try.underlying50]
  simp only [binOp]
  simp [Op.equal, Op.maxDepth, h1 9999]
/-- Pages copied so far. -/
theorem pages_take {L M : List UInt8} {i : Nat} (hL : L.length = n * 4096) (hM : M.length = n * 4096) (hi : i < n) (h : L.take (i * 4096) = M.take (i * 4096)) : (splice L (i * 4096) (fillOf (pageOf M i))).take ((i + 1) * 4096) = M.take ((i + 1) * 4096) := by
  have hp : (pageOf M i).length = 4096 := pageOf_length hM i hi
  have hf : fillOf (pageOf M i) = pageOf M i := by
    unfold fillOf
    rw [hp, Nat.sub_self, List.replicate_zero, List.append_nil, List.take_of_length_le (by omega)]
  rw [hf]
  apply List.ext_getElem?
  intro j
  by_cases hj : j < (i + 1) * 4096
  · rw [List.getElem?_take_of_lt hj, List.getElem?_take_of_lt hj, get_splice L _ _ (by rw [hp]; omega)]
    by_cases h1 : j < i * 4096
    · rw [if_pos h1]
      have : (L.take (i * 4096))[j]? = (M.take (i * 4096))[j]? := by rw [h]
      rw [List.getElem?_take_of_lt h1, List.getElem?_take_of_lt h1] at this
      exact this
    · rw [if_neg h1, if_pos (by rw [hp]; omega), pageOf_get M i (j - i * 4096) (by omega)]
      rw [show i * 4096 + (j - i * 4096) = j by omega]
  · rw [List.getElem?_take_eq_none (by omega), List.getElem?_take_eq_none (by omega)]
set_option maxHeartbeats 4000000 in
theorem copied_ok (h : St w0 w m d n M) : Calls Try.prog 24 #[.pointer (some ⟨m, 0, none⟩)] w fun e w' => ∃ r f R, e = .returned (.pointer (some ⟨r, 0, none⟩)) ∧ RS w w' r f n R M ∧ w.grownBy w' none := by
  have HF := Lib.hid (framesE h)
  have HN := Lib.hid (rnew_ok n w h.mem.pos h.mem.le)
  have HS := Lib.hid h
  have hq := eql_refM_nil
  have hn1 := h.mem.pos
  have hn2 := h.mem.le
  clear h
  go_enter Try.func24, Try.ntmps24
  go_wp2_with fail
  refine HF.out.mono ?_
  rintro e w1 ⟨rfl, e1⟩
  subst w1
  go_wp2_with fail
  refine HN.out.mono ?_
  rintro e w1 ⟨rfl, R, v, hw⟩
  obtain ⟨f, hrs⟩ := hw.rs (Below.refl _ w) hn1 hn2
  obtain ⟨cap, c0, hcap⟩ := hrs.mem.cellR
  have HR := Lib.hid hrs
  clear hw hrs
  obtain ⟨r, hr⟩ : ∃ r, w.heap.size = r := ⟨_, rfl⟩
  rw [hr] at HR c0 ⊢
  go_wp2_with fail
  go_loopw [17] (fun iv wr => ∃ (i : Nat) (L : List UInt8), i ≤ n ∧ iv = .int .i64 i ∧ Hid (RS w wr r f n R L) ∧ Hid (L.take (i * 4096) = M.take (i * 4096))) (fun iv _ => n - (intOf iv).toNat)
  case atStart => exact ⟨0, _, by omega, rfl, HR, Lib.hid (by simp)⟩
  case round =>
    obtain ⟨i, L, hi, rfl, HRi, HL⟩ := hrel
    have HSi := Lib.hid (HS.out.grow (grown_of_below' HRi.out.below))
    by_cases hlt : i < n
    · have HPg := Lib.hid (pageE HSi.out i i rfl hlt)
      go_wp2_with fail
      refine HPg.out.mono ?_
      rintro e w5 ⟨rfl, s5, g5, hb5⟩
      have hr5 := HRi.out.grow g5
      have hsrc : Src w5 (some ⟨wr.heap.size, 0, none⟩) 4096 (pageOf M i) := by
        have := Src.of_block hb5
        rw [pageOf_length HS.out.len i hlt] at this
        exact this
      have HFl := Lib.hid (rfill_ok hr5 i hlt (some ⟨wr.heap.size, 0, none⟩) 4096 4096 (pageOf M i) hsrc (by decide) (fun _ a ha hm => by
        cases ha
        have : wr.heap.size ∈ R := hm
        obtain ⟨j, hj⟩ := List.getElem?_of_mem this
        obtain ⟨p, e1, _, e2⟩ := HRi.out.mem.row j (by have := (List.getElem?_eq_some_iff.1 hj).1; have := HRi.out.mem.num; omega)
        rw [hj] at e1
        injection e1 with e1
        subst e1
        have := (Array.getElem?_eq_some_iff.1 e2).1
        omega))
      have HT := Lib.hid (pages_take HRi.out.mem.len HS.out.len hlt HL.out)
      clear s5 g5 hb5 hr5 hsrc
      go_wp2_with fail
      refine HFl.out.mono ?_
      rintro e w6 ⟨rfl, h6, -⟩
      have H6 := Lib.hid h6
      clear h6
      go_wp2_with fail
      go_roundw
      case rel => exact ⟨i + 1, _, by omega, by go_num, H6, HT⟩
      case measure => simp [intOf]; omega
    · obtain rfl : i = n := by omega
      go_wp2_with fail
      go_ret
      have hl := HL.out
      rw [List.take_of_length_le (by rw [HRi.out.mem.len]; omega), List.take_of_length_le (by rw [HS.out.len]; omega)] at hl
      subst hl
      exact ⟨r, f, R, rfl, HRi.out, grown_of_below' HRi.out.below⟩
end
end Go.Proofs.Ytlieommbomjdaaa

namespace Go.Proofs.Ytlieommbomjdaaa
open Go.ChangeShapes Go.WideShapes Go.ChangeAt Go.RowKit Go.Deep
set_option linter.unusedVariables false

section
variable {w0 w w' : World} {m d n p x : Nat} {a r : Int} {s t : MS} {M : List UInt8}
theorem PXn.qx (h : PXn SpS w0 w m d n p x a r s) : ∃ O M, Ag s.xs (wordI n M) s.W ∧ Can s.xs s.W ∧ QX w0 w m d n p O x a r M s.xs := by
  obtain ⟨O, OX, h⟩ := h
  obtain ⟨_, hc, M, hg, hq⟩ := h.qx
  exact ⟨O, M, hg, hc, hq⟩
theorem PXn.protect (h : PXn SpS w0 w m d n p x a r s) (hi : Inv7 n s a r) (v q : Int) (hv : okI v) (hq : okI q) : Calls Try.prog 27 #[.pointer (some ⟨x, 0, none⟩), .int .i64 v, .int .i64 q] w fun e w' => e = .returned (.bool (protectM n r v q s).1) ∧ PXn SpS w0 w' m d n p x a r (protectM n r v q s).2 := by
  obtain ⟨O, OX, h⟩ := h
  exact (pmOk.protect h hi v q hv hq).mono fun e w' ⟨e1, k⟩ => ⟨e1, PXL.hidn k⟩
theorem PXn.clear (h : PXn SpS w0 w m d n p x a r s) (hi : Inv7 n s a r) (v k : Int) (hv : okI v) (hk : okI k) : Calls Try.prog 28 #[.pointer (some ⟨x, 0, none⟩), .int .i64 v, .int .i64 k] w fun e w' => e = .returned (.int .i64 (clearM n r v k s).1) ∧ PXn SpS w0 w' m d n p x a r (clearM n r v k s).2 := by
  obtain ⟨O, OX, h⟩ := h
  exact (pmOk.clear h hi v k hv hk).mono fun e w' ⟨e1, k⟩ => ⟨e1, PXL.hidn k⟩
end

set_option maxHeartbeats 8000000 in
theorem flags_walk (w : World) (p0 q0 k : Int) (hp : okU p0) (hq : okU q0) (hk : okI k) :
    Calls Try.prog 5 #[.int .u64 p0, .int .u64 q0, .int .i64 k] w fun e w' => e = .returned (.bool true) ∧ w.grownBy w' none := by
  have HL := Lib.hid (lives7 pmOk)
  obtain ⟨P, hP⟩ : ∃ P : Int, 1 + p0 % 7 = P := ⟨_, rfl⟩
  obtain ⟨Q, hQ⟩ : ∃ Q : Int, 1 + q0 % 7 = Q := ⟨_, rfl⟩
  obtain ⟨p1, p2⟩ := hp
  obtain ⟨q1, q2⟩ := hq
  have HPq := Lib.hid (show 1 ≤ P ∧ P ≤ 7 by omega)
  have HQq := Lib.hid (show 1 ≤ Q ∧ Q ≤ 7 by omega)
  have HP := Lib.hid hP
  have HQ := Lib.hid hQ
  have HK := Lib.hid hk
  have HN := Lib.hid (newE w (Below.refl _ w) 8 8 rfl (by decide) (by decide))
  obtain ⟨M, hM⟩ : ∃ M : List UInt8, List.replicate (8 * 4096) 0 = M := ⟨_, rfl⟩
  rw [hM] at HN
  clear hk hM
  go_enter Try.func5, Try.ntmps5
  go_wp2_with fail
  refine HN.out.mono ?_
  rintro e wb ⟨rfl, h1, g1⟩
  have HSt := Lib.hid (pm_start h1 (by decide) (by decide) 8 rfl)
  generalize w.heap.size + 1 = m at *
  generalize w.heap.size = d at *
  clear h1 g1 HN
  go_wp2_with fail
  refine HSt.out.mono ?_
  rintro e wc ⟨p, O, rfl, h2, -, -⟩
  have HF := Lib.hid (pm_first pmOk h2 (by decide) (by decide) 1 (ok_s7 (by decide) (by decide)))
  clear h2 HSt
  go_wp2_with fail
  refine HF.out.mono ?_
  rintro e wd ⟨x, O3, OX3, r, s, rfl, h3, hi, hN, hno, -⟩
  obtain ⟨s1, f, hE, hi1, hl1⟩ := first_leaf (v := 9) (q := P) (p := 2) hi hN (by decide) hno ⟨by decide, by decide⟩ HPq.out ⟨by decide, by decide⟩
  have H3 : PXn SpS w wd m d 8 p x 1 r s := ⟨O3, OX3, h3⟩
  have hE2 := H3.enter pmOk hi.inv 9 2 P (ok_s7 (by decide) (by decide)) (ok_s7 (by decide) (by decide)) (ok_s7 (by have := HPq.out; omega) (by have := HPq.out; omega))
  rw [hE] at hE2
  rw [← hP] at hE2
  have HE := Lib.hid hE2
  have HI1 := Lib.hid hi1
  have HL1 := Lib.hid hl1
  clear h3 hi hN hno HF H3 hE hE2 hi1 hl1 hP hQ
  go_wp2_with fail
  refine HE.out.mono ?_
  rintro e we ⟨rfl, h5⟩
  obtain ⟨O5, M5, hg5, hc5, hq5⟩ := h5.qx
  have HCp := Lib.hid (copied_ok hq5.st)
  have HQ5 := Lib.hid hq5
  have HG5 := Lib.hid hg5
  have HC5 := Lib.hid hc5
  clear h5 hg5 hc5 hq5 HE
  go_wp2_with fail
  refine HCp.out.mono ?_
  rintro e wf ⟨R1, F1, RR, rfl, hrs, gf⟩
  have HRS := Lib.hid hrs
  have HQ6 := Lib.hid (HQ5.out.grow gf)
  have HRt := Lib.hid (sp_root HQ6.out.sp)
  clear hrs gf HCp HQ5
  go_wp2_with fail
  refine HRt.out.mono ?_
  rintro e wg ⟨rfl, e2⟩
  subst wg
  obtain ⟨hpl, hX, hkX⟩ := leaf_place HL1.out
  have hpo : placeOf 8 M5 r 9 = some f := by rw [place_words, HI1.out.ok.place_ag HG5.out HI1.out.root]; exact hpl
  obtain ⟨m1, _, _, _, hft⟩ := HI1.out.ok.place HI1.out.root hpl
  have hfn := HI1.out.ok.lt hft
  have hPl := ref_place HRS.out r 9
  rw [hpo] at hPl
  have hPl : Calls Try.prog 23 #[.pointer (some ⟨R1, 0, none⟩), .int .i64 r, .int .i64 9] wf fun e w' => e = .returned (.tuple #[.int .i64 f, .int .i64 9, .bool true]) ∧ wf.grownBy w' none := hPl
  have HPl := Lib.hid hPl
  have hwX : wordI 8 M5 f 9 = encOf (flagsOf P true) 2 := by rw [HG5.out f 1 2 hft 9 ⟨by decide, by decide⟩]; exact hX.symm
  have HWX := Lib.hid hwX
  have HFn := Lib.hid hfn
  have HFT := Lib.hid hft
  clear hpl hX hkX hpo hft hfn hPl hwX HRS HRt
  go_wp2_with fail
  refine HPl.out.mono ?_
  rintro e wg ⟨rfl, g7⟩
  have HQ7 := Lib.hid (HQ6.out.grow g7)
  have hWd := word_at HQ7.out.st f 9
  rw [HWX.out] at hWd
  have HWd := Lib.hid hWd
  obtain ⟨X, hX⟩ : ∃ X, encOf (flagsOf P true) 2 = X := ⟨_, rfl⟩
  have hset := set_ad P HPq.out
  rw [hX] at HWd hset
  have HSt := Lib.hid hset
  have hU : okU (bits .or .u64 (bits .or .u64 X 64) 128) := by rw [hset]; exact okU_enc _ _
  have HSW := Lib.hid (setWordE' HQ7.out.st f 9 _ HFn.out ⟨by decide, by decide⟩ hU)
  have HU := Lib.hid hU
  have HXX := Lib.hid hX
  clear g7 hWd hset hU HQ6 HPl hX
  go_wp2_with fail
  refine HWd.out.mono ?_
  rintro e wh ⟨rfl, e2⟩
  subst wh
  go_wp2_with fail
  refine HSW.out.mono ?_
  rintro e wh ⟨rfl, s8, g8⟩
  have hq8 := HQ7.out.mem1 s8 g8
  have hw8 := words_set (n := 8) HQ7.out.st.len HFn.out (i := 9) ⟨by decide, by decide⟩ HU.out
  rw [HSt.out] at hw8 hq8
  obtain ⟨f0, f1⟩ := flag_lt P
  obtain ⟨ff1, ff2⟩ := flag_form P (by have := HPq.out; omega)
  obtain ⟨G0, G1⟩ := flag_lt Q
  obtain ⟨FG1, FG2⟩ := flag_form Q (by have := HQq.out; omega)
  have hkY : kindOf (flagOf (encOf (flagsOf P true + 192) 2)) = 2 := kind_ad P 2 HPq.out 192 (by rw [flag_enc]; omega)
  have hi2 := HI1.out.set HL1.out hkY
  have hl2 := HI1.out.ok.leaf_set HI1.out.root HL1.out hkY
  have H8 := Lib.hid (show PXn SpS w wh m d 8 p x 1 r (leafM s1 f 9 (encOf (flagsOf P true + 192) 2)) from ⟨O5, [x], QX.px (s := leafM s1 f 9 (encOf (flagsOf P true + 192) 2)) hq8 (by rw [hw8]; exact HG5.out.upd _ _ _) (HC5.out.leaf _ (can_enc (by omega) (by omega)))⟩)
  obtain ⟨b1, b2, b3⟩ := fl_bits (flagsOf P true) 2 ⟨f0, f1⟩ ⟨by decide, by decide⟩
  have hpm : protectM 8 r 9 Q (leafM s1 f 9 (encOf (flagsOf P true + 192) 2)) = (true, leafM (leafM s1 f 9 (encOf (flagsOf P true + 192) 2)) f 9 (encOf (flagsOf Q true + 192) 2)) := by
    unfold protectM
    rw [hl2]
    simp only
    rw [if_neg (by have := HQq.out; omega), b1, b2, b3]
  have hkZ : kindOf (flagOf (encOf (flagsOf Q true + 192) 2)) = 2 := kind_ad Q 2 HQq.out 192 (by rw [flag_enc]; omega)
  have hi3 := hi2.set hl2 hkZ
  have hl3 := hi2.ok.leaf_set hi2.root hl2 hkZ
  have hPr := H8.out.protect hi2 9 Q (ok_s7 (by decide) (by decide)) (ok_s7 (by have := HQq.out; omega) (by have := HQq.out; omega))
  rw [hpm, ← HQ.out] at hPr
  have HPr := Lib.hid hPr
  rw [HQ.out] at HPr
  obtain ⟨c1, c2, c3⟩ := fl_bits (flagsOf Q true) 2 ⟨G0, G1⟩ ⟨by decide, by decide⟩
  obtain ⟨d1, d2, d3, d4⟩ := had_full (flagsOf Q true) k ⟨G0, G1⟩
  generalize leafM s1 f 9 (encOf (flagsOf P true + 192) 2) = s2 at *
  have hcm : clearM 8 r 9 k (leafM s2 f 9 (encOf (flagsOf Q true + 192) 2)) = (adOf k, leafM (leafM s2 f 9 (encOf (flagsOf Q true + 192) 2)) f 9 (encOf (flagsOf Q true + 192 - adOf k) 2)) := by
    unfold clearM
    rw [hl3]
    simp only
    rw [c1, c2, d1]
  have hle3 : leafE 8 (leafM s2 f 9 (encOf (flagsOf Q true + 192) 2)).W r 9 = some (flagsOf Q true + 192, 2) := by rw [leaf_some hl3, c1, c2]
  generalize leafM s2 f 9 (encOf (flagsOf Q true + 192) 2) = s3 at *
  have hfl4 : flagOf (encOf (flagsOf Q true + 192 - adOf k) 2) = flagsOf Q true + 192 - adOf k := by rw [flag_enc]; omega
  have hpp4 : ppnOf (encOf (flagsOf Q true + 192 - adOf k) 2) = 2 := by rw [ppn_enc]; decide
  obtain ⟨kk, hk0, hk3, hk2⟩ := ad_form k
  have hkV : kindOf (flagOf (encOf (flagsOf Q true + 192 - adOf k) 2)) = 2 := by
    have := kind_ad Q 2 HQq.out (192 - adOf k) (by rw [flag_enc, hk2]; omega)
    rw [show flagsOf Q true + 192 - adOf k = flagsOf Q true + (192 - adOf k) by omega]
    exact this
  have hi4 := hi3.set hl3 hkV
  have hl4 := hi3.ok.leaf_set hi3.root hl3 hkV
  have hle4 : leafE 8 (leafM s3 f 9 (encOf (flagsOf Q true + 192 - adOf k) 2)).W r 9 = some (flagsOf Q true + 192 - adOf k, 2) := by rw [leaf_some hl4, hfl4, hpp4]
  have hcm4 : (clearM 8 r 9 k (leafM s3 f 9 (encOf (flagsOf Q true + 192 - adOf k) 2))).1 = 0 := by
    unfold clearM
    rw [hl4]
    simp only
    rw [hfl4]
    exact d2
  have ha1 : bits .and .i64 (flagsOf Q true + 192) 192 = 192 := by rw [and_192]; exact c3
  have ha2 : bits .and .i64 k 192 = adOf k := and_192 k
  generalize leafM s3 f 9 (encOf (flagsOf Q true + 192 - adOf k) 2) = s4 at *
  have HI3 := Lib.hid hi3
  have HI4 := Lib.hid hi4
  have HCM := Lib.hid hcm
  have HCM4 := Lib.hid hcm4
  have HLE3 := Lib.hid hle3
  have HLE4 := Lib.hid hle4
  obtain ⟨GF, hGF⟩ : ∃ GF, flagsOf Q true + 192 = GF := ⟨_, rfl⟩
  obtain ⟨D, hD⟩ : ∃ D, adOf k = D := ⟨_, rfl⟩
  rw [hGF] at ha1 HLE3 HLE4
  rw [hD] at ha2 d3 d4 HCM HLE4
  have hGF0 : 0 ≤ GF ∧ GF < 224 := by omega
  have hwr : IntKind.i64.wrap (GF - D) = GF - D := by rw [IntKind.wrap_i64]; omega
  clear s8 g8 hq8 hw8 f0 f1 ff1 ff2 G0 G1 FG1 FG2 hkY hi2 hl2 b1 b2 b3 hpm hkZ hi3 hl3 hPr c1 c2 c3 d1 d2 hcm hle3 hfl4 hpp4 hk0 hk3 hk2 hkV hi4 hl4 hle4 hcm4 hD hGF HSt HU HXX HWX HFn HFT HQ7 HWd HSW H8 HG5 HC5 HI1 HL1
  have hQ := HQ.out
  rw [← hQ] at HPr
  clear hQ
  go_wp2_with fail
  refine HPr.out.mono ?_
  rintro e wi ⟨rfl, h9⟩
  have hF3 := h9.find pmOk HI3.out 9 (ok_s7 (by decide) (by decide))
  have hF3 : Calls Try.prog 22 #[.pointer (some ⟨x, 0, none⟩), .int .i64 9] wi fun e w' => e = .returned (findV (leafE 8 s3.W r 9)) ∧ wi.grownBy w' none ∧ PXn SpS w w' m d 8 p x 1 r s3 := hF3
  rw [HLE3.out] at hF3
  unfold findV at hF3
  have HF3 := Lib.hid hF3
  clear h9 hF3
  go_wp2_with fail
  refine HF3.out.mono ?_
  rintro e wj ⟨rfl, -, O10, OX10, h10⟩
  have gal := World.grownBy_alloc wj (.cells #[.int .i64 GF, .int .i64 2] 44) none
  have hE3 : EntB (wj.alloc (.cells #[.int .i64 GF, .int .i64 2] 44)) wj.heap.size GF 2 := heap_alloc_new wj _
  have hlt := PXr.lt pmOk h10
  have h11 := h10.grow pmOk gal
  have hC1 := pmOk.clear h11 HI3.out 9 k (ok_s7 (by decide) (by decide)) HK.out
  rw [HCM.out] at hC1
  have HC1 := Lib.hid hC1
  have HE3 := Lib.hid hE3
  have HLt := Lib.hid hlt
  clear h10 gal hE3 h11 hC1 hlt
  obtain ⟨y, hy⟩ : ∃ y, wj.heap.size = y := ⟨_, rfl⟩
  rw [hy] at HE3 HLt
  go_wp2_with fail
  refine HC1.out.mono ?_
  rintro e wk ⟨rfl, O12, OX12, h12, t12, -, -⟩
  have hE4 : EntB wk y GF 2 := (t12.block y HE3.out.lt fun hm => by
    have := HLt.out y (List.mem_cons_of_mem _ hm)
    omega).trans HE3.out
  have hF4 := pmOk.find h12 HI4.out 9 (ok_s7 (by decide) (by decide))
  have hF4 : Calls Try.prog 22 #[.pointer (some ⟨x, 0, none⟩), .int .i64 9] wk fun e w' => e = .returned (findV (leafE 8 s4.W r 9)) ∧ wk.grownBy w' none := hF4
  rw [HLE4.out] at hF4
  unfold findV at hF4
  have HF4 := Lib.hid hF4
  have HE4 := Lib.hid hE4
  have H12 := Lib.hid h12
  clear h12 t12 hE4 hF4
  go_wp2_with fail
  refine HF4.out.mono ?_
  rintro e wl ⟨rfl, g13⟩
  have gal := World.grownBy_alloc wl (.cells #[.int .i64 (GF - D), .int .i64 2] 44) none
  have hE5 : EntB (wl.alloc (.cells #[.int .i64 (GF - D), .int .i64 2] 44)) wl.heap.size (GF - D) 2 := heap_alloc_new wl _
  have hE6 := (HE4.out.grow g13).grow gal
  have h13 := (H12.out.grow pmOk g13).grow pmOk gal
  have hC2 := pmOk.clear h13 HI4.out 9 k (ok_s7 (by decide) (by decide)) HK.out
  rw [HCM4.out] at hC2
  have HC2 := Lib.hid hC2
  obtain ⟨m0, m1⟩ := hE5.at
  obtain ⟨n0, n1⟩ := hE6.at
  obtain ⟨y2, hy2⟩ : ∃ y, wl.heap.size = y := ⟨_, rfl⟩
  rw [hy2] at m0 m1
  have bb1 : (192 == (192 : Int)) = true := rfl
  have bb2 : (D == D) = true := by simp
  have bb3 : (GF - D == GF - D) = true := by simp
  clear gal hE5 hE6 h13 hC2 g13
  go_wp2_with fail
  refine HC2.out.mono ?_
  rintro e wm ⟨rfl, O14, OX14, h14, -⟩
  have H14 := Lib.hid h14.low
  clear h14
  go_wp2_with fail
  refine (HL.out _).mono ?_
  rintro e wn ⟨rfl, g15⟩
  have HG := Lib.hid (grown_trans H14.out g15)
  clear g15
  go_wp2_with fail
  go_ret
  exact ⟨rfl, HG.out⟩
end Go.Proofs.Ytlieommbomjdaaa
