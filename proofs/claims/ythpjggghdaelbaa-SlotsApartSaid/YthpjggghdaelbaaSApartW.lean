/- SlotsApart, walked. -/
import Derived.Test.YthpjggghdaelbaaSAct
namespace Go.Proofs.Ythpjggghdaelbaa
open Go.ChangeShapes Go.WideShapes Go.ChangeAt Go.RowKit Go.Deep
set_option linter.unusedVariables false

/-- Places of the law's own, and its row of what is held. -/
structure AS (w wx : World) (r : Nat) (L M : List Int) (gu gs h c : Nat) : Prop where
  i : LS w wx r L gu gs
  row : IRow wx h c M
  hn : h ∉ [r, gu, gs]
  hw : w.heap.size ≤ h
/-- .. and a round's box. -/
structure AB (w wx : World) (r : Nat) (L M : List Int) (gu gs h c y : Nat) (A : SActV) : Prop where
  a : AS w wx r L M gu gs h c
  b : SActB wx y A
  yn : y ∉ [r, gu, gs]
  yh : y ≠ h
section
variable {w wx w2 : World} {r gu gs h c y : Nat} {L L' M : List Int} {A : SActV}
theorem AS.left (k : AS w wx r L M gu gs h c) (t : SLeft wx w2 r L' gu gs) : AS w w2 r L' M gu gs h c :=
  ⟨k.i.left t, k.row.kept (t.2.block h k.row.lt fun hm => k.hn (List.mem_cons_of_mem _ hm)), k.hn, k.hw⟩
theorem AB.left (k : AB w wx r L M gu gs h c y A) (t : SLeft wx w2 r L' gu gs) : AB w w2 r L' M gu gs h c y A :=
  ⟨k.a.left t, k.b.turn t.2 fun hm => k.yn (List.mem_cons_of_mem _ hm), k.yn, k.yh⟩
theorem AS.grow (k : AS w wx r L M gu gs h c) (g : wx.grownBy w2 none) : AS w w2 r L M gu gs h c := ⟨k.i.grow g, k.row.kept (g.block h k.row.lt (by simp)), k.hn, k.hw⟩
theorem AB.new (k : AS w wx r L M gu gs h c) (A : SActV) : AB w (wx.alloc (.cells #[.int .i64 A.k, .int .i64 A.n] 29 (0, 0))) r L M gu gs h c wx.heap.size A :=
  ⟨k.grow (World.grownBy_alloc wx _ none), SActB.new wx A, fun hm => by have := k.i.sp.lt _ hm; omega, fun e => by have := k.row.lt; omega⟩
theorem AB.set (k : AB w wx r L M gu gs h c y A) (q : Nat) (x : Int) : AB w (wx.setCell ⟨h, q, none⟩ (.int .i64 x)) r L (M.set q x) gu gs h c y A := by
  have ho : ∀ b, b ≠ h → (wx.setCell ⟨h, q, none⟩ (.int .i64 x)).heap[b]? = wx.heap[b]? := fun b hb => heap_setCell_other wx ⟨h, q, none⟩ b (.int .i64 x) (by first | exact hb | exact hb.symm)
  refine ⟨⟨⟨k.a.i.sp.kept fun b hb => ho b fun e => k.a.hn (e ▸ hb), k.a.i.own, ?_⟩, k.a.row.set q x, k.a.hn, k.a.hw⟩, (ho y k.yh).trans k.b, k.yn, k.yh⟩
  exact grown_at k.a.i.grown (grown_set wx h q _) k.a.hw
end
theorem takeL_cases (L : List Int) (k : Int) : takeL L k = ⟨0, false, L⟩ ∨ ∃ f q : Nat, k = q ∧ 1 ≤ q ∧ FreeRun L f q ∧ takeL L k = ⟨f, true, markL L f q⟩ := by
  unfold takeL runL
  by_cases h1 : 1 ≤ k
  · rw [if_pos h1]
    obtain ⟨q, rfl⟩ := Int.eq_ofNat_of_zero_le (show 0 ≤ k by omega)
    rw [Int.toNat_natCast]
    cases hR : runN L q with
    | none => exact .inl rfl
    | some f => exact .inr ⟨f, q, rfl, by omega, (runN_is hR).1, rfl⟩
  · rw [if_neg h1]
    exact .inl rfl

set_option maxRecDepth 100000 in
set_option maxHeartbeats 8000000 in
theorem apart_walk8 (w : World) (n0 : Int) (s : Option Addr) (l c : Nat) (As : List SActV) (hA : SActsAre w s l As) (hn : okU n0) :
    Calls Try.prog 4 #[.int .u64 n0, .slice s l c] w fun e w' => e = .returned (.bool true) ∧ w.grownBy w' none := by
  have HLv := Lib.hid lives8
  have hq := eql_slots_nil
  have hq2 := neq_slots_nil
  obtain ⟨n, hnn⟩ : ∃ n : Nat, n0 % 200 = n := Int.eq_ofNat_of_zero_le (by omega)
  have hn200 : n < 200 := by omega
  have u0 := hn.1
  have u1 := hn.2
  have HN := Lib.hid (sl_new_ok n w (by omega))
  have HA := Lib.hid hA
  clear hn hA
  go_enter Try.func4, Try.ntmps4
  go_wp2_with fail
  refine HN.out.mono ?_
  rintro e w1 ⟨r, gu, gs, rfl, h1, g1, o1⟩
  have H1 := Lib.hid (show LS w w1 r (List.replicate n 0) gu gs from ⟨h1, o1, g1⟩)
  clear h1 g1 o1 HN
  by_cases hl : l > 200
  · have hb : decide ((l : Int) > 200) = true := by simp; omega
    go_wp2_with fail
    refine (HLv.out _).mono ?_
    rintro e w2 ⟨rfl, g2⟩
    have G2 := Lib.hid (grown_trans H1.out.grown g2)
    clear g2
    go_wp2_with fail
    go_ret
    exact ⟨rfl, G2.out⟩
  · have hb : decide ((l : Int) > 200) = false := by simp; omega
    have hl2 : l ≤ 200 := by omega
    clear hl
    have hmk := run_make_ints n (by omega) w1
    have g2 := World.grownBy_alloc w1 (.cells ((List.replicate n 0).map iv).toArray 3) none
    have HI := Lib.hid (show AS w (w1.alloc (.cells ((List.replicate n 0).map iv).toArray 3)) r (List.replicate n 0) (List.replicate n 0) gu gs w1.heap.size n from
      ⟨H1.out.grow g2, IRow.made w1 n (by omega), fun hm => by have := H1.out.sp.lt _ hm; omega, H1.out.grown.size⟩)
    have HLn := Lib.hid (show (List.replicate n (0 : Int)).length = n from List.length_replicate)
    clear g2 H1
    generalize hw2 : w1.alloc (.cells ((List.replicate n 0).map iv).toArray 3) = w2 at *
    generalize hh : w1.heap.size = h at *
    generalize List.replicate n (0 : Int) = L0 at *
    go_wp2_with fail
    clear hmk hw2 hh
    go_loopw [9, 10, 11, 12, 13, 37] (fun _ _ _ _ _ iv wr => ∃ (j : Nat) (L : List Int), j ≤ l ∧ iv = .int .i64 j ∧ Hid (AS w wr r L L gu gs h n) ∧ Hid (L.length = n)) (fun _ _ _ _ _ iv _ => l - (intOf iv).toNat)
    case atStart => exact ⟨0, L0, by omega, rfl, HI.out, HLn.out⟩
    case round =>
      clear HLn HI
      obtain ⟨j, L, hj, rfl, HJ, HLn⟩ := hrel
      by_cases hlt : j < l
      · obtain ⟨A, hAj⟩ : ∃ A, As[j]? = some A := ⟨_, List.getElem?_eq_getElem (by rw [HA.out.len]; exact hlt)⟩
        have hok := HA.out.ok A (List.mem_of_getElem? hAj)
        obtain ⟨b, o, hs, a0, a1⟩ := HA.out.at HJ.out.i.grown hAj
        subst hs
        have HR := Lib.hid (AB.new HJ.out A)
        obtain ⟨k, m⟩ := A
        simp only at a0 a1 HR
        generalize hwB : wr.alloc (.cells #[.int .i64 k, .int .i64 m] 29 (0, 0)) = wB at *
        obtain ⟨b0, b1⟩ := HR.out.b.at
        simp only at b0 b1
        have HM := Lib.hid hok.n
        clear hAj hok HJ
        generalize hY : wr.heap.size = Y at *
        have hln := HLn.out
        by_cases k0 : k = 0
        · subst k0
          have HC := Lib.hid (sl_takeRun HR.out.a.i.sp 1 (okS (by decide) (by decide)))
          rcases takeL_cases L 1 with hT | ⟨f, q, hk, hq1, hfr, hT⟩
          · rw [hT] at HC
            clear hT
            go_wp2_with fail
            refine HC.out.mono ?_
            rintro e w3 ⟨rfl, h3⟩
            have H3 := Lib.hid (HR.out.left h3)
            clear h3 HC
            go_wp2_with fail
            go_loopw [13] (fun jv wx => jv = .int .i64 0 ∧ Hid (wx = w3)) (fun _ _ => 0)
            case atStart => exact ⟨rfl, rfl⟩
            case round =>
              obtain ⟨rfl, HW⟩ := hrel
              have hw := HW.out.symm
              subst hw
              have HC0 := Lib.hid (sl_count H3.out.a.i.sp 0)
              have HC1 := Lib.hid (sl_count H3.out.a.i.sp 1)
              have HC2 := Lib.hid (sl_count H3.out.a.i.sp 2)
              have hsum := (count_all H3.out.a.i.sp.good).trans (show ((L).length : Int) = (n : Int) by rw [HLn.out])
              have c00 := (count_le (L := L) 0).1
              have c01 := (count_le (L := L) 1).1
              have c02 := (count_le (L := L) 2).1
              generalize countL (L) 0 = x0 at *
              generalize countL (L) 1 = x1 at *
              generalize countL (L) 2 = x2 at *
              go_wp2_with fail
              refine HC0.out.mono ?_
              rintro e w7 ⟨rfl, e7⟩
              subst w7
              go_wp2_with fail
              refine HC1.out.mono ?_
              rintro e w7 ⟨rfl, e7⟩
              subst w7
              go_wp2_with fail
              refine HC2.out.mono ?_
              rintro e w7 ⟨rfl, e7⟩
              subst w7
              go_wp2_with fail
              go_roundw
              case rel => exact ⟨j + 1, _, by omega, by go_num, H3.out.a, HLn.out⟩
              case measure => simp [intOf]; omega

          · rw [hT] at HC
            clear hT
            obtain rfl : q = 1 := by omega
            clear hk hq1
            have HFr := Lib.hid hfr
            have hfq : f + 1 ≤ n := by have := hfr.1; omega
            clear hfr
            go_wp2_with fail
            refine HC.out.mono ?_
            rintro e w3 ⟨rfl, h3⟩
            have H3 := Lib.hid (HR.out.left h3)
            clear h3 HC
            go_wp2_with fail
            go_loopw [13] (fun jv wx => ∃ i : Nat, f ≤ i ∧ i ≤ f + 1 ∧ jv = .int .i64 i ∧ Hid (AB w wx r (markL L f 1) (markL L f (i - f)) gu gs h n Y ⟨0, m⟩)) (fun jv _ => f + 1 - (intOf jv).toNat)
            case atStart => exact ⟨f, Nat.le_refl _, by omega, rfl, by rw [Nat.sub_self]; exact H3.out⟩
            case round =>
              obtain ⟨i, hi0, hi1, rfl, HB⟩ := hrel
              by_cases hlt3 : i < f + 1
              · have hM : (markL L f (i - f))[i]? = some 0 := by
                  rw [get_getD (by rw [mark_len]; omega), mark_get _ _ (by have := HFr.out.1; omega), if_neg (by omega)]
                  rw [HFr.out.2 i (by omega) (by omega)]
                obtain ⟨ch, fh⟩ := HB.out.a.row.at hM
                have hset := HB.out.set i 1
                rw [show (markL L f (i - f)).set i 1 = markL L f (i + 1 - f) by rw [show i + 1 - f = (i - f) + 1 by omega, markL, show f + (i - f) = i by omega]] at hset
                have HB2 := Lib.hid hset
                clear hset hM
                go_wp2_with fail
                go_roundw
                case rel => exact ⟨i + 1, by omega, by omega, by go_num, HB2.out⟩
                case measure => simp [intOf]; omega
              · obtain rfl : i = f + 1 := by omega
                have hb2 := HB.out
                rw [show f + 1 - f = 1 by omega] at hb2
                have HB2 := Lib.hid hb2
                have HLn2 := Lib.hid ((mark_len (L := L) f 1).trans HLn.out)
                clear hb2
                generalize markL L f 1 = M at *
                have HC0 := Lib.hid (sl_count HB2.out.a.i.sp 0)
                have HC1 := Lib.hid (sl_count HB2.out.a.i.sp 1)
                have HC2 := Lib.hid (sl_count HB2.out.a.i.sp 2)
                have hsum := (count_all HB2.out.a.i.sp.good).trans (show ((M).length : Int) = (n : Int) by rw [HLn2.out])
                have c00 := (count_le (L := M) 0).1
                have c01 := (count_le (L := M) 1).1
                have c02 := (count_le (L := M) 2).1
                generalize countL (M) 0 = x0 at *
                generalize countL (M) 1 = x1 at *
                generalize countL (M) 2 = x2 at *
                go_wp2_with fail
                refine HC0.out.mono ?_
                rintro e w7 ⟨rfl, e7⟩
                subst w7
                go_wp2_with fail
                refine HC1.out.mono ?_
                rintro e w7 ⟨rfl, e7⟩
                subst w7
                go_wp2_with fail
                refine HC2.out.mono ?_
                rintro e w7 ⟨rfl, e7⟩
                subst w7
                go_wp2_with fail
                go_roundw
                case rel => exact ⟨j + 1, _, by omega, by go_num, HB2.out.a, HLn2.out⟩
                case measure => simp [intOf]; omega

        · have e0 : (k == 0) = false := by simpa using k0
          by_cases k1 : k = 1
          · subst k1
            have HC := Lib.hid (sl_takeRun HR.out.a.i.sp m HM.out)
            rcases takeL_cases L m with hT | ⟨f, q, hk, hq1, hfr, hT⟩
            · rw [hT] at HC
              clear hT
              go_wp2_with fail
              refine HC.out.mono ?_
              rintro e w3 ⟨rfl, h3⟩
              have H3 := Lib.hid (HR.out.left h3)
              clear h3 HC
              go_wp2_with fail
              go_loopw [13] (fun jv wx => jv = .int .i64 0 ∧ Hid (wx = w3)) (fun _ _ => 0)
              case atStart => exact ⟨rfl, rfl⟩
              case round =>
                obtain ⟨rfl, HW⟩ := hrel
                have hw := HW.out.symm
                subst hw
                have HC0 := Lib.hid (sl_count H3.out.a.i.sp 0)
                have HC1 := Lib.hid (sl_count H3.out.a.i.sp 1)
                have HC2 := Lib.hid (sl_count H3.out.a.i.sp 2)
                have hsum := (count_all H3.out.a.i.sp.good).trans (show ((L).length : Int) = (n : Int) by rw [HLn.out])
                have c00 := (count_le (L := L) 0).1
                have c01 := (count_le (L := L) 1).1
                have c02 := (count_le (L := L) 2).1
                generalize countL (L) 0 = x0 at *
                generalize countL (L) 1 = x1 at *
                generalize countL (L) 2 = x2 at *
                go_wp2_with fail
                refine HC0.out.mono ?_
                rintro e w7 ⟨rfl, e7⟩
                subst w7
                go_wp2_with fail
                refine HC1.out.mono ?_
                rintro e w7 ⟨rfl, e7⟩
                subst w7
                go_wp2_with fail
                refine HC2.out.mono ?_
                rintro e w7 ⟨rfl, e7⟩
                subst w7
                go_wp2_with fail
                go_roundw
                case rel => exact ⟨j + 1, _, by omega, by go_num, H3.out.a, HLn.out⟩
                case measure => simp [intOf]; omega

            · rw [hT] at HC
              clear hT
              subst hk
              have HFr := Lib.hid hfr
              have hfq : f + q ≤ n := by have := hfr.1; omega
              clear hfr
              go_wp2_with fail
              refine HC.out.mono ?_
              rintro e w3 ⟨rfl, h3⟩
              have H3 := Lib.hid (HR.out.left h3)
              clear h3 HC
              go_wp2_with fail
              go_loopw [13] (fun jv wx => ∃ i : Nat, f ≤ i ∧ i ≤ f + q ∧ jv = .int .i64 i ∧ Hid (AB w wx r (markL L f q) (markL L f (i - f)) gu gs h n Y ⟨1, (q : Int)⟩)) (fun jv _ => f + q - (intOf jv).toNat)
              case atStart => exact ⟨f, Nat.le_refl _, by omega, rfl, by rw [Nat.sub_self]; exact H3.out⟩
              case round =>
                obtain ⟨i, hi0, hi1, rfl, HB⟩ := hrel
                by_cases hlt3 : i < f + q
                · have hM : (markL L f (i - f))[i]? = some 0 := by
                    rw [get_getD (by rw [mark_len]; omega), mark_get _ _ (by have := HFr.out.1; omega), if_neg (by omega)]
                    rw [HFr.out.2 i (by omega) (by omega)]
                  obtain ⟨ch, fh⟩ := HB.out.a.row.at hM
                  have hset := HB.out.set i 1
                  rw [show (markL L f (i - f)).set i 1 = markL L f (i + 1 - f) by rw [show i + 1 - f = (i - f) + 1 by omega, markL, show f + (i - f) = i by omega]] at hset
                  have HB2 := Lib.hid hset
                  clear hset hM
                  go_wp2_with fail
                  go_roundw
                  case rel => exact ⟨i + 1, by omega, by omega, by go_num, HB2.out⟩
                  case measure => simp [intOf]; omega
                · obtain rfl : i = f + q := by omega
                  have hb2 := HB.out
                  rw [show f + q - f = q by omega] at hb2
                  have HB2 := Lib.hid hb2
                  have HLn2 := Lib.hid ((mark_len (L := L) f q).trans HLn.out)
                  clear hb2
                  generalize markL L f q = M at *
                  have HC0 := Lib.hid (sl_count HB2.out.a.i.sp 0)
                  have HC1 := Lib.hid (sl_count HB2.out.a.i.sp 1)
                  have HC2 := Lib.hid (sl_count HB2.out.a.i.sp 2)
                  have hsum := (count_all HB2.out.a.i.sp.good).trans (show ((M).length : Int) = (n : Int) by rw [HLn2.out])
                  have c00 := (count_le (L := M) 0).1
                  have c01 := (count_le (L := M) 1).1
                  have c02 := (count_le (L := M) 2).1
                  generalize countL (M) 0 = x0 at *
                  generalize countL (M) 1 = x1 at *
                  generalize countL (M) 2 = x2 at *
                  go_wp2_with fail
                  refine HC0.out.mono ?_
                  rintro e w7 ⟨rfl, e7⟩
                  subst w7
                  go_wp2_with fail
                  refine HC1.out.mono ?_
                  rintro e w7 ⟨rfl, e7⟩
                  subst w7
                  go_wp2_with fail
                  refine HC2.out.mono ?_
                  rintro e w7 ⟨rfl, e7⟩
                  subst w7
                  go_wp2_with fail
                  go_roundw
                  case rel => exact ⟨j + 1, _, by omega, by go_num, HB2.out.a, HLn2.out⟩
                  case measure => simp [intOf]; omega

          · have e1 : (k == 1) = false := by simpa using k1
            by_cases k2 : k = 2
            · subst k2
              by_cases hst : stL L m = 1
              · obtain ⟨q, hm, hqL, hget⟩ := stL_lives (show stL L m ≠ -1 by omega)
                subst hm
                have HC := Lib.hid (sl_give HR.out.a.i.sp (q : Int))
                have hG : giveL L (q : Int) = ⟨0, true, L.set q 0⟩ := by unfold giveL; rw [if_pos hst, Int.toNat_natCast]
                rw [hG] at HC
                have hx : L[q]? = some 1 := by rw [get_getD hqL, ← hget, hst]
                have HX := Lib.hid hx
                have HLn2 := Lib.hid ((List.length_set : (L.set q (0 : Int)).length = L.length).trans HLn.out)
                have hqn : q < n := by omega
                clear hst hG hx hget hqL
                go_wp2_with fail
                refine HC.out.mono ?_
                rintro e w3 ⟨rfl, h3⟩
                have H3 := Lib.hid (HR.out.left h3)
                obtain ⟨ch, fh⟩ := H3.out.a.row.at HX.out
                obtain ⟨d0, d1⟩ := H3.out.b.at
                simp only at d0 d1
                have H4 := Lib.hid (H3.out.set q 0)
                clear h3 HC
                have HC0 := Lib.hid (sl_count H4.out.a.i.sp 0)
                have HC1 := Lib.hid (sl_count H4.out.a.i.sp 1)
                have HC2 := Lib.hid (sl_count H4.out.a.i.sp 2)
                have hsum := (count_all H4.out.a.i.sp.good).trans (show ((L.set q 0).length : Int) = (n : Int) by rw [HLn2.out])
                have c00 := (count_le (L := L.set q 0) 0).1
                have c01 := (count_le (L := L.set q 0) 1).1
                have c02 := (count_le (L := L.set q 0) 2).1
                generalize countL (L.set q 0) 0 = x0 at *
                generalize countL (L.set q 0) 1 = x1 at *
                generalize countL (L.set q 0) 2 = x2 at *
                go_wp2_with fail
                refine HC0.out.mono ?_
                rintro e w7 ⟨rfl, e7⟩
                subst w7
                go_wp2_with fail
                refine HC1.out.mono ?_
                rintro e w7 ⟨rfl, e7⟩
                subst w7
                go_wp2_with fail
                refine HC2.out.mono ?_
                rintro e w7 ⟨rfl, e7⟩
                subst w7
                go_wp2_with fail
                go_roundw
                case rel => exact ⟨j + 1, _, by omega, by go_num, H4.out.a, HLn2.out⟩
                case measure => simp [intOf]; omega

              · have HC := Lib.hid (sl_give HR.out.a.i.sp m)
                have hG : giveL L m = ⟨0, false, L⟩ := by unfold giveL; rw [if_neg hst]
                rw [hG] at HC
                clear hst hG
                go_wp2_with fail
                refine HC.out.mono ?_
                rintro e w3 ⟨rfl, h3⟩
                have H3 := Lib.hid (HR.out.left h3)
                clear h3 HC
                have HC0 := Lib.hid (sl_count H3.out.a.i.sp 0)
                have HC1 := Lib.hid (sl_count H3.out.a.i.sp 1)
                have HC2 := Lib.hid (sl_count H3.out.a.i.sp 2)
                have hsum := (count_all H3.out.a.i.sp.good).trans (show ((L).length : Int) = (n : Int) by rw [HLn.out])
                have c00 := (count_le (L := L) 0).1
                have c01 := (count_le (L := L) 1).1
                have c02 := (count_le (L := L) 2).1
                generalize countL (L) 0 = x0 at *
                generalize countL (L) 1 = x1 at *
                generalize countL (L) 2 = x2 at *
                go_wp2_with fail
                refine HC0.out.mono ?_
                rintro e w7 ⟨rfl, e7⟩
                subst w7
                go_wp2_with fail
                refine HC1.out.mono ?_
                rintro e w7 ⟨rfl, e7⟩
                subst w7
                go_wp2_with fail
                refine HC2.out.mono ?_
                rintro e w7 ⟨rfl, e7⟩
                subst w7
                go_wp2_with fail
                go_roundw
                case rel => exact ⟨j + 1, _, by omega, by go_num, H3.out.a, HLn.out⟩
                case measure => simp [intOf]; omega

            · have e2 : (k == 2) = false := by simpa using k2
              by_cases k3 : k = 3
              · subst k3
                by_cases hst : stL L m = 0 ∨ stL L m = 1
                · obtain ⟨q, hm, hqL, hget⟩ := stL_lives (show stL L m ≠ -1 by omega)
                  subst hm
                  have HC := Lib.hid (sl_spoil HR.out.a.i.sp (q : Int))
                  have hG : spoilL L (q : Int) = ⟨0, true, L.set q 2⟩ := by unfold spoilL; rw [if_pos hst, Int.toNat_natCast]
                  rw [hG] at HC
                  obtain ⟨x, hxe⟩ : ∃ x, L.getD q 0 = x := ⟨_, rfl⟩
                  have hx2 : (x == 2) = false := by rw [hget, hxe] at hst; exact beq_eq_false_iff_ne.2 (by omega)
                  have hx : L[q]? = some x := by rw [get_getD hqL, hxe]
                  have HX := Lib.hid hx
                  have HLn2 := Lib.hid ((List.length_set : (L.set q (2 : Int)).length = L.length).trans HLn.out)
                  have hqn : q < n := by omega
                  clear hst hG hx hget hqL hxe
                  go_wp2_with fail
                  refine HC.out.mono ?_
                  rintro e w3 ⟨rfl, h3⟩
                  have H3 := Lib.hid (HR.out.left h3)
                  obtain ⟨ch, fh⟩ := H3.out.a.row.at HX.out
                  obtain ⟨d0, d1⟩ := H3.out.b.at
                  simp only at d0 d1
                  have H4 := Lib.hid (H3.out.set q 2)
                  clear h3 HC
                  have HC0 := Lib.hid (sl_count H4.out.a.i.sp 0)
                  have HC1 := Lib.hid (sl_count H4.out.a.i.sp 1)
                  have HC2 := Lib.hid (sl_count H4.out.a.i.sp 2)
                  have hsum := (count_all H4.out.a.i.sp.good).trans (show ((L.set q 2).length : Int) = (n : Int) by rw [HLn2.out])
                  have c00 := (count_le (L := L.set q 2) 0).1
                  have c01 := (count_le (L := L.set q 2) 1).1
                  have c02 := (count_le (L := L.set q 2) 2).1
                  generalize countL (L.set q 2) 0 = x0 at *
                  generalize countL (L.set q 2) 1 = x1 at *
                  generalize countL (L.set q 2) 2 = x2 at *
                  go_wp2_with fail
                  refine HC0.out.mono ?_
                  rintro e w7 ⟨rfl, e7⟩
                  subst w7
                  go_wp2_with fail
                  refine HC1.out.mono ?_
                  rintro e w7 ⟨rfl, e7⟩
                  subst w7
                  go_wp2_with fail
                  refine HC2.out.mono ?_
                  rintro e w7 ⟨rfl, e7⟩
                  subst w7
                  go_wp2_with fail
                  go_roundw
                  case rel => exact ⟨j + 1, _, by omega, by go_num, H4.out.a, HLn2.out⟩
                  case measure => simp [intOf]; omega

                · have HC := Lib.hid (sl_spoil HR.out.a.i.sp m)
                  have hG : spoilL L m = ⟨0, false, L⟩ := by unfold spoilL; rw [if_neg hst]
                  rw [hG] at HC
                  clear hst hG
                  go_wp2_with fail
                  refine HC.out.mono ?_
                  rintro e w3 ⟨rfl, h3⟩
                  have H3 := Lib.hid (HR.out.left h3)
                  clear h3 HC
                  have HC0 := Lib.hid (sl_count H3.out.a.i.sp 0)
                  have HC1 := Lib.hid (sl_count H3.out.a.i.sp 1)
                  have HC2 := Lib.hid (sl_count H3.out.a.i.sp 2)
                  have hsum := (count_all H3.out.a.i.sp.good).trans (show ((L).length : Int) = (n : Int) by rw [HLn.out])
                  have c00 := (count_le (L := L) 0).1
                  have c01 := (count_le (L := L) 1).1
                  have c02 := (count_le (L := L) 2).1
                  generalize countL (L) 0 = x0 at *
                  generalize countL (L) 1 = x1 at *
                  generalize countL (L) 2 = x2 at *
                  go_wp2_with fail
                  refine HC0.out.mono ?_
                  rintro e w7 ⟨rfl, e7⟩
                  subst w7
                  go_wp2_with fail
                  refine HC1.out.mono ?_
                  rintro e w7 ⟨rfl, e7⟩
                  subst w7
                  go_wp2_with fail
                  refine HC2.out.mono ?_
                  rintro e w7 ⟨rfl, e7⟩
                  subst w7
                  go_wp2_with fail
                  go_roundw
                  case rel => exact ⟨j + 1, _, by omega, by go_num, H3.out.a, HLn.out⟩
                  case measure => simp [intOf]; omega

              · have e3 : (k == 3) = false := by simpa using k3
                clear k0 k1 k2 k3
                have HC0 := Lib.hid (sl_count HR.out.a.i.sp 0)
                have HC1 := Lib.hid (sl_count HR.out.a.i.sp 1)
                have HC2 := Lib.hid (sl_count HR.out.a.i.sp 2)
                have hsum := (count_all HR.out.a.i.sp.good).trans (show ((L).length : Int) = (n : Int) by rw [HLn.out])
                have c00 := (count_le (L := L) 0).1
                have c01 := (count_le (L := L) 1).1
                have c02 := (count_le (L := L) 2).1
                generalize countL (L) 0 = x0 at *
                generalize countL (L) 1 = x1 at *
                generalize countL (L) 2 = x2 at *
                go_wp2_with fail
                refine HC0.out.mono ?_
                rintro e w7 ⟨rfl, e7⟩
                subst w7
                go_wp2_with fail
                refine HC1.out.mono ?_
                rintro e w7 ⟨rfl, e7⟩
                subst w7
                go_wp2_with fail
                refine HC2.out.mono ?_
                rintro e w7 ⟨rfl, e7⟩
                subst w7
                go_wp2_with fail
                go_roundw
                case rel => exact ⟨j + 1, _, by omega, by go_num, HR.out.a, HLn.out⟩
                case measure => simp [intOf]; omega
      · obtain rfl : j = l := by omega
        clear hlt
        go_wp2_with fail
        go_loopw [14, 15, 152] (fun _ _ iv wr2 => ∃ i : Nat, i ≤ n ∧ iv = .int .i64 i ∧ Hid (wr2 = wr)) (fun _ _ iv _ => n - (intOf iv).toNat)
        case atStart => exact ⟨0, by omega, rfl, rfl⟩
        case round =>
          obtain ⟨i, hi, rfl, HW⟩ := hrel
          have hw := HW.out.symm
          subst hw
          by_cases hlt2 : i < n
          · have hiL : i < L.length := by rw [HLn.out]; exact hlt2
            obtain ⟨ch, -⟩ := HJ.out.row.at (get_getD hiL)
            have hst := sl_state HJ.out.i.sp (i : Int)
            rw [stL_in hiL] at hst
            have HSt := Lib.hid hst
            generalize L.getD i 0 = x at *
            clear hst hiL
            go_wp2_with fail
            refine HSt.out.mono ?_
            rintro e w5 ⟨rfl, e5⟩
            subst w5
            go_wp2_with fail
            go_roundw
            case rel => exact ⟨i + 1, by omega, by go_num, by first | exact rfl | exact trivial⟩
            case measure => simp [intOf]; omega
          · obtain rfl : i = n := by omega
            go_wp2_with fail
            refine (HLv.out _).mono ?_
            rintro e w6 ⟨rfl, g6⟩
            have HG8 := Lib.hid (grown_trans HJ.out.i.grown g6)
            clear g6
            go_wp2_with fail
            go_ret
            exact ⟨rfl, HG8.out⟩
end Go.Proofs.Ythpjggghdaelbaa
