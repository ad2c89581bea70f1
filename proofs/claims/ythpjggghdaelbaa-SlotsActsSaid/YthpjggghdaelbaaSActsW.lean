/- SlotsActs, walked. -/
import Derived.Test.YthpjggghdaelbaaSAct
import Derived.Deep.CutBlock
import Derived.Deep.DeepCutAuto
namespace Go.Proofs.Ythpjggghdaelbaa
open Go.ChangeShapes Go.WideShapes Go.ChangeAt Go.RowKit Go.Deep
set_option linter.unusedVariables false

theorem eql_ref_nil (w : World) (a : Addr) : (binOp .eql 25 (.pointer (some a)) (.pointer none)).run Try.prog w = .ok (.bool false) w := by
  have h1 : ∀ d : Nat, (Op.equalIn (d + 1) 25 (.pointer (some a)) (.pointer none)).run Try.prog w = .ok false w := fun d => by
    simp [Op.equalIn, run_underlying Try.underlying25]
  simp only [binOp]
  simp [Op.equal, Op.maxDepth, h1 9999]
theorem eql_ref_none (w : World) : (binOp .eql 25 (.pointer none) (.pointer none)).run Try.prog w = .ok (.bool true) w := by kernel_rfl

theorem same_two {P2 : Nat → Bool} {mo : Nat} {w : World} {ga gb : Nat} {us vs : List Nat} (ha : WRow w ga us) (hb : WRow w gb vs) (pa : WordsAre P2 mo us) (pb : WordsAre P2 mo vs) (hm : mo ≤ 4) :
    Calls Try.prog 23 #[.slice (some ⟨ga, 0, none⟩) mo mo, .slice (some ⟨gb, 0, none⟩) mo mo] w fun e w' => e = .returned (.bool true) ∧ w.grownBy w' none := by
  have e := pa.uniq pb fun _ _ => rfl
  have l1 := pa.len
  have l2 := pb.len
  have h := rf_same (ca := mo) (cb := mo) ha hb (by omega) (by omega) true (by simp [e])
  rw [l1, l2] at h
  exact h
/-- Both, side by side. -/
structure AD (w wx : World) (r : Nat) (L : List Int) (gu gs q : Nat) (M : List Int) (g c : Nat) : Prop where
  i : LS w wx r L gu gs
  d : RS wx q M g c
  og : ∀ b, b ∈ [q, g] → w.heap.size ≤ b
  ap : ∀ b, b ∈ [q, g] → b ∉ [r, gu, gs]
/-- .. and a round's box. -/
structure AX (w wx : World) (r : Nat) (L : List Int) (gu gs q : Nat) (M : List Int) (g c y : Nat) (A : SActV) : Prop where
  a : AD w wx r L gu gs q M g c
  b : SActB wx y A
  yn : y ∉ [r, gu, gs]
  yq : y ∉ [q, g]
section
variable {w wx w2 : World} {r gu gs q g c y : Nat} {L L' M M' : List Int} {A : SActV}
theorem AD.grow (k : AD w wx r L gu gs q M g c) (t : wx.grownBy w2 none) : AD w w2 r L gu gs q M g c := ⟨k.i.grow t, k.d.grow t, k.og, k.ap⟩
theorem AX.grow (k : AX w wx r L gu gs q M g c y A) (t : wx.grownBy w2 none) : AX w w2 r L gu gs q M g c y A := ⟨k.a.grow t, k.b.grow t, k.yn, k.yq⟩
theorem AX.left (k : AX w wx r L gu gs q M g c y A) (t : SLeft wx w2 r L' gu gs) : AX w w2 r L' gu gs q M g c y A :=
  ⟨⟨k.a.i.left t, k.a.d.turn t.2 fun b hb hm => k.a.ap b hb (List.mem_cons_of_mem _ hm), k.a.og, k.a.ap⟩, k.b.turn t.2 fun hm => k.yn (List.mem_cons_of_mem _ hm), k.yn, k.yq⟩
theorem AX.right (k : AX w wx r L gu gs q M g c y A) (t : RLeft wx w2 q M' g) : ∃ g' c', AX w w2 r L gu gs q M' g' c' y A := by
  obtain ⟨g', c', h2, t2, o2⟩ := t
  have hq : w.heap.size ≤ q := k.a.og q (by simp)
  have hyq : y ≠ q := fun e => k.yq (by rw [e]; simp)
  have hlt := k.b.lt
  refine ⟨g', c', ⟨⟨k.a.i.sp.turn t2 (fun b hb hm => k.a.ap q (by simp) (List.mem_singleton.1 hm ▸ hb)), k.a.i.own, ((Turn.grown k.a.i.grown).trans' t2).noGrown fun b hb => by rw [List.mem_singleton.1 hb]; exact hq⟩, h2, fun b hb => ?_, fun b hb hm => ?_⟩, k.b.turn t2 (by simpa using hyq), k.yn, fun hm => ?_⟩
  · simp at hb
    rcases hb with rfl | rfl
    · exact hq
    · rcases o2 with rfl | o2
      · exact k.a.og b (by simp)
      · have := k.a.i.grown.size; omega
  · simp at hb
    rcases hb with rfl | rfl
    · exact k.a.ap b (by simp) hm
    · rcases o2 with rfl | o2
      · exact k.a.ap b (by simp) hm
      · have := k.a.i.sp.lt b hm; omega
  · simp at hm
    rcases hm with rfl | rfl
    · exact hyq rfl
    · rcases o2 with rfl | o2
      · exact k.yq (by simp)
      · omega
theorem AX.new (k : AD w wx r L gu gs q M g c) (A : SActV) : AX w (wx.alloc (.cells #[.int .i64 A.k, .int .i64 A.n] 29 (0, 0))) r L gu gs q M g c wx.heap.size A :=
  ⟨k.grow (World.grownBy_alloc wx _ none), SActB.new wx A, fun hm => by have := k.i.sp.lt _ hm; omega, fun hm => by have := k.d.lt _ hm; omega⟩
end

set_option maxRecDepth 100000 in
set_option maxHeartbeats 8000000 in
theorem acts_walk8 (w : World) (n : Int) (s : Option Addr) (l c : Nat) (As : List SActV) (hA : SActsAre w s l As) (hn : okI n) :
    Calls Try.prog 3 #[.int .i64 n, .slice s l c] w fun e w' => e = .returned (.bool true) ∧ w.grownBy w' none := by
  have HLv := Lib.hid lives8
  have q1 := eql_slots_nil
  have q2 := eql_slots_nil2
  have q3 := eql_ref_nil
  have q4 := eql_ref_none
  by_cases hs : 0 ≤ n ∧ n ≤ 256
  · obtain ⟨k, rfl⟩ := Int.eq_ofNat_of_zero_le hs.1
    have hk2 : k ≤ 256 := by omega
    have HN := Lib.hid (sl_new_ok k w hk2)
    have HR := Lib.hid (fun wx => rf_new_ok k wx hk2)
    have HA := Lib.hid hA
    clear hs hA hn
    go_enter Try.func3, Try.ntmps3
    go_wp2_with fail
    refine HN.out.mono ?_
    rintro e w1 ⟨r, gu, gs, rfl, h1, g1, o1⟩
    have H1 := Lib.hid (show LS w w1 r (List.replicate k 0) gu gs from ⟨h1, o1, g1⟩)
    clear h1 g1 o1
    go_wp2_with fail
    refine (HR.out _).mono ?_
    rintro e w2 ⟨q, g, c0, rfl, h2, g2, o2⟩
    have HI := Lib.hid (show AD w w2 r (List.replicate k 0) gu gs q (List.replicate k 0) g c0 from ⟨H1.out.grow g2, h2, fun b hb => Nat.le_trans H1.out.grown.size (o2 b hb), fun b hb hm => by have := H1.out.sp.lt b hm; have := o2 b hb; omega⟩)
    clear h2 g2 o2 H1 HN HR
    by_cases hl : l > 200
    · have hb : decide ((l : Int) > 200) = true := by simp; omega
      go_wp2_with fail
      refine (HLv.out _).mono ?_
      rintro e w3 ⟨rfl, g3⟩
      have G3 := Lib.hid (grown_trans HI.out.i.grown g3)
      clear g3
      go_wp2_with fail
      go_ret
      exact ⟨rfl, G3.out⟩
    · have hb : decide ((l : Int) > 200) = false := by simp; omega
      have hl2 : l ≤ 200 := by omega
      clear hl
      generalize List.replicate k (0 : Int) = L0 at *
      go_wp2_with fail
      clear q1 q2 q3 q4
      go_loopw [37] (fun iv wr => ∃ (j : Nat) (L : List Int) (g c : Nat), j ≤ l ∧ iv = .int .i64 j ∧ Hid (AD w wr r L gu gs q L g c)) (fun iv _ => l - (intOf iv).toNat)
      case atStart => exact ⟨0, L0, g, c0, by omega, rfl, HI.out⟩
      case round =>
        clear HI
        obtain ⟨j, L, g1, c1, hj, rfl, HJ⟩ := hrel
        by_cases hlt : j < l
        · obtain ⟨A, hAj⟩ : ∃ A, As[j]? = some A := ⟨_, List.getElem?_eq_getElem (by rw [HA.out.len]; exact hlt)⟩
          have hok := HA.out.ok A (List.mem_of_getElem? hAj)
          obtain ⟨b, o, hs, a0, a1⟩ := HA.out.at HJ.out.i.grown hAj
          subst hs
          have HR := Lib.hid (AX.new HJ.out A)
          obtain ⟨k, m⟩ := A
          simp only at a0 a1 HR
          generalize hwB : wr.alloc (.cells #[.int .i64 k, .int .i64 m] 29 (0, 0)) = wB at *
          obtain ⟨b0, b1⟩ := HR.out.b.at
          simp only at b0 b1
          have HM := Lib.hid hok.n
          clear hAj hok HJ
          generalize hY : wr.heap.size = Y at *
          go_upto_block 2 with fail
          clear a0 a1
          go_cut [9, 10, 11, 12, 13, 14, 15, 16, 17] from 43 to 108 (fun ok _ _ _ _ _ _ _ _ wx => ok = .bool true ∧ ∃ (L' : List Int) (g' c' : Nat), Hid (AX w wx r L' gu gs q L' g' c' Y ⟨k, m⟩))
          case first =>
            by_cases k0 : k = 0
            · subst k0
              obtain ⟨T, hT⟩ : ∃ T, takeL L 1 = T := ⟨_, rfl⟩
              have hc := sl_take HR.out.a.i.sp
              rw [hT] at hc
              have HC := Lib.hid hc
              have HD := Lib.hid (show ∀ (wx : World) (gg cc : Nat), RS wx q L gg cc → _ from fun wx gg cc h => rf_take h)
              rw [hT] at HD
              clear hT hc
              go_wp2_with fail
              refine HC.out.mono ?_
              rintro e w5 ⟨rfl, h5⟩
              have H5 := Lib.hid (HR.out.left h5)
              obtain ⟨z0, z1⟩ := H5.out.b.at
              simp only at z0 z1
              clear h5 HC
              go_wp2_with fail
              refine (HD.out _ _ _ H5.out.a.d).mono ?_
              rintro e w6 ⟨rfl, h6⟩
              obtain ⟨g6, c6, h6⟩ := H5.out.right h6
              have H6 := Lib.hid h6
              clear h6 HD z0 z1
              go_wp2
              go_meet
              case rel => exact ⟨by first | rfl | trivial, T.L, g6, c6, H6⟩

            · have e0 : (k == 0) = false := by simpa using k0
              by_cases k1 : k = 1
              · subst k1
                obtain ⟨T, hT⟩ : ∃ T, takeL L m = T := ⟨_, rfl⟩
                have hc := sl_takeRun HR.out.a.i.sp m HM.out
                rw [hT] at hc
                have HC := Lib.hid hc
                have HD := Lib.hid (show ∀ (wx : World) (gg cc : Nat), RS wx q L gg cc → _ from fun wx gg cc h => rf_takeRun h m HM.out)
                rw [hT] at HD
                clear hT hc
                go_wp2_with fail
                refine HC.out.mono ?_
                rintro e w5 ⟨rfl, h5⟩
                have H5 := Lib.hid (HR.out.left h5)
                obtain ⟨z0, z1⟩ := H5.out.b.at
                simp only at z0 z1
                clear h5 HC
                go_wp2_with fail
                refine (HD.out _ _ _ H5.out.a.d).mono ?_
                rintro e w6 ⟨rfl, h6⟩
                obtain ⟨g6, c6, h6⟩ := H5.out.right h6
                have H6 := Lib.hid h6
                clear h6 HD z0 z1
                go_wp2
                go_meet
                case rel => exact ⟨by first | rfl | trivial, T.L, g6, c6, H6⟩

              · have e1 : (k == 1) = false := by simpa using k1
                by_cases k2 : k = 2
                · subst k2
                  have HB := Lib.hid (HR.out.grow (grown_drew1 _))
                  have hkd := HB.out.b.at.2
                  simp only at hkd
                  go_wp2_with fail
                  go_region_held3 (fun w' => w'.cell? ⟨Y, 1, none⟩ = some (.int .i64 m)) (exact hkd)
                    (first
                      | (go_at_call 15; with_reducible refine ((sl_give HB.out.a.i.sp m).mono ?_); rintro e w5 ⟨rfl, h5⟩; replace HB := Lib.hid (HB.out.left h5); replace hkd := HB.out.b.at.2; simp only at hkd; clear h5)
                      | (go_at_call 16; with_reducible refine ((rf_give HB.out.a.d m).mono ?_); rintro e w6 ⟨rfl, h6⟩; obtain ⟨g6, c6, h6⟩ := HB.out.right h6; replace HB := Lib.hid h6; replace hkd := HB.out.b.at.2; simp only at hkd; clear h6))
                  all_goals
                    go_wp2
                    go_meet
                    case rel => exact ⟨by first | rfl | trivial, _, _, _, HB⟩

                · have e2 : (k == 2) = false := by simpa using k2
                  by_cases k3 : k = 3
                  · subst k3
                    have HB := Lib.hid (HR.out.grow (grown_drew1 _))
                    have hkd := HB.out.b.at.2
                    simp only at hkd
                    go_wp2_with fail
                    go_region_held3 (fun w' => w'.cell? ⟨Y, 1, none⟩ = some (.int .i64 m)) (exact hkd)
                      (first
                        | (go_at_call 17; with_reducible refine ((sl_spoil HB.out.a.i.sp m).mono ?_); rintro e w5 ⟨rfl, h5⟩; replace HB := Lib.hid (HB.out.left h5); replace hkd := HB.out.b.at.2; simp only at hkd; clear h5)
                        | (go_at_call 18; with_reducible refine ((rf_spoil HB.out.a.d m).mono ?_); rintro e w6 ⟨rfl, h6⟩; obtain ⟨g6, c6, h6⟩ := HB.out.right h6; replace HB := Lib.hid h6; replace hkd := HB.out.b.at.2; simp only at hkd; clear h6))
                    all_goals
                      go_wp2
                      go_meet
                      case rel => exact ⟨by first | rfl | trivial, _, _, _, HB⟩

                  · have e3 : (k == 3) = false := by simpa using k3
                    clear k0 k1 k2 k3
                    go_wp2
                    go_meet
                    case rel => exact ⟨by first | rfl | trivial, _, _, _, HR⟩
          case rest =>
            obtain ⟨rfl, L2, g2, c2, HX2⟩ := hcut
            clear HR b0 b1
            have HB := Lib.hid (HX2.out.grow (grown_drew1 _))
            have hkd := HB.out.b.at.2
            simp only at hkd
            obtain ⟨X, hX⟩ : ∃ X, stL L2 m = X := ⟨_, rfl⟩
            obtain ⟨C, hC⟩ : ∃ C, countL L2 m = C := ⟨_, rfl⟩
            obtain ⟨C0, hC0⟩ : ∃ C0, countL L2 0 = C0 := ⟨_, rfl⟩
            obtain ⟨P2, hP2⟩ : ∃ P2, usedB L2 = P2 := ⟨_, rfl⟩
            obtain ⟨mo, hmo⟩ : ∃ mo, mOf L2 = mo := ⟨_, rfl⟩
            have hm4 := mOf_le HB.out.a.i.sp.good
            rw [hmo] at hm4
            have F1 := Lib.hid (fun (wx : World) (h : AX w wx r L2 gu gs q L2 g2 c2 Y ⟨k, m⟩) => sl_state h.a.i.sp m)
            have F2 := Lib.hid (fun (wx : World) (h : AX w wx r L2 gu gs q L2 g2 c2 Y ⟨k, m⟩) => rf_state h.a.d m)
            have F3 := Lib.hid (fun (wx : World) (h : AX w wx r L2 gu gs q L2 g2 c2 Y ⟨k, m⟩) => sl_count h.a.i.sp m)
            have F4 := Lib.hid (fun (wx : World) (h : AX w wx r L2 gu gs q L2 g2 c2 Y ⟨k, m⟩) => rf_count h.a.d m)
            have F5 := Lib.hid (fun (wx : World) (h : AX w wx r L2 gu gs q L2 g2 c2 Y ⟨k, m⟩) => sl_count h.a.i.sp 0)
            have F6 := Lib.hid (fun (wx : World) (h : AX w wx r L2 gu gs q L2 g2 c2 Y ⟨k, m⟩) => rf_count h.a.d 0)
            have F7 := Lib.hid (fun (wx : World) (h : AX w wx r L2 gu gs q L2 g2 c2 Y ⟨k, m⟩) => sl_words h.a.i.sp)
            have F8 := Lib.hid (fun (wx : World) (h : AX w wx r L2 gu gs q L2 g2 c2 Y ⟨k, m⟩) => rf_words h.a.d)
            rw [hX] at F1 F2
            rw [hC] at F3 F4
            rw [hC0] at F5 F6
            rw [hP2, hmo] at F7 F8
            clear hX hC hC0 hP2 hmo
            go_wp2_with fail
            go_region_held3 (fun w' => w'.cell? ⟨Y, 1, none⟩ = some (.int .i64 m)) (exact hkd)
              (first
                | (go_at_call 19; with_reducible refine ((F1.out _ HB.out).mono ?_); rintro e w5 ⟨rfl, e5⟩; subst w5)
                | (go_at_call 20; with_reducible refine ((F2.out _ HB.out).mono ?_); rintro e w5 ⟨rfl, e5⟩; subst w5)
                | (go_at_call 21; with_reducible refine ((F3.out _ HB.out).mono ?_); rintro e w5 ⟨rfl, e5⟩; subst w5)
                | (go_at_call 22; with_reducible refine ((F4.out _ HB.out).mono ?_); rintro e w5 ⟨rfl, e5⟩; subst w5)
                | (go_at_call 21; with_reducible refine ((F5.out _ HB.out).mono ?_); rintro e w5 ⟨rfl, e5⟩; subst w5)
                | (go_at_call 22; with_reducible refine ((F6.out _ HB.out).mono ?_); rintro e w5 ⟨rfl, e5⟩; subst w5)
                | (go_at_call 24; with_reducible refine ((F7.out _ HB.out).mono ?_); rintro e w7 ⟨ga, us, rfl, h7, p7, gr7, -⟩; replace HB := Lib.hid (HB.out.grow gr7); replace hkd := HB.out.b.at.2; simp only at hkd; have HUa := Lib.hid h7; have HPa := Lib.hid p7; (try replace HUb := Lib.hid (HUb.out.kept (gr7.block _ HUb.out.lt (by simp)))); clear h7 p7 gr7)
                | (go_at_call 25; with_reducible refine ((F8.out _ HB.out).mono ?_); rintro e w8 ⟨gb, vs, rfl, h8, p8, gr8, -⟩; replace HB := Lib.hid (HB.out.grow gr8); replace hkd := HB.out.b.at.2; simp only at hkd; have HUb := Lib.hid h8; have HPb := Lib.hid p8; (try replace HUa := Lib.hid (HUa.out.kept (gr8.block _ HUa.out.lt (by simp)))); clear h8 p8 gr8)
                | (go_at_call 23; with_reducible refine ((same_two HUa.out HUb.out HPa.out HPb.out hm4).mono ?_); rintro e w9 ⟨rfl, gr9⟩; replace HB := Lib.hid (HB.out.grow gr9); replace hkd := HB.out.b.at.2; simp only at hkd; clear gr9))
            all_goals
              go_wp2_with fail
              go_roundw
              case rel => exact ⟨j + 1, L2, g2, c2, by omega, by go_num, HB.out.a⟩
              case measure => simp [intOf]; omega
        · obtain rfl : j = l := by omega
          go_wp2_with fail
          refine (HLv.out _).mono ?_
          rintro e w3 ⟨rfl, g3⟩
          have G3 := Lib.hid (grown_trans HJ.out.i.grown g3)
          clear g3
          go_wp2_with fail
          go_ret
          exact ⟨rfl, G3.out⟩
  · have HN := Lib.hid (sl_new_no n w hs)
    have HR := Lib.hid (fun wx => rf_new_no n wx hs)
    clear hs hA
    go_enter Try.func3, Try.ntmps3
    go_wp2_with fail
    refine HN.out.mono ?_
    rintro e w1 ⟨rfl, e1⟩
    subst w1
    go_wp2_with fail
    refine (HR.out _).mono ?_
    rintro e w2 ⟨rfl, e2⟩
    subst w2
    go_wp2_with fail
    refine (HLv.out _).mono ?_
    rintro e w3 ⟨rfl, g3⟩
    have G3 := Lib.hid g3
    clear g3
    go_wp2_with fail
    go_ret
    exact ⟨rfl, G3.out⟩
end Go.Proofs.Ythpjggghdaelbaa
