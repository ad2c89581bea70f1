/- FramesClasses, walked out of what package frames says. -/
import Derived.Test.YtabgfjmfhkfbmaaFHolds
import Derived.Test.YtabgfjmfhkfbmaaFActs
namespace Go.Proofs.Ytabgfjmfhkfbmaa
open Go.ChangeShapes Go.WideShapes Go.ChangeAt Go.RowKit Go.Deep
set_option linter.unusedVariables false

theorem getV_form2 (o : Option FrV) : ∃ (x : FrV) (b : Bool), getV o = .tuple #[.agg #[.int .i64 x.cl, .int .i64 x.ow, .int .i64 x.ix, .int .i64 x.wi, .int .i64 x.lo], .bool b] ∧ (b = true → o = some x) := by
  cases o with
  | none => exact ⟨zeroF, false, rfl, fun h => by cases h⟩
  | some x => exact ⟨x, true, rfl, fun _ => rfl⟩
theorem give_busy {xs : List FrV} {f : Int} {x : FrV} (hg : Goods xs) (h : getF xs f = some x) (hb : 0 < x.wi ∨ 0 < x.lo) : (giveF xs f).e = 8 := by
  unfold getF at h
  split at h
  · rename_i hc
    obtain ⟨k, rfl⟩ := Int.eq_ofNat_of_zero_le hc.1
    rw [Int.toNat_natCast] at h
    have h0 : x.cl ≠ 0 := fun e => by
      have := (hg x (List.mem_of_getElem? h)).free e
      rw [this] at hb
      simp [zeroF] at hb
    unfold giveF
    rw [atF_at h h0, if_pos (by omega)]
  · cases h
def sumTo (xs : List FrV) : Nat → Int
  | 0 => 0
  | i + 1 => sumTo xs i + countF xs i
theorem sumTo_le (xs : List FrV) : ∀ i : Nat, 0 ≤ sumTo xs i ∧ sumTo xs i ≤ i * xs.length
  | 0 => ⟨Int.le_refl _, by simp [sumTo]⟩
  | i + 1 => by
    have h := sumTo_le xs i
    have h2 := countF_le (xs := xs) (i : Int)
    refine ⟨by show 0 ≤ sumTo xs i + countF xs i; omega, ?_⟩
    show sumTo xs i + countF xs i ≤ _
    push_cast
    rw [Int.add_mul]
    omega
theorem sumTo_all {xs : List FrV} (h : Goods xs) : sumTo xs 5 = xs.length := by
  have := count_all h
  simp only [sumTo]
  push_cast
  omega
theorem neq_fr2 (w : World) (a b c d e : Int) : (binOp .neq 36 (.agg #[.int .i64 a, .int .i64 b, .int .i64 c, .int .i64 d, .int .i64 e]) (.agg #[.int .i64 a, .int .i64 b, .int .i64 c, .int .i64 d, .int .i64 e])).run Try.prog w = .ok (.bool false) w := by
  go_simp

set_option maxRecDepth 100000 in
set_option maxHeartbeats 4000000 in
theorem classes_walk {P : World → Nat → Int → List FrV → List Nat → Prop} (H : FrOk P) (w : World) (n0 : Int) (s : Option Addr) (l c : Nat) (As : List FActV) (hA : FActsAre w s l As) (hn : okU n0) :
    Calls Try.prog 4 #[.int .u64 n0, .slice s l c] w fun e w' => e = .returned (.bool true) ∧ w.grownBy w' none := by
  obtain ⟨n, hnn⟩ : ∃ n : Nat, n0 % 20 = (n : Int) := Int.eq_ofNat_of_zero_le (by omega)
  have hn20 : n < 20 := by omega
  have n00 := hn.1
  have n01 := hn.2
  obtain ⟨m, hm⟩ : ∃ m : Nat, ((n : Int) + 1) / 4 = (m : Int) := Int.eq_ofNat_of_zero_le (by omega)
  have hm0 : m ≤ n + 1 := by omega
  have HLv := Lib.hid (lives6 H)
  have hnew := H.new w (n + 1) m (by omega) (by omega) (by omega) (by omega)
  rw [show ((n + 1 : Nat) : Int) = (n : Int) + 1 by omega] at hnew
  have HN := Lib.hid hnew
  have HT := Lib.hid H
  have hqn := eql_pool_nil
  have hc1 : (1 + (n : Int)) = (n : Int) + 1 := by omega
  have HA := Lib.hid hA
  clear H hnew hA
  by_cases hl : 150 < l
  · have d0 : decide ((l : Int) > 150) = true := by simp; omega
    go_enter Try.func4, Try.ntmps4
    go_wp2_with fail
    refine HN.out.mono ?_
    rintro e w1 ⟨p, O, rfl, h1, g1, o1⟩
    have G1 := Lib.hid g1
    clear h1 g1 o1
    go_wp2_with fail
    refine (HLv.out _).mono ?_
    rintro e w3 ⟨rfl, g3⟩
    have G3 := Lib.hid (grown_trans G1.out g3)
    clear g3
    go_wp2_with fail
    go_ret
    exact ⟨rfl, G3.out⟩
  · have d0 : decide ((l : Int) > 150) = false := by simp; omega
    have hl3 : l ≤ 150 := by omega
    clear hl
    go_enter Try.func4, Try.ntmps4
    go_wp2_with fail
    refine HN.out.mono ?_
    rintro e w1 ⟨p, O, rfl, h1, g1, o1⟩
    have HI := Lib.hid (show FS P w w1 p m (List.replicate (n + 1) zeroF) O from ⟨h1, o1, g1⟩)
    have HLn := Lib.hid (show (List.replicate (n + 1) zeroF).length = n + 1 from List.length_replicate)
    clear h1 g1 o1 HN
    go_wp2_with fail
    clear hqn
    go_loopw [40] (fun iv wr => ∃ (j : Nat) (xs : List FrV) (O' : List Nat), j ≤ l ∧ iv = .int .i64 j ∧ Hid (FS P w wr p m xs O') ∧ Hid (xs.length = n + 1)) (fun iv _ => l - (intOf iv).toNat)
    case atStart => exact ⟨0, _, O, by omega, rfl, HI, HLn⟩
    case round =>
      obtain ⟨j, xs, O', hj, rfl, HIr, HLx⟩ := hrel
      by_cases hlt : j < l
      · obtain ⟨A, hAj⟩ : ∃ A, As[j]? = some A := ⟨_, List.getElem?_eq_getElem (by rw [HA.out.len]; exact hlt)⟩
        obtain ⟨gb, o, rfl, c0, c1, c2', c3, c4⟩ := HA.out.at HIr.out.grown hAj
        have hOk := HA.out.ok A (List.mem_of_getElem? hAj)
        have ga := World.grownBy_alloc wr (.cells #[.int .i64 A.k, .int .i64 A.f, .int .i64 A.a, .int .i64 A.b, .int .i64 A.c] 29 (0, 0)) none
        have hIa := HIr.out.grow HT.out ga
        have hYb := FActB.new wr A
        obtain ⟨x, b, hv, hvb⟩ := getV_form2 (getF xs A.f)
        have hget := HT.out.get hIa.pp A.f hOk.f
        rw [hv] at hget
        have HGet := Lib.hid hget
        have HIa := Lib.hid hIa
        have HYb := Lib.hid hYb
        have HYo := Lib.hid (show wr.heap.size ∉ O' from fun hm => by have := HT.out.lt HIr.out.pp _ hm; omega)
        have HVB := Lib.hid hvb
        have HOk := Lib.hid hOk
        have HGd := Lib.hid (HT.out.good HIr.out.pp)
        obtain ⟨b0, b1, b2, b3, b4⟩ := hYb.at
        clear hAj ga hIa hYb hget hv hvb hOk
        go_wp2_with fail
        refine HGet.out.mono ?_
        rintro e w5 ⟨rfl, g5⟩
        have g6 := grown_trans g5 (World.grownBy_alloc w5 (.cells #[.int .i64 x.cl, .int .i64 x.ow, .int .i64 x.ix, .int .i64 x.wi, .int .i64 x.lo] 36 (0, 0)) none)
        have hI6 := HIa.out.grow HT.out g6
        have hY6 := HYb.out.grow g6
        have hF6 := FrB.new w5 36 x
        have hFo : w5.heap.size ∉ O' := fun hm => by have h1 := HT.out.lt HIa.out.pp _ hm; have h2 := g5.size; omega
        obtain ⟨X, hX⟩ : ∃ X, actF m xs A = X := ⟨_, rfl⟩
        have hact := act_ok HT.out hI6.pp A HOk.out
        rw [hX] at hact
        have HAct := Lib.hid hact
        have HX := Lib.hid hX
        have HI6 := Lib.hid hI6
        have HY6 := Lib.hid hY6
        have HF6 := Lib.hid hF6
        have HFo := Lib.hid hFo
        clear b0 b1 b2 b3 b4 c0 c1 c2' c3 c4
        obtain ⟨b0, b1, b2, b3, b4⟩ := hY6.at
        clear g5 g6 hI6 hY6 hF6 hFo hact hX
        go_wp2_with fail
        refine HAct.out.mono ?_
        rintro e w7 ⟨rfl, h7⟩
        obtain ⟨O7, h7, t7, -⟩ := HI6.out.left HT.out h7
        have HI7 := Lib.hid h7
        have hY7 := HY6.out.turn t7 HYo.out
        have hF7 := HF6.out.turn t7 HFo.out
        clear b0 b1 b2 b3 b4 h7 t7
        obtain ⟨b0, b1, b2, b3, b4⟩ := hY7.at
        obtain ⟨f0, f1, f2, f3, f4⟩ := hF7.at
        clear hY7 hF7
        go_upto_region 10 with fail
        go_cut [76] from 57 to 76 (fun v wx => v = .bool false ∧ wx = w7)
        case first =>
          by_cases hk1 : A.k = 1
          · have e0 : (A.k == 1) = true := by simp [hk1]
            cases b with
            | false =>
              clear hk1
              go_wp2_with fail
              go_meet
              case rel => exact ⟨rfl, rfl⟩
            | true =>
              by_cases hwi : 0 < x.wi
              · have he : (X.e != 8) = false := by
                  rw [show X.e = 8 by rw [← HX.out]; unfold actF; rw [if_neg (by omega), if_pos hk1]; exact give_busy HGd.out (HVB.out rfl) (.inl hwi)]
                  rfl
                clear hk1
                go_wp2_with fail
                go_meet
                case rel => exact ⟨rfl, rfl⟩
              · by_cases hlo : 0 < x.lo
                · have he : (X.e != 8) = false := by
                    rw [show X.e = 8 by rw [← HX.out]; unfold actF; rw [if_neg (by omega), if_pos hk1]; exact give_busy HGd.out (HVB.out rfl) (.inr hlo)]
                    rfl
                  clear hk1
                  go_wp2_with fail
                  go_meet
                  case rel => exact ⟨rfl, rfl⟩
                · clear hk1
                  go_wp2_with fail
                  go_meet
                  case rel => exact ⟨rfl, rfl⟩
          · have e0 : (A.k == 1) = false := by simp [hk1]
            clear hk1
            go_wp2_with fail
            go_meet
            case rel => exact ⟨rfl, rfl⟩
        case rest =>
          obtain ⟨rfl, rfl⟩ := hcut
          have HL7 := Lib.hid (show X.xs.length = n + 1 by rw [← HX.out, actF_len]; exact HLx.out)
          have hG7 := HT.out.good HI7.out.pp
          have HG7 := Lib.hid hG7
          have HSA := Lib.hid (sumTo_all hG7)
          clear b0 b1 b2 b3 b4 f0 f1 f2 f3 f4 hG7 HY6 HF6 HAct HI6 HGet HIa HYb
          go_wp2_with fail
          go_loopw [13, 14] (fun sv iv wx => ∃ (i : Nat) (sm : Int), i ≤ 5 ∧ 0 ≤ sm ∧ sm ≤ 100000 ∧ sv = .int .i64 sm ∧ iv = .int .i64 i ∧ Hid (sm = sumTo X.xs i) ∧ Hid (FS P w wx p m X.xs O7)) (fun _ iv _ => 5 - (intOf iv).toNat)
          case atStart => exact ⟨0, 0, by omega, by omega, by omega, rfl, rfl, rfl, HI7⟩
          case round =>
            obtain ⟨i, sm, hi, hs0, hs1, rfl, rfl, HSm, HIx⟩ := hrel
            by_cases hlt2 : i < 5
            · have hk := HT.out.count HIx.out.pp i (ok_s (by omega) (by omega))
              obtain ⟨cn, hcn⟩ : ∃ cn, countF X.xs i = cn := ⟨_, rfl⟩
              have hb1 := sumTo_le X.xs (i + 1)
              rw [HL7.out] at hb1
              have hsum : sm + cn = sumTo X.xs (i + 1) := by rw [HSm.out, ← hcn]; rfl
              have hcb := countF_le (xs := X.xs) (i : Int)
              rw [hcn, HL7.out] at hcb
              have hc0 := hcb.1
              have hc1' := hcb.2
              have hs2 : sm + cn ≤ 100000 := by
                have h2 := hb1.2
                rw [← hsum] at h2
                have : ((i + 1 : Nat) : Int) * ((n + 1 : Nat) : Int) ≤ 5 * 21 := Int.mul_le_mul (by omega) (by omega) (by omega) (by omega)
                omega
              have HSum := Lib.hid hsum
              rw [hcn] at hk
              have HK := Lib.hid hk
              clear hk hcn hb1 hsum hcb
              go_wp2_with fail
              refine HK.out.mono ?_
              rintro e w9 ⟨rfl, g9⟩
              have HI9 := Lib.hid (HIx.out.grow HT.out g9)
              clear g9
              go_wp2_with fail
              go_roundw
              case rel => exact ⟨i + 1, sm + cn, by omega, by omega, by omega, rfl, by go_num, HSum, HI9⟩
              case measure => simp [intOf]; omega
            · obtain rfl : i = 5 := by omega
              obtain rfl : sm = (n : Int) + 1 := by rw [HSm.out, HSA.out, HL7.out]; omega
              have HK := Lib.hid (HT.out.count HIx.out.pp 0 (ok_s (by decide) (by decide)))
              obtain ⟨cn, hcn⟩ : ∃ cn, countF X.xs 0 = cn := ⟨_, rfl⟩
              have HCN := Lib.hid hcn
              rw [hcn] at HK
              clear hcn
              go_wp2_with fail
              refine HK.out.mono ?_
              rintro e w9 ⟨rfl, g9⟩
              have h9 := HIx.out.grow HT.out g9
              have HI9 := Lib.hid h9
              have HK9 := Lib.hid (HT.out.free h9.pp)
              rw [HCN.out] at HK9
              clear g9 h9 HK
              go_wp2_with fail
              refine HK9.out.mono ?_
              rintro e w10 ⟨rfl, g10⟩
              have HI10 := Lib.hid (HI9.out.grow HT.out g10)
              clear g10 HK9
              go_wp2_with fail
              go_loopw [15] (fun iv wy => ∃ (q : Nat), q ≤ n + 1 ∧ iv = .int .i64 q ∧ Hid (FS P w wy p m X.xs O7)) (fun iv _ => n + 1 - (intOf iv).toNat)
              case atStart => exact ⟨0, by omega, rfl, HI10⟩
              case round =>
                obtain ⟨q, hq, rfl, HIy⟩ := hrel
                by_cases hlt3 : q < n + 1
                · have hql : q < X.xs.length := by rw [HL7.out]; exact hlt3
                  obtain ⟨y, hy⟩ : ∃ y, X.xs[q]? = some y := ⟨_, List.getElem?_eq_getElem hql⟩
                  have hgy := HG7.out y (List.mem_of_getElem? hy)
                  have hk := HT.out.get HIy.out.pp q (ok_s (by omega) (by omega))
                  rw [show getV (getF X.xs q) = .tuple #[.agg #[.int .i64 y.cl, .int .i64 y.ow, .int .i64 y.ix, .int .i64 y.wi, .int .i64 y.lo], .bool true] by unfold getF; rw [if_pos (by omega), Int.toNat_natCast, hy]; rfl] at hk
                  have hlt4 : (q : Int) < (n : Int) + 1 := by omega
                  by_cases hc0 : y.cl = 0
                  · have hyz := hgy.free hc0
                    rw [hyz] at hk
                    unfold zeroF at hk
                    simp only at hk
                    have HK := Lib.hid hk
                    have hnq := neq_fr2
                    clear hk hgy hy hyz hc0 hql
                    go_wp2_with fail
                    refine HK.out.mono ?_
                    rintro e w12 ⟨rfl, g12⟩
                    have HI12 := Lib.hid ((HIy.out.grow HT.out g12).grow HT.out (World.grownBy_alloc w12 (.cells #[.int .i64 0, .int .i64 0, .int .i64 0, .int .i64 0, .int .i64 0] 36 (0, 0)) none))
                    obtain ⟨y0, y1, y2, y3, y4⟩ := (FrB.new w12 36 ⟨0, 0, 0, 0, 0⟩).at
                    simp only at y0 y1 y2 y3 y4
                    clear g12
                    go_wp2_with fail
                    go_roundw
                    case rel => exact ⟨q + 1, by omega, by go_num, HI12⟩
                    case measure => simp [intOf]; omega
                  · have hcb : (y.cl == 0) = false := by simpa using hc0
                    have hw0 := hgy.w0
                    have hl0 := hgy.l0
                    have hnw : decide (y.wi < 0) = false := by simpa using hw0
                    have hnl : decide (y.lo < 0) = false := by simpa using hl0
                    clear hgy hy hc0 hql hw0 hl0
                    obtain ⟨yc, yo, yi, yw, yl⟩ := y
                    simp only at hk hnw hnl hcb
                    have HK := Lib.hid hk
                    clear hk
                    go_wp2_with fail
                    refine HK.out.mono ?_
                    rintro e w12 ⟨rfl, g12⟩
                    have HI12 := Lib.hid ((HIy.out.grow HT.out g12).grow HT.out (World.grownBy_alloc w12 (.cells #[.int .i64 yc, .int .i64 yo, .int .i64 yi, .int .i64 yw, .int .i64 yl] 36 (0, 0)) none))
                    obtain ⟨y0, y1, y2, y3, y4⟩ := (FrB.new w12 36 ⟨yc, yo, yi, yw, yl⟩).at
                    simp only at y0 y1 y2 y3 y4
                    clear g12
                    go_wp2_with fail
                    go_roundw
                    case rel => exact ⟨q + 1, by omega, by go_num, HI12⟩
                    case measure => simp [intOf]; omega
                · obtain rfl : q = n + 1 := by omega
                  have hge4 : ¬ (((n + 1 : Nat) : Int) < (n : Int) + 1) := by omega
                  go_wp2_with fail
                  go_roundw
                  case rel => exact ⟨j + 1, X.xs, O7, by omega, by go_num, HIy, HL7⟩
                  case measure => simp [intOf]; omega
      · obtain rfl : j = l := by omega
        go_wp2_with fail
        refine (HLv.out _).mono ?_
        rintro e w3 ⟨rfl, g3⟩
        have G3 := Lib.hid (grown_trans HIr.out.grown g3)
        clear g3
        go_wp2_with fail
        go_ret
        exact ⟨rfl, G3.out⟩
end Go.Proofs.Ytabgfjmfhkfbmaa
