/- AnonCounts, walked out of what package anon says. -/
import Derived.Test.YtpiemnffbcgbmaaNLowestW
import Derived.Test.YtpiemnffbcgbmaaNAct
namespace Go.Proofs.Ytpiemnffbcgbmaa
open Go.ChangeShapes Go.WideShapes Go.ChangeAt Go.RowKit Go.Deep
set_option linter.unusedVariables false
set_option linter.unusedSimpArgs false

theorem len_le_sum {f : Int → Int} {l : List Int} (h : ∀ x, x ∈ l → 1 ≤ f x) : (l.length : Int) ≤ (l.map f).sum := by
  induction l with
  | nil => simp
  | cons x l ih =>
    have h1 := ih fun y hy => h y (List.mem_cons_of_mem _ hy)
    have h2 := h x List.mem_cons_self
    rw [List.map_cons, List.sum_cons, List.length_cons]
    omega
theorem ids_le_sum {m : Nat} {L : List AnV} (h : GoodN m L) : ((idsN L).length : Int) ≤ sumN L := by
  rw [← sum_ids L]
  refine len_le_sum fun id hid => ?_
  rcases get_cases L id with ⟨_, hno⟩ | ⟨i, x, _, _, hx, h0, h4, _⟩
  · exact absurd hid hno
  · have := (h.at hx).r0
    unfold reOf
    rw [h4]
    show 1 ≤ x.re
    omega
/-- The law's pool, and a round's box. -/
structure NX (D : World → Nat → Nat → List AnV → List Nat → Prop) (w wx : World) (p m : Nat) (L : List AnV) (O : List Nat) (y : Nat) (A : NActV) : Prop where
  ln : LN D w wx p m L O
  b : NActB wx y A
  yn : y ∉ O
section
variable {D : World → Nat → Nat → List AnV → List Nat → Prop} {w wx w2 : World} {p m y : Nat} {L L' : List AnV} {O : List Nat} {A : NActV}
theorem NX.grow (H : StOkN D) (h : NX D w wx p m L O y A) (g : wx.grownBy w2 none) : NX D w w2 p m L O y A := ⟨h.ln.grow H g, h.b.grow g, h.yn⟩
theorem NX.new (H : StOkN D) (h : LN D w wx p m L O) (A : NActV) : NX D w (wx.alloc (.cells #[.int .i64 A.k, .int .i64 A.id, .int .i64 A.a, .int .i64 A.b] 29 (0, 0))) p m L O wx.heap.size A :=
  ⟨h.grow H (World.grownBy_alloc wx _ none), NActB.new wx A, fun hm => by have := H.lt h.d _ hm; omega⟩
theorem NX.left (h : NX D w wx p m L O y A) (t : AL D wx w2 p m O L') : ∃ O', NX D w w2 p m L' O' y A := by
  obtain ⟨O', h2, t2, o2⟩ := h.ln.left t
  refine ⟨O', h2, h.b.turn t2 h.yn, fun hm => ?_⟩
  rcases o2 y hm with h3 | h3
  · exact h.yn h3
  · have := h.b.lt; omega
end

set_option maxRecDepth 100000 in
set_option maxHeartbeats 16000000 in
theorem counts_walk12 {D : World → Nat → Nat → List AnV → List Nat → Prop} (H : NaOk D) (w : World) (a : Int) (sa : Option Addr) (l c : Nat) (As : List NActV) (hA : NActsAre w sa l As) (ha : okU a) :
    Calls Try.prog 4 #[.int .u64 a, .slice sa l c] w fun e w' => e = .returned (.bool true) ∧ w.grownBy w' none := by
  have HLv := Lib.hid (fun wx => lives12 H wx)
  have HT := Lib.hid H
  have HA := Lib.hid hA
  obtain ⟨n, hm1, hm2⟩ : ∃ m : Nat, a % 30 = m ∧ m < 30 := ⟨(a % 30).toNat, by omega, by omega⟩
  obtain ⟨ha0, ha1⟩ := ha
  have hq1 : a.tmod 30 = (n : Int) := by rw [Int.tmod_eq_emod_of_nonneg ha0]; exact hm1
  have hq0 := eqlN_ptr_nil
  have hq2 := neqN_ptr_nil
  have HN := Lib.hid (H.new n w (by omega))
  by_cases hl60 : l ≤ 150
  · have d60 : decide ((l : Int) > 150) = false := decide_eq_false (by omega)
    clear H hA
    go_enter Try.func4, Try.ntmps4
    go_wp2_with fail
    refine HN.out.mono ?_
    rintro e w1 ⟨p, O, rfl, h1, g1, o1⟩
    have H1 := Lib.hid (show LN D w w1 p n [] O from ⟨h1, o1, g1⟩)
    clear h1 g1 o1 HN
    go_wp2_with fail
    clear hq0 hq2
    go_loopw [7, 37] (fun zv iv wr => ∃ (j : Nat) (L : List AnV) (O : List Nat) (z : Int), j ≤ l ∧ iv = .int .i64 j ∧ zv = .int .i64 z ∧ Hid (z = sumN L) ∧ Hid (LN D w wr p n L O)) (fun _ iv _ => l - (intOf iv).toNat)
    case atStart => exact ⟨0, [], O, 0, by omega, rfl, rfl, Lib.hid rfl, H1⟩
    case round =>
      clear H1
      obtain ⟨j, L, O, z, hj, rfl, rfl, HZ, HJ⟩ := hrel
      by_cases hlt : j < l
      · obtain ⟨A, hAj⟩ : ∃ A, As[j]? = some A := ⟨_, List.getElem?_eq_getElem (by rw [HA.out.len]; exact hlt)⟩
        have hmem := List.mem_of_getElem? hAj
        have HOk := Lib.hid (HA.out.ok A hmem)
        obtain ⟨b, o, hs, a0, a1, a2, a3⟩ := HA.out.at HJ.out.grown hAj
        subst hs
        have HR := Lib.hid (NX.new HT.out.toStOkN HJ.out A)
        have hgood := HT.out.good HJ.out.d
        have HGd := Lib.hid hgood
        have hzb := sum_le hgood
        rw [← HZ.out] at hzb
        clear hAj hmem hgood
        obtain ⟨ak, ai, aa, ab⟩ := A
        simp only at a0 a1 a2 a3 HR
        generalize hwB : wr.alloc (.cells #[.int .i64 ak, .int .i64 ai, .int .i64 aa, .int .i64 ab] 29 (0, 0)) = wB at *
        obtain ⟨b0, b1, b2, b3⟩ := HR.out.b.at
        simp only at b0 b1 b2 b3
        clear HJ
        generalize hY : wr.heap.size = Y at *
        go_upto_region 9 with fail
        clear a0 a1 a2 a3 hwB
        by_cases hk0 : ak = 0
        · subst hk0
          have hk := HT.out.make HR.out.ln.d aa HOk.out.a
          by_cases hfull : n ≤ (idsN L).length
          · rw [show makeN n L aa = ⟨0, 5, L⟩ from if_pos hfull] at hk
            have HK := Lib.hid hk
            clear hk hfull
            go_wp2_with fail
            refine HK.out.mono ?_
            rintro e w4 ⟨rfl, h4⟩
            obtain ⟨O4, h4⟩ := HR.out.left h4
            have H4 := Lib.hid h4
            clear h4 HK HR b0 b1 b2 b3
            have hk := HT.out.sum H4.out.ln.d
            rw [← HZ.out] at hk
            have HKs := Lib.hid hk
            clear hk
            go_wp2_with fail
            refine HKs.out.mono ?_
            rintro e w91 ⟨rfl, g91⟩
            have H91 := Lib.hid (H4.out.grow HT.out.toStOkN g91)
            have hk := HT.out.len H91.out.ln.d
            obtain ⟨q, hq, hq1, hq2⟩ : ∃ q : Nat, (idsN L).length = q ∧ q ≤ n ∧ (q : Int) ≤ z := ⟨_, rfl, ids_le (HT.out.good H91.out.ln.d), by rw [HZ.out]; exact ids_le_sum (HT.out.good H91.out.ln.d)⟩
            rw [hq] at hk
            have HKl := Lib.hid hk
            have HQ := Lib.hid hq
            have dq0 : decide ((q : Int) > (n : Int)) = false := decide_eq_false (by omega)
            have dq1 : decide ((q : Int) > z) = false := decide_eq_false (by omega)
            clear hk g91 HKs hq
            go_wp2_with fail
            refine HKl.out.mono ?_
            rintro e w92 ⟨rfl, g92⟩
            have H92 := Lib.hid (H91.out.grow HT.out.toStOkN g92)
            have hk := HT.out.len H92.out.ln.d
            rw [HQ.out] at hk
            have HKm := Lib.hid hk
            clear hk g92 HKl H91
            go_wp2_with fail
            refine HKm.out.mono ?_
            rintro e w93 ⟨rfl, g93⟩
            have H93 := Lib.hid (H92.out.grow HT.out.toStOkN g93)
            clear g93 HKm H92
            go_wp2_with fail
            go_roundw
            case rel => exact ⟨j + 1, L, O4, z, by omega, by go_num, rfl, HZ, Lib.hid H93.out.ln⟩
            case measure => simp [intOf]; omega
          · have hroom := first_lt HGd.out.len (show (idsN L).length < n by omega)
            rw [show makeN n L aa = ⟨(firstN L : Int) + 1, 0, putL L (firstN L) ⟨1, aa, -1⟩⟩ from if_neg hfull] at hk
            have HK := Lib.hid hk
            have hgs : getN (putL L (firstN L) ⟨1, aa, -1⟩) ((firstN L : Int) + 1) = some ⟨1, aa, -1⟩ := getN_self first_le (by show (1 : Int) ≠ 0; decide)
            have HZ2 := Lib.hid (show z + 1 = sumN (putL L (firstN L) ⟨1, aa, -1⟩) by rw [sum_put first_le first_dead, ← HZ.out])
            have HGS := Lib.hid hgs
            obtain ⟨k, hkk⟩ : ∃ k, firstN L = k := ⟨_, rfl⟩
            rw [hkk] at HK HGS HZ2 hroom
            clear hk hgs hfull hkk
            generalize putL L k ⟨1, aa, -1⟩ = L2 at *
            go_wp2_with fail
            refine HK.out.mono ?_
            rintro e w4 ⟨rfl, h4⟩
            obtain ⟨O4, h4⟩ := HR.out.left h4
            have H4 := Lib.hid h4
            have hk := HT.out.get H4.out.ln.d ((k : Int) + 1) (okS (by omega) (by omega))
            rw [HGS.out] at hk
            unfold getVN anAgg at hk
            have HK2 := Lib.hid hk
            clear hk h4 HK HR b0 b1 b2 b3
            go_wp2_with fail
            refine HK2.out.mono ?_
            rintro e w5 ⟨rfl, g5⟩
            have H5 := Lib.hid ((H4.out.grow HT.out.toStOkN g5).grow HT.out.toStOkN (World.grownBy_alloc w5 (.cells #[.int .i64 1, .int .i64 aa, .int .i64 (-1)] 36 (0, 0)) none))
            obtain ⟨b0, b1, b2, b3⟩ := H5.out.b.at
            simp only at b0 b1 b2 b3
            clear g5 HK2 H4
            have hk := HT.out.sum H5.out.ln.d
            rw [← HZ2.out] at hk
            have HKs := Lib.hid hk
            clear hk
            go_wp2_with fail
            refine HKs.out.mono ?_
            rintro e w91 ⟨rfl, g91⟩
            have H91 := Lib.hid (H5.out.grow HT.out.toStOkN g91)
            have hk := HT.out.len H91.out.ln.d
            obtain ⟨q, hq, hq1, hq2⟩ : ∃ q : Nat, (idsN L2).length = q ∧ q ≤ n ∧ (q : Int) ≤ (z + 1) := ⟨_, rfl, ids_le (HT.out.good H91.out.ln.d), by rw [HZ2.out]; exact ids_le_sum (HT.out.good H91.out.ln.d)⟩
            rw [hq] at hk
            have HKl := Lib.hid hk
            have HQ := Lib.hid hq
            have dq0 : decide ((q : Int) > (n : Int)) = false := decide_eq_false (by omega)
            have dq1 : decide ((q : Int) > (z + 1)) = false := decide_eq_false (by omega)
            clear hk g91 HKs hq
            go_wp2_with fail
            refine HKl.out.mono ?_
            rintro e w92 ⟨rfl, g92⟩
            have H92 := Lib.hid (H91.out.grow HT.out.toStOkN g92)
            have hk := HT.out.len H92.out.ln.d
            rw [HQ.out] at hk
            have HKm := Lib.hid hk
            clear hk g92 HKl H91
            go_wp2_with fail
            refine HKm.out.mono ?_
            rintro e w93 ⟨rfl, g93⟩
            have H93 := Lib.hid (H92.out.grow HT.out.toStOkN g93)
            clear g93 HKm H92
            go_wp2_with fail
            go_roundw
            case rel => exact ⟨j + 1, L2, O4, (z + 1), by omega, by go_num, rfl, HZ2, Lib.hid H93.out.ln⟩
            case measure => simp [intOf]; omega
        · have n0 : (ak == 0) = false := by simpa using hk0
          by_cases hk1 : ak = 1
          · subst hk1
            have hk := HT.out.ref HR.out.ln.d ai aa HOk.out.id HOk.out.a
            rcases get_cases L ai with ⟨h0, hno⟩ | ⟨i, x, hi, h1, h2, h3, h4, h5, h6⟩
            · rw [show refN L ai aa = ⟨zeroN, 7, L⟩ by unfold refN; rw [h0]] at hk
              unfold ansN anAgg zeroN at hk
              have HK := Lib.hid hk
              clear hk h0 hno
              go_wp2_with fail
              refine HK.out.mono ?_
              rintro e w4 ⟨rfl, h4⟩
              obtain ⟨O4, h4⟩ := HR.out.left h4
              have H4 := Lib.hid (h4.grow HT.out.toStOkN (World.grownBy_alloc w4 (.cells #[.int .i64 0, .int .i64 0, .int .i64 0] 36 (0, 0)) none))
              clear h4 HK HR b0 b1 b2 b3
              have hk := HT.out.sum H4.out.ln.d
              rw [← HZ.out] at hk
              have HKs := Lib.hid hk
              clear hk
              go_wp2_with fail
              refine HKs.out.mono ?_
              rintro e w91 ⟨rfl, g91⟩
              have H91 := Lib.hid (H4.out.grow HT.out.toStOkN g91)
              have hk := HT.out.len H91.out.ln.d
              obtain ⟨q, hq, hq1, hq2⟩ : ∃ q : Nat, (idsN L).length = q ∧ q ≤ n ∧ (q : Int) ≤ z := ⟨_, rfl, ids_le (HT.out.good H91.out.ln.d), by rw [HZ.out]; exact ids_le_sum (HT.out.good H91.out.ln.d)⟩
              rw [hq] at hk
              have HKl := Lib.hid hk
              have HQ := Lib.hid hq
              have dq0 : decide ((q : Int) > (n : Int)) = false := decide_eq_false (by omega)
              have dq1 : decide ((q : Int) > z) = false := decide_eq_false (by omega)
              clear hk g91 HKs hq
              go_wp2_with fail
              refine HKl.out.mono ?_
              rintro e w92 ⟨rfl, g92⟩
              have H92 := Lib.hid (H91.out.grow HT.out.toStOkN g92)
              have hk := HT.out.len H92.out.ln.d
              rw [HQ.out] at hk
              have HKm := Lib.hid hk
              clear hk g92 HKl H91
              go_wp2_with fail
              refine HKm.out.mono ?_
              rintro e w93 ⟨rfl, g93⟩
              have H93 := Lib.hid (H92.out.grow HT.out.toStOkN g93)
              clear g93 HKm H92
              go_wp2_with fail
              go_roundw
              case rel => exact ⟨j + 1, L, O4, z, by omega, by go_num, rfl, HZ, Lib.hid H93.out.ln⟩
              case measure => simp [intOf]; omega
            · have hgx := HGd.out.at h2
              by_cases hm : mayN x.re aa
              · rw [show refN L ai aa = ⟨⟨x.re + aa, x.fr, x.sl⟩, 0, L.set i ⟨x.re + aa, x.fr, x.sl⟩⟩ by unfold refN; rw [h4]; simp only; rw [if_pos hm, h6]] at hk
                unfold ansN anAgg at hk
                have HK := Lib.hid hk
                have hs2 := sum_set h2 ⟨x.re + aa, x.fr, x.sl⟩
                simp only at hs2
                have hg2 := sum_le (HGd.out.set i (x := ⟨x.re + aa, x.fr, x.sl⟩) ⟨by have := hm.1; show 0 ≤ x.re + aa; omega, by have := hm.2; show x.re + aa ≤ 1000000; omega, hgx.fr, hgx.sl⟩)
                have HZ2 := Lib.hid (show z + aa = sumN (L.set i ⟨x.re + aa, x.fr, x.sl⟩) by rw [hs2, ← HZ.out]; omega)
                rw [← HZ2.out] at hg2
                have hnn : 0 ≤ x.re + aa := by have := hm.1; omega
                have hlive := putL_live (L := L) (i := i) (x := ⟨x.re + aa, x.fr, x.sl⟩) (Nat.le_of_lt h1) i
                rw [if_pos rfl, putL_set h1] at hlive
                simp only at hlive
                by_cases hz0 : x.re + aa = 0
                · have hgt := get_dead (L := L.set i ⟨x.re + aa, x.fr, x.sl⟩) (i := i) (by rw [hlive, hz0]; rfl)
                  rw [← hi] at hgt
                  have HGS := Lib.hid hgt
                  obtain ⟨xr, xf, xs⟩ := x
                  simp only at *
                  clear hk hs2 hm h1 h2 h3 h4 h5 h6 hi hgx hgt hlive hnn
                  generalize L.set i ⟨xr + aa, xf, xs⟩ = L2 at *
                  rw [hz0] at HK
                  clear hz0
                  go_wp2_with fail
                  refine HK.out.mono ?_
                  rintro e w4 ⟨rfl, h4⟩
                  obtain ⟨O4, h4⟩ := HR.out.left h4
                  have ga := World.grownBy_alloc w4 (.cells #[.int .i64 0, .int .i64 xf, .int .i64 xs] 36 (0, 0)) none
                  have H4 := Lib.hid (h4.grow HT.out.toStOkN ga)
                  have HBx := Lib.hid (AB.new w4 36 ⟨0, xf, xs⟩)
                  simp only at HBx
                  obtain ⟨b0, b1, b2, b3⟩ := H4.out.b.at
                  simp only at b0 b1 b2 b3
                  have hk := HT.out.get H4.out.ln.d ai HOk.out.id
                  rw [HGS.out] at hk
                  unfold getVN anAgg zeroN at hk
                  have HK2 := Lib.hid hk
                  clear hk h4 ga HK HR
                  go_wp2_with fail
                  refine HK2.out.mono ?_
                  rintro e w5 ⟨rfl, g5⟩
                  have ga := World.grownBy_alloc w5 (.cells #[.int .i64 0, .int .i64 0, .int .i64 0] 36 (0, 0)) none
                  have H5 := Lib.hid ((H4.out.grow HT.out.toStOkN g5).grow HT.out.toStOkN ga)
                  have x0 := ((HBx.out.grow g5).grow ga).at.1
                  simp only at x0
                  clear g5 ga HK2 H4 HBx b0 b1 b2 b3
                  have hk := HT.out.sum H5.out.ln.d
                  rw [← HZ2.out] at hk
                  have HKs := Lib.hid hk
                  clear hk
                  go_wp2_with fail
                  refine HKs.out.mono ?_
                  rintro e w91 ⟨rfl, g91⟩
                  have H91 := Lib.hid (H5.out.grow HT.out.toStOkN g91)
                  have hk := HT.out.len H91.out.ln.d
                  obtain ⟨q, hq, hq1, hq2⟩ : ∃ q : Nat, (idsN L2).length = q ∧ q ≤ n ∧ (q : Int) ≤ (z + aa) := ⟨_, rfl, ids_le (HT.out.good H91.out.ln.d), by rw [HZ2.out]; exact ids_le_sum (HT.out.good H91.out.ln.d)⟩
                  rw [hq] at hk
                  have HKl := Lib.hid hk
                  have HQ := Lib.hid hq
                  have dq0 : decide ((q : Int) > (n : Int)) = false := decide_eq_false (by omega)
                  have dq1 : decide ((q : Int) > (z + aa)) = false := decide_eq_false (by omega)
                  clear hk g91 HKs hq
                  go_wp2_with fail
                  refine HKl.out.mono ?_
                  rintro e w92 ⟨rfl, g92⟩
                  have H92 := Lib.hid (H91.out.grow HT.out.toStOkN g92)
                  have hk := HT.out.len H92.out.ln.d
                  rw [HQ.out] at hk
                  have HKm := Lib.hid hk
                  clear hk g92 HKl H91
                  go_wp2_with fail
                  refine HKm.out.mono ?_
                  rintro e w93 ⟨rfl, g93⟩
                  have H93 := Lib.hid (H92.out.grow HT.out.toStOkN g93)
                  clear g93 HKm H92
                  go_wp2_with fail
                  go_roundw
                  case rel => exact ⟨j + 1, L2, O4, (z + aa), by omega, by go_num, rfl, HZ2, Lib.hid H93.out.ln⟩
                  case measure => simp [intOf]; omega
                · have hgt : getN (L.set i ⟨x.re + aa, x.fr, x.sl⟩) ((i : Int) + 1) = some ⟨x.re + aa, x.fr, x.sl⟩ := by rw [← putL_set h1]; exact getN_self (Nat.le_of_lt h1) hz0
                  rw [← hi] at hgt
                  have HGS := Lib.hid hgt
                  obtain ⟨xr, xf, xs⟩ := x
                  simp only at *
                  have dpos : decide (xr + aa > 0) = true := decide_eq_true (by omega)
                  clear hk hs2 hm h1 h2 h3 h4 h5 h6 hi hgx hgt hlive hz0
                  generalize L.set i ⟨xr + aa, xf, xs⟩ = L2 at *
                  generalize xr + aa = X at *
                  go_wp2_with fail
                  refine HK.out.mono ?_
                  rintro e w4 ⟨rfl, h4⟩
                  obtain ⟨O4, h4⟩ := HR.out.left h4
                  have ga := World.grownBy_alloc w4 (.cells #[.int .i64 X, .int .i64 xf, .int .i64 xs] 36 (0, 0)) none
                  have H4 := Lib.hid (h4.grow HT.out.toStOkN ga)
                  have HBx := Lib.hid (AB.new w4 36 ⟨X, xf, xs⟩)
                  simp only at HBx
                  obtain ⟨b0, b1, b2, b3⟩ := H4.out.b.at
                  simp only at b0 b1 b2 b3
                  have hk := HT.out.get H4.out.ln.d ai HOk.out.id
                  rw [HGS.out] at hk
                  unfold getVN anAgg at hk
                  have HK2 := Lib.hid hk
                  clear hk h4 ga HK HR
                  go_wp2_with fail
                  refine HK2.out.mono ?_
                  rintro e w5 ⟨rfl, g5⟩
                  have ga := World.grownBy_alloc w5 (.cells #[.int .i64 X, .int .i64 xf, .int .i64 xs] 36 (0, 0)) none
                  have H5 := Lib.hid ((H4.out.grow HT.out.toStOkN g5).grow HT.out.toStOkN ga)
                  have x0 := ((HBx.out.grow g5).grow ga).at.1
                  simp only at x0
                  clear g5 ga HK2 H4 HBx b0 b1 b2 b3
                  have hk := HT.out.sum H5.out.ln.d
                  rw [← HZ2.out] at hk
                  have HKs := Lib.hid hk
                  clear hk
                  go_wp2_with fail
                  refine HKs.out.mono ?_
                  rintro e w91 ⟨rfl, g91⟩
                  have H91 := Lib.hid (H5.out.grow HT.out.toStOkN g91)
                  have hk := HT.out.len H91.out.ln.d
                  obtain ⟨q, hq, hq1, hq2⟩ : ∃ q : Nat, (idsN L2).length = q ∧ q ≤ n ∧ (q : Int) ≤ (z + aa) := ⟨_, rfl, ids_le (HT.out.good H91.out.ln.d), by rw [HZ2.out]; exact ids_le_sum (HT.out.good H91.out.ln.d)⟩
                  rw [hq] at hk
                  have HKl := Lib.hid hk
                  have HQ := Lib.hid hq
                  have dq0 : decide ((q : Int) > (n : Int)) = false := decide_eq_false (by omega)
                  have dq1 : decide ((q : Int) > (z + aa)) = false := decide_eq_false (by omega)
                  clear hk g91 HKs hq
                  go_wp2_with fail
                  refine HKl.out.mono ?_
                  rintro e w92 ⟨rfl, g92⟩
                  have H92 := Lib.hid (H91.out.grow HT.out.toStOkN g92)
                  have hk := HT.out.len H92.out.ln.d
                  rw [HQ.out] at hk
                  have HKm := Lib.hid hk
                  clear hk g92 HKl H91
                  go_wp2_with fail
                  refine HKm.out.mono ?_
                  rintro e w93 ⟨rfl, g93⟩
                  have H93 := Lib.hid (H92.out.grow HT.out.toStOkN g93)
                  clear g93 HKm H92
                  go_wp2_with fail
                  go_roundw
                  case rel => exact ⟨j + 1, L2, O4, (z + aa), by omega, by go_num, rfl, HZ2, Lib.hid H93.out.ln⟩
                  case measure => simp [intOf]; omega
              · rw [show refN L ai aa = ⟨zeroN, 2, L⟩ by unfold refN; rw [h4]; simp only; rw [if_neg hm]] at hk
                unfold ansN anAgg zeroN at hk
                have HK := Lib.hid hk
                clear hk hm h1 h2 h3 h4 h5 h6 hi hgx
                go_wp2_with fail
                refine HK.out.mono ?_
                rintro e w4 ⟨rfl, h4⟩
                obtain ⟨O4, h4⟩ := HR.out.left h4
                have H4 := Lib.hid (h4.grow HT.out.toStOkN (World.grownBy_alloc w4 (.cells #[.int .i64 0, .int .i64 0, .int .i64 0] 36 (0, 0)) none))
                clear h4 HK HR b0 b1 b2 b3
                have hk := HT.out.sum H4.out.ln.d
                rw [← HZ.out] at hk
                have HKs := Lib.hid hk
                clear hk
                go_wp2_with fail
                refine HKs.out.mono ?_
                rintro e w91 ⟨rfl, g91⟩
                have H91 := Lib.hid (H4.out.grow HT.out.toStOkN g91)
                have hk := HT.out.len H91.out.ln.d
                obtain ⟨q, hq, hq1, hq2⟩ : ∃ q : Nat, (idsN L).length = q ∧ q ≤ n ∧ (q : Int) ≤ z := ⟨_, rfl, ids_le (HT.out.good H91.out.ln.d), by rw [HZ.out]; exact ids_le_sum (HT.out.good H91.out.ln.d)⟩
                rw [hq] at hk
                have HKl := Lib.hid hk
                have HQ := Lib.hid hq
                have dq0 : decide ((q : Int) > (n : Int)) = false := decide_eq_false (by omega)
                have dq1 : decide ((q : Int) > z) = false := decide_eq_false (by omega)
                clear hk g91 HKs hq
                go_wp2_with fail
                refine HKl.out.mono ?_
                rintro e w92 ⟨rfl, g92⟩
                have H92 := Lib.hid (H91.out.grow HT.out.toStOkN g92)
                have hk := HT.out.len H92.out.ln.d
                rw [HQ.out] at hk
                have HKm := Lib.hid hk
                clear hk g92 HKl H91
                go_wp2_with fail
                refine HKm.out.mono ?_
                rintro e w93 ⟨rfl, g93⟩
                have H93 := Lib.hid (H92.out.grow HT.out.toStOkN g93)
                clear g93 HKm H92
                go_wp2_with fail
                go_roundw
                case rel => exact ⟨j + 1, L, O4, z, by omega, by go_num, rfl, HZ, Lib.hid H93.out.ln⟩
                case measure => simp [intOf]; omega
          · have n1 : (ak == 1) = false := by simpa using hk1
            have hk := HT.out.sum HR.out.ln.d
            rw [← HZ.out] at hk
            have HKs := Lib.hid hk
            clear hk
            go_wp2_with fail
            refine HKs.out.mono ?_
            rintro e w91 ⟨rfl, g91⟩
            have H91 := Lib.hid (HR.out.grow HT.out.toStOkN g91)
            have hk := HT.out.len H91.out.ln.d
            obtain ⟨q, hq, hq1, hq2⟩ : ∃ q : Nat, (idsN L).length = q ∧ q ≤ n ∧ (q : Int) ≤ z := ⟨_, rfl, ids_le (HT.out.good H91.out.ln.d), by rw [HZ.out]; exact ids_le_sum (HT.out.good H91.out.ln.d)⟩
            rw [hq] at hk
            have HKl := Lib.hid hk
            have HQ := Lib.hid hq
            have dq0 : decide ((q : Int) > (n : Int)) = false := decide_eq_false (by omega)
            have dq1 : decide ((q : Int) > z) = false := decide_eq_false (by omega)
            clear hk g91 HKs hq
            go_wp2_with fail
            refine HKl.out.mono ?_
            rintro e w92 ⟨rfl, g92⟩
            have H92 := Lib.hid (H91.out.grow HT.out.toStOkN g92)
            have hk := HT.out.len H92.out.ln.d
            rw [HQ.out] at hk
            have HKm := Lib.hid hk
            clear hk g92 HKl H91
            go_wp2_with fail
            refine HKm.out.mono ?_
            rintro e w93 ⟨rfl, g93⟩
            have H93 := Lib.hid (H92.out.grow HT.out.toStOkN g93)
            clear g93 HKm H92
            go_wp2_with fail
            go_roundw
            case rel => exact ⟨j + 1, L, O, z, by omega, by go_num, rfl, HZ, Lib.hid H93.out.ln⟩
            case measure => simp [intOf]; omega
      · obtain rfl : j = l := by omega
        go_wp2_with fail
        refine (HLv.out _).mono ?_
        rintro e w6 ⟨rfl, g6⟩
        have HG := Lib.hid (grown_trans HJ.out.grown g6)
        clear g6
        go_wp2_with fail
        go_ret
        exact ⟨rfl, HG.out⟩
  · have d60 : decide ((l : Int) > 150) = true := decide_eq_true (by omega)
    clear H hA hl60
    go_enter Try.func4, Try.ntmps4
    go_wp2_with fail
    refine HN.out.mono ?_
    rintro e w2 ⟨p, O, rfl, h2, g2, o2⟩
    have HG2 := Lib.hid g2
    clear h2 g2 o2 HN
    go_wp2_with fail
    refine (HLv.out _).mono ?_
    rintro e w6 ⟨rfl, g6⟩
    have HG := Lib.hid (grown_trans HG2.out g6)
    clear g6
    go_wp2_with fail
    go_ret
    exact ⟨rfl, HG.out⟩
end Go.Proofs.Ytpiemnffbcgbmaa
