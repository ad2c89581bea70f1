/- TlbLast, walked out of what package tlb says: it answers true, and nothing that was there has turned. -/
import Derived.Test.YtmddflhacamnaaaTLastA
import Derived.Test.YtmddflhacamnaaaTAsids
import Derived.BigQuiet
namespace Go.Proofs.Ytmddflhacamnaaa
open Go.ChangeShapes Go.WideShapes Go.ChangeAt Go.RowKit Go.Deep
set_option linter.unusedVariables false
set_option linter.unusedSimpArgs false

/-- The table between two actions. -/
structure LI (T : World → Nat → Int → List KeptV → List Nat → Prop) (w wx : World) (p : Nat) (sz : Int) (As : List TActV) (xs : List KeptV) (O : List Nat) (i : Nat) : Prop where
  tt : T wx p sz xs O
  og : ∀ b, b ∈ O → w.heap.size ≤ b
  grown : w.grownBy wx none
  li : LastI As xs i
section
variable {T : World → Nat → Int → List KeptV → List Nat → Prop} {w wx w2 : World} {p : Nat} {sz : Int} {As : List TActV} {xs zs : List KeptV} {O : List Nat} {i : Nat} {A : TActV}
theorem LI.grow (H : TlbOk T) (h : LI T w wx p sz As xs O i) (g : wx.grownBy w2 none) : LI T w w2 p sz As xs O i := ⟨H.grow h.tt g, h.og, grown_trans h.grown g, h.li⟩
theorem LI.left (H : TlbOk T) (h : LI T w wx p sz As xs O i) (hA : As[i]? = some A) (e : actL sz xs A = zs) (k : TLeft T wx w2 p sz O zs) : ∃ (zs' : List KeptV) (O' : List Nat), LI T w w2 p sz As zs' O' (i + 1) := by
  obtain ⟨O', h2, g2, o2⟩ := k
  refine ⟨zs, O', h2, fun b hb => ?_, ((Turn.grown h.grown).trans' g2).noGrown h.og, by rw [← e]; exact h.li.act hA⟩
  rcases o2 b hb with h3 | h3
  · exact h.og b h3
  · have := h.grown.size; omega
end

theorem eql_tkey (w : World) (a b c d : Int) : (binOp .eql 29 (.agg #[.int .i64 a, .int .i64 b]) (.agg #[.int .i64 c, .int .i64 d])).run Try.prog w = .ok (.bool (decide (a = c ∧ b = d))) w := by
  go_simp
  by_cases h1 : a = c <;> by_cases h2 : b = d <;> simp [h1, h2]
theorem eql_tkey' (w : World) {a b c d : Int} {r : Bool} (h : decide (a = c ∧ b = d) = r) : (binOp .eql 29 (.agg #[.int .i64 a, .int .i64 b]) (.agg #[.int .i64 c, .int .i64 d])).run Try.prog w = .ok (.bool r) w := by rw [eql_tkey, h]
theorem neq_pte (w : World) (a b : Int) : (binOp .neq 31 (.agg #[.int .i64 a, .int .i64 b]) (.agg #[.int .i64 a, .int .i64 b])).run Try.prog w = .ok (.bool false) w := by
  go_simp

set_option maxRecDepth 100000 in
set_option maxHeartbeats 16000000 in
theorem tlast_walk {T : World → Nat → Int → List KeptV → List Nat → Prop} (H : TlbOk T) (w : World) (size : Int) (hs : okU size) (s : Option Addr) (l c : Nat) (hlc : l ≤ c) (As : List TActV) (hA : TActsAre w s l As) :
    Calls Try.prog 4 #[.int .u64 size, .slice s l c] w fun e w' => e = .returned (.bool true) ∧ w.grownBy w' none := by
  obtain ⟨n, hn⟩ : ∃ n : Nat, size % 20 = (n : Int) := Int.eq_ofNat_of_zero_le (by omega)
  have hn30 : n < 20 := by omega
  have HLv := Lib.hid (lives5 H)
  have HN := Lib.hid (H.new w n (by omega) (by omega))
  have HT := Lib.hid H
  have HA := Lib.hid hA
  have hs0 := hs.1
  have hs1 := hs.2
  clear H hs hA
  have hq1 := eql_ptr_nil
  go_enter Try.func4, Try.ntmps4
  go_wp2_with fail
  refine HN.out.mono ?_
  rintro e w1 ⟨p, O, rfl, h1, g1, o1⟩
  have hne1 := fun (a : Addr) => neq_ptr_nil w1 a
  by_cases hl : 200 < l
  · have d0 : decide ((l : Int) > 200) = true := by simp; omega
    have HG := Lib.hid g1
    clear h1 g1 o1 hl
    go_wp2_with fail
    refine (HLv.out _).mono ?_
    rintro e w6 ⟨rfl, g6⟩
    have HG8 := Lib.hid (grown_trans HG.out g6)
    clear g6
    go_wp2_with fail
    go_ret
    exact ⟨rfl, HG8.out⟩
  · have d0 : decide ((l : Int) > 200) = false := by simp; omega
    have hl3 : l ≤ 200 := by omega
    have HI := Lib.hid (show LI T w w1 p n As [] O 0 from ⟨h1, o1, g1, LastI.nil As 0⟩)
    clear h1 g1 o1 hl HN
    go_wp2_with fail
    clear hq1 hne1 hs0 hs1 d0
    go_loopg [35] l (fun g i wr => ∃ (j : Nat) (xs : List KeptV) (O' : List Nat), g = l - j ∧ j ≤ l ∧ i = .int .i64 j ∧ Hid (LI T w wr p n As xs O' j))
    case atStart => exact ⟨0, [], O, by omega, by omega, rfl, HI⟩
    case round =>
      obtain ⟨j, xs, O', rfl, hj, rfl, HIr⟩ := hrel
      by_cases hlt : j < l
      · obtain ⟨A, hAj⟩ : ∃ A, As[j]? = some A := ⟨_, List.getElem?_eq_getElem (by rw [HA.out.len]; exact hlt)⟩
        obtain ⟨gb, o, rfl, c0, c1, c2, c3, c4⟩ := HA.out.at HIr.out.grown hAj
        have HX := Lib.hid (HA.out.ok A (List.mem_of_getElem? hAj))
        have HAj := Lib.hid hAj
        have ga := World.grownBy_alloc wr (.cells #[.int .i64 A.k, .int .i64 A.a, .int .i64 A.v, .int .i64 A.fl, .int .i64 A.pp] 33) none
        have HIA := Lib.hid (HIr.out.grow HT.out ga)
        have HB := Lib.hid (show TActB (wr.alloc (.cells #[.int .i64 A.k, .int .i64 A.a, .int .i64 A.v, .int .i64 A.fl, .int .i64 A.pp] 33)) wr.heap.size A from heap_alloc_new wr _)
        obtain ⟨b0, b1, b2, b3, b4⟩ := HB.out.at
        clear hAj ga
        go_upto_block 2 with fail
        clear c0 c1 c2 c3 c4 b0 b1 b2 b3 b4 HIr
        generalize (wr.alloc (.cells #[.int .i64 A.k, .int .i64 A.a, .int .i64 A.v, .int .i64 A.fl, .int .i64 A.pp] 33)) = wA at *
        generalize wr.heap.size = Y at *
        go_cut [6] from 42 to 66 (fun tp wx => tp = .pointer (some ⟨p, 0, none⟩) ∧ ∃ (xs' : List KeptV) (O2 : List Nat), Hid (LI T w wx p n As xs' O2 (j + 1)))
        case first =>
          obtain ⟨b0, b1, b2, b3, b4⟩ := HB.out.at
          have HACT := Lib.hid (fun zs w2 (e : actL n xs A = zs) (k : TLeft T wA w2 p n O' zs) => HIA.out.left HT.out HAj.out e k)
          by_cases hk0 : A.k = 0
          · have e0 : (A.k == 0) = true := by simp [hk0]
            have HE := Lib.hid (show actL n xs A = putL n xs A.y by unfold actL; rw [if_pos hk0])
            clear hk0
            go_wp2_with fail
            refine (HT.out.put HIA.out.tt A.y HX.out).mono ?_
            rintro e w5 ⟨rfl, h5⟩
            obtain ⟨zs, O5, h5⟩ := HACT.out _ _ HE.out h5
            have HI5 := Lib.hid h5
            clear h5
            go_wp2
            go_meet
            case rel => exact ⟨rfl, _, _, HI5⟩
          · have e0 : (A.k == 0) = false := by simp [hk0]
            by_cases hk1 : A.k = 1
            · have e1 : (A.k == 1) = true := by simp [hk1]
              have HE := Lib.hid (show actL n xs A = dropK (sameK A.a A.v) xs by unfold actL; rw [if_neg hk0, if_pos hk1])
              clear hk0 hk1
              go_wp2_with fail
              refine (HT.out.flush HIA.out.tt A.a A.v HX.out.1 HX.out.2).mono ?_
              rintro e w5 ⟨rfl, h5⟩
              obtain ⟨zs, O5, h5⟩ := HACT.out _ _ HE.out h5
              have HI5 := Lib.hid h5
              clear h5
              go_wp2
              go_meet
              case rel => exact ⟨rfl, _, _, HI5⟩
            · have e1 : (A.k == 1) = false := by simp [hk1]
              by_cases hk2 : A.k = 2
              · have e2 : (A.k == 2) = true := by simp [hk2]
                have HE := Lib.hid (show actL n xs A = dropK (fun x => x.a == A.a) xs by unfold actL; rw [if_neg hk0, if_neg hk1, if_pos hk2])
                clear hk0 hk1 hk2
                go_wp2_with fail
                refine (HT.out.flushAsid HIA.out.tt A.a HX.out.1).mono ?_
                rintro e w5 ⟨rfl, h5⟩
                obtain ⟨zs, O5, h5⟩ := HACT.out _ _ HE.out h5
                have HI5 := Lib.hid h5
                clear h5
                go_wp2
                go_meet
                case rel => exact ⟨rfl, _, _, HI5⟩
              · have e2 : (A.k == 2) = false := by simp [hk2]
                by_cases hk3 : A.k = 3
                · have e3 : (A.k == 3) = true := by simp [hk3]
                  have HE := Lib.hid (show actL n xs A = [] by unfold actL; rw [if_neg hk0, if_neg hk1, if_neg hk2, if_pos hk3])
                  clear hk0 hk1 hk2 hk3
                  go_wp2_with fail
                  refine (HT.out.flushAll HIA.out.tt).mono ?_
                  rintro e w5 ⟨rfl, h5⟩
                  obtain ⟨zs, O5, h5⟩ := HACT.out _ _ HE.out h5
                  have HI5 := Lib.hid h5
                  clear h5
                  go_wp2
                  go_meet
                  case rel => exact ⟨rfl, _, _, HI5⟩
                · have e3 : (A.k == 3) = false := by simp [hk3]
                  have HI5 := Lib.hid (show LI T w wA p n As xs O' (j + 1) from ⟨HIA.out.tt, HIA.out.og, HIA.out.grown, by
                    have := HIA.out.li.act (sz := n) HAj.out
                    unfold actL at this
                    rwa [if_neg hk0, if_neg hk1, if_neg hk2, if_neg hk3] at this⟩)
                  clear hk0 hk1 hk2 hk3
                  go_wp2
                  go_meet
                  case rel => exact ⟨rfl, _, _, HI5⟩
        case rest =>
          obtain ⟨rfl, xs2, O2, HI2⟩ := hcut
          clear HIA HB
          have hxl := (HT.out.size HI2.out.tt).1
          have d1 : decide ((xs2.length : Int) > (n : Int)) = false := by simp; omega
          have d2 : decide ((n : Int) < (xs2.length : Int)) = false := by simp; omega
          have d3 : decide (n < xs2.length) = false := by simp; omega
          go_wp2_with fail
          refine (HT.out.len HI2.out.tt).mono ?_
          rintro e w3 ⟨rfl, g3⟩
          have HI3 := Lib.hid (HI2.out.grow HT.out g3)
          clear g3
          go_wp2_with fail
          refine (HT.out.keys HI3.out.tt).mono ?_
          rintro e w4 ⟨v4, rfl, hrow, g4, _⟩
          obtain ⟨s4, c4, hv4⟩ := hrow.form
          subst hv4
          have HI4 := Lib.hid (HI3.out.grow HT.out g4)
          have HW4 := Lib.hid hrow
          clear hrow g4 d1 d2 d3
          go_wp2_with fail
          go_loopw [74] (fun i wx => ∃ q : Nat, q ≤ xs2.length ∧ i = .int .i64 q ∧ Hid (w4.grownBy wx none)) (fun i _ => xs2.length - (intOf i).toNat)
          case atStart => exact ⟨0, by omega, rfl, grown_refl _ _⟩
          case round =>
            obtain ⟨q, hq, rfl, HGq⟩ := hrel
            by_cases hqt : q < xs2.length
            · obtain ⟨y, hy⟩ : ∃ y, xs2[q]? = some y := ⟨_, List.getElem?_eq_getElem hqt⟩
              obtain ⟨g6, o6, c6, hs6, k0, k1⟩ := key_cells (HW4.out.grow HGq.out) hy
              injection hs6 with e1 e2 e3
              subst e1 e3
              obtain ⟨jj, C, hfv, hlast, hjj, hC, hCa, hCv⟩ := HI4.out.li.found (List.mem_of_getElem? hy)
              have hCok := HA.out.ok C (List.mem_of_getElem? hC)
              rw [hCa, hCv] at hCok
              obtain ⟨ya, yv, yf, yp⟩ := y
              simp only at k0 k1 hfv hlast hCok
              have HOK := Lib.hid hCok
              have HFV := Lib.hid hfv
              have HLA := Lib.hid hlast
              have HC := Lib.hid hC
              have ga := World.grownBy_alloc wr (.cells #[.int .i64 ya, .int .i64 yv] 29) none
              have HIk := Lib.hid ((HI4.out.grow HT.out HGq.out).grow HT.out ga)
              have HK := Lib.hid (TwoB.new wr 29 (.int .i64 ya) (.int .i64 yv))
              have HGk := Lib.hid (grown_trans HGq.out ga)
              obtain ⟨b0, b1⟩ := HK.out.at
              clear hy ga hfv hlast hC hCa hCv hCok
              go_wp2_with fail
              refine (HT.out.find HIk.out.tt ya yv HOK.out.1 HOK.out.2).mono ?_
              rw [HFV.out]
              rintro e w5 ⟨rfl, g5⟩
              have ga := World.grownBy_alloc w5 (.cells #[.int .i64 C.fl, .int .i64 C.pp] 31) none
              have HK6 := Lib.hid ((HK.out.grow g5).grow ga)
              have HE6 := Lib.hid (TwoB.new w5 31 (.int .i64 C.fl) (.int .i64 C.pp))
              have HI6 := Lib.hid ((HIk.out.grow HT.out g5).grow HT.out ga)
              have HG6 := Lib.hid (grown_trans (grown_trans HGk.out g5) ga)
              clear g5 ga k0 k1 b0 b1
              go_wp2_with fail
              generalize hwB : w5.alloc (.cells #[.int .i64 C.fl, .int .i64 C.pp] 31) = w6 at *
              clear hwB HGk HIk HK HGq
              generalize w5.heap.size = E6 at *
              generalize wr.heap.size = K6 at *
              go_loopw [13, 89] (fun la i wx => ∃ r : Nat, r ≤ j + 1 ∧ i = .int .i64 r ∧ la = .int .i64 (lastOf As ya yv r) ∧ Hid (w6.grownBy wx none)) (fun _ i _ => j + 1 - (intOf i).toNat)
              case atStart => exact ⟨0, by omega, rfl, rfl, grown_refl _ _⟩
              case round =>
                obtain ⟨r, hr, rfl, rfl, HGr⟩ := hrel
                by_cases hrt : r < j + 1
                · obtain ⟨B, hB⟩ : ∃ B, As[r]? = some B := ⟨_, List.getElem?_eq_getElem (by rw [HA.out.len]; omega)⟩
                  obtain ⟨gb', o', hgb, c0, c1, c2, c3, c4'⟩ := HA.out.at (grown_trans HI6.out.grown HGr.out) hB
                  injection hgb with hgb
                  injection hgb with e1 e2
                  subst e1 e2
                  have hst := lastOf_step (a := ya) (v := yv) hB
                  obtain ⟨L, hLL⟩ : ∃ L, lastOf As ya yv r = L := ⟨_, rfl⟩
                  rw [hLL] at hst
                  rw [hLL]
                  have ga := World.grownBy_alloc wr (.cells #[.int .i64 B.k, .int .i64 B.a, .int .i64 B.v, .int .i64 B.fl, .int .i64 B.pp] 33) none
                  obtain ⟨b0, b1, b2, b3, b4⟩ := (show TActB (wr.alloc (.cells #[.int .i64 B.k, .int .i64 B.a, .int .i64 B.v, .int .i64 B.fl, .int .i64 B.pp] 33)) wr.heap.size B from heap_alloc_new wr _).at
                  obtain ⟨x0, x1⟩ := ((HK6.out.grow HGr.out).grow ga).at
                  have HG3 := Lib.hid (grown_trans HGr.out ga)
                  clear hB hLL ga
                  by_cases k0 : B.k = 0
                  · have e0 : (B.k == 0) = true := by simp [k0]
                    have e1 : (B.k == 1) = false := by simp [k0]
                    have e2 : (B.k == 2) = false := by simp [k0]
                    have e3 : (B.k == 3) = false := by simp [k0]
                    by_cases kE : B.a = ya ∧ B.v = yv
                    · have hek := fun wx => eql_tkey' wx (show decide (B.a = ya ∧ B.v = yv) = true from decide_eq_true kE)
                      have HST := Lib.hid (hst.trans (ls_put k0 kE))
                      clear hst k0 kE
                      go_wp2_with fail
                      go_roundw
                      case rel => exact ⟨r + 1, by omega, by go_num, by rw [HST.out], HG3⟩
                      case measure => simp [intOf]; omega
                    · have hek := fun wx => eql_tkey' wx (show decide (B.a = ya ∧ B.v = yv) = false from decide_eq_false kE)
                      by_cases hL : 0 ≤ L
                      · have d0 : decide (L ≥ 0) = true := decide_eq_true hL
                        have d1 : decide (0 ≤ L) = true := decide_eq_true hL
                        have HST := Lib.hid (hst.trans (ls_stay (fun h => kE h.2) (by omega)))
                        clear hst k0 kE hL
                        go_wp2_with fail
                        go_roundw
                        case rel => exact ⟨r + 1, by omega, by go_num, by rw [HST.out], HG3⟩
                        case measure => simp [intOf]; omega
                      · have d0 : decide (L ≥ 0) = false := decide_eq_false hL
                        have d1 : decide (0 ≤ L) = false := decide_eq_false hL
                        have HST := Lib.hid (hst.trans (ls_stay (fun h => kE h.2) (by omega)))
                        clear hst k0 kE hL
                        go_wp2_with fail
                        go_roundw
                        case rel => exact ⟨r + 1, by omega, by go_num, by rw [HST.out], HG3⟩
                        case measure => simp [intOf]; omega
                  · have e0 : (B.k == 0) = false := by simp [k0]
                    by_cases hL : 0 ≤ L
                    · have d0 : decide (L ≥ 0) = true := decide_eq_true hL
                      have d1 : decide (0 ≤ L) = true := decide_eq_true hL
                      by_cases k1 : B.k = 1
                      · have e1 : (B.k == 1) = true := by simp [k1]
                        have e2 : (B.k == 2) = false := by simp [k1]
                        have e3 : (B.k == 3) = false := by simp [k1]
                        by_cases kE : B.a = ya ∧ B.v = yv
                        · have hek := fun wx => eql_tkey' wx (show decide (B.a = ya ∧ B.v = yv) = true from decide_eq_true kE)
                          have HST := Lib.hid (hst.trans (ls_gone hL (.inl ⟨k1, kE⟩)))
                          clear hst k0 k1 kE hL
                          go_wp2_with fail
                          go_roundw
                          case rel => exact ⟨r + 1, by omega, by go_num, by rw [HST.out], HG3⟩
                          case measure => simp [intOf]; omega
                        · have hek := fun wx => eql_tkey' wx (show decide (B.a = ya ∧ B.v = yv) = false from decide_eq_false kE)
                          have HST := Lib.hid (hst.trans (ls_stay (fun h => k0 h.1) (fun h => by rcases h with h | h | h; exact kE h.2; omega; omega)))
                          clear hst k0 k1 kE hL
                          go_wp2_with fail
                          go_roundw
                          case rel => exact ⟨r + 1, by omega, by go_num, by rw [HST.out], HG3⟩
                          case measure => simp [intOf]; omega
                      · have e1 : (B.k == 1) = false := by simp [k1]
                        by_cases k2 : B.k = 2
                        · have e2 : (B.k == 2) = true := by simp [k2]
                          have e3 : (B.k == 3) = false := by simp [k2]
                          by_cases kA : B.a = ya
                          · have ea : (B.a == ya) = true := by simp [kA]
                            have HST := Lib.hid (hst.trans (ls_gone hL (.inr (.inl ⟨k2, kA⟩))))
                            clear hst k0 k1 k2 kA hL
                            go_wp2_with fail
                            go_roundw
                            case rel => exact ⟨r + 1, by omega, by go_num, by rw [HST.out], HG3⟩
                            case measure => simp [intOf]; omega
                          · have ea : (B.a == ya) = false := by simp [kA]
                            have HST := Lib.hid (hst.trans (ls_stay (fun h => k0 h.1) (fun h => by rcases h with h | h | h; omega; exact kA h.2; omega)))
                            clear hst k0 k1 k2 kA hL
                            go_wp2_with fail
                            go_roundw
                            case rel => exact ⟨r + 1, by omega, by go_num, by rw [HST.out], HG3⟩
                            case measure => simp [intOf]; omega
                        · have e2 : (B.k == 2) = false := by simp [k2]
                          by_cases k3 : B.k = 3
                          · have e3 : (B.k == 3) = true := by simp [k3]
                            have HST := Lib.hid (hst.trans (ls_gone hL (.inr (.inr k3))))
                            clear hst k0 k1 k2 k3 hL
                            go_wp2_with fail
                            go_roundw
                            case rel => exact ⟨r + 1, by omega, by go_num, by rw [HST.out], HG3⟩
                            case measure => simp [intOf]; omega
                          · have e3 : (B.k == 3) = false := by simp [k3]
                            have HST := Lib.hid (hst.trans (ls_stay (fun h => k0 h.1) (by omega)))
                            clear hst k0 k1 k2 k3 hL
                            go_wp2_with fail
                            go_roundw
                            case rel => exact ⟨r + 1, by omega, by go_num, by rw [HST.out], HG3⟩
                            case measure => simp [intOf]; omega
                    · have d0 : decide (L ≥ 0) = false := decide_eq_false hL
                      have d1 : decide (0 ≤ L) = false := decide_eq_false hL
                      have HST := Lib.hid (hst.trans (ls_neg (fun h => k0 h.1) hL))
                      clear hst k0 hL
                      go_wp2_with fail
                      go_roundw
                      case rel => exact ⟨r + 1, by omega, by go_num, by rw [HST.out], HG3⟩
                      case measure => simp [intOf]; omega
                · obtain rfl : r = j + 1 := by omega
                  rw [HLA.out]
                  obtain ⟨gb', o', hgb, c0, c1, c2, c3, c4'⟩ := HA.out.at (grown_trans HI6.out.grown HGr.out) HC.out
                  injection hgb with hgb
                  injection hgb with e1 e2
                  subst e1 e2
                  obtain ⟨x0, x1⟩ := (HE6.out.grow HGr.out).at
                  have hne := fun wx => neq_pte wx C.fl C.pp
                  have hjl : jj < l := by omega
                  clear c0 c1 c2
                  go_wp2_with fail
                  go_quiet (fail)
                  go_wp2_with fail
                  go_roundw
                  case rel => exact ⟨q + 1, by omega, by go_num, Lib.hid (grown_trans (grown_trans HG6.out HGr.out) (grown_draws _ _ _))⟩
                  case measure => simp [intOf]; omega
            · obtain rfl : q = xs2.length := by omega
              have HI7 := Lib.hid (HI4.out.grow HT.out HGq.out)
              go_wp2_with fail
              go_roundg (l - (j + 1))
              case measure => omega
              case rel => exact ⟨j + 1, xs2, O2, by omega, by omega, by go_num, HI7⟩
      · obtain rfl : l = j := by omega
        clear hj hlt
        go_wp2_with fail
        refine (HLv.out _).mono ?_
        rintro e w6 ⟨rfl, g6⟩
        have HG8 := Lib.hid (grown_trans HIr.out.grown g6)
        clear g6
        go_wp2_with fail
        go_ret
        exact ⟨rfl, HG8.out⟩
end Go.Proofs.Ytmddflhacamnaaa
