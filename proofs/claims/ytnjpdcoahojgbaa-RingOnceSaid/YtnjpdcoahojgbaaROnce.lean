/- The law on acts, walked: it answers true, and nothing that was there has turned. -/
import Derived.Test.YtnjpdcoahojgbaaRActs
import Derived.Deep.RegionWith
import Derived.Deep.DeepCutAuto
import Derived.Deep.CutBlock
import Derived.OpenShut
namespace Go.Proofs.Ytnjpdcoahojgbaa.RInt
open Go.ChangeShapes Go.WideShapes Go.ChangeAt Go.RowKit Go.Deep
set_option linter.unusedVariables false

theorem once_long (w : World) (s : Option Addr) (l c : Nat) (hl : 150 < l) :
    Calls Try.prog 8 #[.slice s l c] w fun e w' => e = .returned (.bool true) ∧ Below w.heap.size w w' := by
  have hd : decide ((l : Int) > 150) = true := by simp; omega
  go_enter Try.func8, Try.ntmps8
  go_wp2_with fail
  refine (LiveR.start (w0 := w) 4 (by omega) (by omega)).mono ?_
  rintro e w1 ⟨b, rfl, h1⟩
  have H1 := Lib.hid h1
  clear h1
  go_wp2_with fail
  refine ((lives_ok _).mono ?_)
  rintro e w9 ⟨rfl, hb⟩
  have HB := Lib.hid hb
  clear hb
  go_wp2
  go_ret
  exact ⟨rfl, H1.out.below.trans (HB.out.mono H1.out.below.size)⟩

set_option maxRecDepth 100000 in
set_option maxHeartbeats 8000000 in
theorem once_walk (w : World) (s : Option Addr) (l c : Nat) (As : List ActV) (hA : ActsAre w s l As) :
    Calls Try.prog 8 #[.slice s l c] w fun e w' => e = .returned (.bool true) ∧ Below w.heap.size w w' := by
  by_cases hl : 150 < l
  · exact once_long w s l c hl
  · have HA := Lib.hid hA
    have hl3 : l ≤ 150 := by omega
    have hd : decide ((l : Int) > 150) = false := by simp; omega
    clear hA hl
    go_enter Try.func8, Try.ntmps8
    go_wp2_with fail
    refine (LiveR.start (w0 := w) 4 (by omega) (by omega)).mono ?_
    rintro e w1 ⟨b, rfl, h1⟩
    have H1 := Lib.hid (show LiveR w w1 b [[], [], [], []] [] from h1)
    have HO1 := Lib.hid (show Once [[], [], [], []] [] from ⟨rfl, by simp, by simp⟩)
    clear h1
    go_wp2_with fail
    go_loopg [29, 4] l (fun g i v wr => ∃ (j : Nat) (S : List (List Int)) (I : List Int), g = l - j ∧ j ≤ l ∧ i = .int .i64 j ∧ I.length ≤ j ∧ Hid (Once S I) ∧ Hid (Nums wr w.heap.size v I) ∧ Hid (LiveR w wr b S v.ownBlock.toList))
    case atStart => exact ⟨0, _, [], by omega, by omega, rfl, by simp, HO1, Nums.nil _ _, H1.out.less (by simp [Value.ownBlock])⟩
    case round =>
      obtain ⟨j, S, I, rfl, hj, rfl, hI, HO, HN, HL⟩ := hrel
      obtain ⟨a4, c4, rfl⟩ := HN.out.form
      by_cases hlt : j < l
      · obtain ⟨A, hAj⟩ : ∃ A, As[j]? = some A := ⟨_, List.getElem?_eq_getElem (by rw [HA.out.len]; exact hlt)⟩
        obtain ⟨g, o, rfl, hc⟩ : ∃ g o, s = some ⟨g, o, none⟩ ∧ ActAt wr g (o + j * 3) A := by
          rcases HA.out.cells with h0 | ⟨g, o, hs, hc⟩
          · omega
          · exact ⟨g, o, hs, (hc j A hAj).below (HL.out.below)⟩
        obtain ⟨c0, c1, c2, hk, hr, hx⟩ := hc
        have HK := Lib.hid hk
        have HR := Lib.hid hr
        have HX := Lib.hid hx
        clear hAj hk hr hx
        obtain ⟨ρ, hρ, eρ⟩ := rem_nat (wf_wrap .u64 A.r) 4 (by omega) (by omega)
        rw [show ((4 : Nat) : Int) = 4 from rfl] at eρ
        have hga : Kept (Value.slice a4 I.length c4).ownBlock.toList wr (wr.alloc (.cells #[.int .i64 A.k, .int .i64 A.r, .int .i64 A.x] 29)) := (Kept.refl _ _).alloc _
        have HLA := Lib.hid (show LiveR w (wr.alloc (.cells #[.int .i64 A.k, .int .i64 A.r, .int .i64 A.x] 29)) b S (wr.heap.size :: (Value.slice a4 I.length c4).ownBlock.toList) from HL.out.own hga fun g hg => by
          rcases List.mem_cons.1 hg with rfl | hg
          · exact .inr ⟨Nat.le_refl _, by simp⟩
          · exact .inl hg)
        have HNA := Lib.hid (show Nums (wr.alloc (.cells #[.int .i64 A.k, .int .i64 A.r, .int .i64 A.x] 29)) w.heap.size (.slice a4 I.length c4) I from World.ownsRow.alloc HN.out _)
        have HYA := Lib.hid (show ActBox (wr.alloc (.cells #[.int .i64 A.k, .int .i64 A.r, .int .i64 A.x] 29)) wr.heap.size A from heap_alloc_new wr _)
        clear hga
        go_upto_block 2 with fail
        rw [eρ]
        clear eρ c0 c1 c2
        generalize wr.alloc (.cells #[.int .i64 A.k, .int .i64 A.r, .int .i64 A.x] 29) = wA at *
        generalize wr.heap.size = Y at *
        obtain ⟨y0, y1, y2⟩ := HYA.out.cells
        go_cut [4] from 40 to 80 (fun v wx => ∃ (S' : List (List Int)) (I' : List Int), I'.length ≤ j + 1 ∧ Hid (Once S' I') ∧ Hid (Nums wx w.heap.size v I') ∧ Hid (LiveR w wx b S' v.ownBlock.toList))
        case first =>
          by_cases hk0 : A.k = 0
          · have e0 : (A.k == 0) = true := by simp [hk0]
            clear hk0
            go_wp2_with fail
            refine ((HLA.out.push (ρ : Int) HX.out).mono ?_)
            rintro e w2 ⟨rfl, h2, k2⟩
            have HO2 := Lib.hid (HO.out.put HLA.out.nodup (by omega) ρ hρ A.x)
            have H2 := Lib.hid h2
            have N2 := Lib.hid (HNA.out.kept (w' := w2) fun g hg => k2 g (by simp [hg]))
            have Y2 : ActBox w2 Y A := (k2 Y (by simp)).trans HYA.out
            obtain ⟨z0, z1, z2⟩ := Y2.cells
            clear h2 k2 y0 y1 y2 Y2
            go_wp2_with fail
            refine ((with_of _ _ _ _ I (by omega) N2.out.ints A.x).mono ?_)
            rintro e w3 ⟨v3, rfl, hn, hb⟩
            have N3 := Lib.hid (hn.lower H2.out.below.size)
            have H3 := Lib.hid (H2.out.own (R' := v3.ownBlock.toList) (Kept.of_below hb) fun g hg => .inr (hn.lt (by simpa using hg)))
            clear hn hb z0 z1 z2
            go_wp2
            go_meet
            case rel => exact ⟨_, _, by have := sieve_len A.x I; simp; omega, HO2, N3, H3⟩
          · have e0 : (A.k == 0) = false := by simp [hk0]
            clear hk0
            by_cases hk1 : A.k = 1
            · have e1 : (A.k == 1) = true := by simp [hk1]
              clear hk1
              go_wp2_with fail
              refine ((HLA.out.front (ρ : Int) HX.out).mono ?_)
              rintro e w2 ⟨rfl, h2, k2⟩
              have HO2 := Lib.hid (HO.out.putF HLA.out.nodup (by omega) ρ hρ A.x)
              have H2 := Lib.hid h2
              have N2 := Lib.hid (HNA.out.kept (w' := w2) fun g hg => k2 g (by simp [hg]))
              have Y2 : ActBox w2 Y A := (k2 Y (by simp)).trans HYA.out
              obtain ⟨z0, z1, z2⟩ := Y2.cells
              clear h2 k2 y0 y1 y2 Y2
              go_wp2_with fail
              refine ((with_of _ _ _ _ I (by omega) N2.out.ints A.x).mono ?_)
              rintro e w3 ⟨v3, rfl, hn, hb⟩
              have N3 := Lib.hid (hn.lower H2.out.below.size)
              have H3 := Lib.hid (H2.out.own (R' := v3.ownBlock.toList) (Kept.of_below hb) fun g hg => .inr (hn.lt (by simpa using hg)))
              clear hn hb z0 z1 z2
              go_wp2
              go_meet
              case rel => exact ⟨_, _, by have := sieve_len A.x I; simp; omega, HO2, N3, H3⟩
            · have e1 : (A.k == 1) = false := by simp [hk1]
              clear hk1
              by_cases hk3 : A.k = 3
              · have e3 : (A.k == 3) = true := by simp [hk3]
                clear hk3
                have HLD := Lib.hid (show LiveR w wA.drew b S (Y :: (Value.slice a4 I.length c4).ownBlock.toList) from HLA.out.own ((Kept.refl _ _).drew) fun g hg => .inl hg)
                have HND := Lib.hid (show Nums wA.drew w.heap.size (.slice a4 I.length c4) I from HNA.out.kept fun g hg => rfl)
                have HYD := Lib.hid (show ActBox wA.drew Y A from HYA.out)
                have hkd : wA.drew.cell? ⟨Y, 2, none⟩ = some (.int .i64 A.x) := HYD.out.cells.2.2
                have HO2 := Lib.hid (HO.out.out A.x)
                obtain ⟨dm, hdm⟩ : ∃ dm : Bool, dm = decide (A.x ∈ S.flatten) := ⟨_, rfl⟩
                have HDM := Lib.hid hdm
                have hcount : (!(dm == decide ((sieve A.x I).length < I.length))) = false := by
                  rw [hdm]
                  by_cases hm : A.x ∈ S.flatten
                  · have h1 := sieve_count HO.out.nodup ((HO.out.mem A.x).2 hm)
                    have h2 : (sieve A.x I).length < I.length := by omega
                    rw [decide_eq_true hm, decide_eq_true h2]
                    rfl
                  · have h1 := sieve_absent (I := I) (x := A.x) (fun h => hm ((HO.out.mem A.x).1 h))
                    have h2 : ¬ (sieve A.x I).length < I.length := by rw [h1]; omega
                    rw [decide_eq_false hm, decide_eq_false h2]
                    rfl
                clear hdm
                go_wp2_with fail
                go_region_held3 (fun w' => w'.cell? ⟨Y, 2, none⟩ = some (.int .i64 A.x)) (exact hkd)
                  (first | (go_at_call 19; refine ((HLD.out.remove HX.out).mono ?_); rw [← HDM.out]; rintro e w5 ⟨rfl, h5, k5⟩; have H5 := Lib.hid h5; have N5 := Lib.hid (HND.out.kept (w' := w5) fun g hg => k5 g (by simp [hg])); have Y5 := Lib.hid (show ActBox w5 Y A from (k5 Y (by simp)).trans HYD.out); have hkd := Y5.out.cells.2.2; clear h5 k5) | (go_at_call 34; refine ((without_of _ _ _ _ I (by omega) N5.out.ints A.x).mono ?_); rintro e w6 ⟨v6, rfl, hn, hb⟩; obtain ⟨a6, c6, rfl⟩ := hn.form; have H6 := Lib.hid (H5.out.past hb); have N6 := Lib.hid (N5.out.kept (w' := w6) fun g hg => hb.block g (N5.out.lt hg).2); have Y6 := Lib.hid (show ActBox w6 Y A from (hb.block Y (H5.out.lt (by simp))).trans Y5.out); have hkd := Y6.out.cells.2.2; clear hn hb))
                all_goals
                  go_wp2_with fail
                  refine ((without_of _ _ _ _ I (by omega) N6.out.ints A.x).mono ?_)
                  rintro e w7 ⟨v7, rfl, hn, hb⟩
                  have N7 := Lib.hid (hn.lower H6.out.below.size)
                  have H7 := Lib.hid (H6.out.own (R' := v7.ownBlock.toList) (Kept.of_below hb) fun g hg => .inr (hn.lt (by simpa using hg)))
                  clear hn hb
                  go_wp2
                  go_meet
                  case rel => exact ⟨_, _, by have := sieve_len A.x I; omega, HO2, N7, H7⟩
              · have e3 : (A.k == 3) = false := by simp [hk3]
                clear hk3
                go_wp2
                go_meet
                case rel => exact ⟨_, _, by omega, HO, HNA, HLA.out.less fun g hg => List.mem_cons_of_mem _ hg⟩
        case rest =>
          obtain ⟨S2, I2, hI2, HO2, HN2, HL2⟩ := hcut
          clear y0 y1 y2 HO HN HL HLA HNA HYA
          obtain ⟨a4, c4, rfl⟩ := HN2.out.form
          have HND := Lib.hid HL2.out.nodup
          have HROWS := Lib.hid HO2.out.rows
          have HCNT := Lib.hid (HO2.out.len HL2.out.nodup)
          go_wp2_with fail
          go_loopg [9, 8] 4 (fun g rv nv wx => ∃ (q n : Nat), g = 4 - q ∧ q ≤ 4 ∧ rv = .int .i64 q ∧ nv = .int .i64 n ∧ Hid (n = (S2.take q).flatten.length) ∧ n ≤ 151 ∧ Hid (Nums wx w.heap.size (.slice a4 I2.length c4) I2) ∧ Hid (LiveR w wx b S2 (Value.slice a4 I2.length c4).ownBlock.toList))
          case atStart => exact ⟨0, 0, by omega, by omega, rfl, rfl, rfl, by omega, HN2, HL2⟩
          case round =>
            obtain ⟨q, n, rfl, hq, rfl, rfl, hn, hn151, HNq, HLq⟩ := hrel
            by_cases hq4 : q < 4
            · obtain ⟨row, hrow⟩ : ∃ row, S2[q]? = some row := ⟨_, List.getElem?_eq_getElem (by rw [HROWS.out]; exact hq4)⟩
              have hrl : n + row.length ≤ 151 := by
                have h1 := count_step hrow
                have h2 := count_le (S := S2) (q + 1)
                have h3 := HCNT.out
                have h4 := hn.out
                omega
              have HROW := Lib.hid hrow
              have HEQ := Lib.hid (show cutM (-1) (rowS (q : Int) S2) = row by rw [rowS_of hrow]; rfl)
              clear hrow
              go_wp2_with fail
              refine ((HLq.out.list (q : Int) (-1)).mono ?_)
              rw [HEQ.out]
              rintro e w3 ⟨v87, rfl, hn87, hb⟩
              obtain ⟨a87, c87, rfl⟩ := hn87.form
              have HL3 := Lib.hid (HLq.out.past hb)
              have HN3 := Lib.hid (HNq.out.kept (w' := w3) fun g hg => hb.block g (HNq.out.lt hg).2)
              have I87 := Lib.hid hn87.ints
              clear hn87 hb
              go_wp2_with fail
              go_loopg [89, 8] row.length (fun g tv nv wx => ∃ t : Nat, g = row.length - t ∧ t ≤ row.length ∧ tv = .int .i64 t ∧ nv = .int .i64 (n + t : Nat) ∧ Hid (Below w3.heap.size w3 wx)) 
              case atStart => exact ⟨0, by omega, by omega, rfl, rfl, Below.refl _ _⟩
              case round =>
                obtain ⟨t, rfl, ht, rfl, rfl, HB⟩ := hrel
                by_cases htl : t < row.length
                · obtain ⟨i, hi⟩ : ∃ i, row[t]? = some i := ⟨_, List.getElem?_eq_getElem htl⟩
                  have him := List.mem_of_getElem? hi
                  have hiS : i ∈ S2.flatten := mem_flat_of HROW.out him
                  have HOK := Lib.hid (HL3.out.ok hiS)
                  have HW := Lib.hid (where_row HND.out HROW.out him)
                  have hcn := sieve_count HO2.out.nodup ((HO2.out.mem i).2 hiS)
                  have hne : (((sieve i I2).length : Int) == (I2.length : Int)) = false := by simp; omega
                  have hne2 : ((sieve i I2).length == I2.length) = false := by simp; omega
                  have HLx := Lib.hid (HL3.out.past HB.out)
                  have HNx := Lib.hid (HN3.out.kept (w' := _) fun g hg => HB.out.block g (HN3.out.lt hg).2)
                  obtain ⟨g8, o8, rfl, hc8⟩ : ∃ g8 o8, a87 = some ⟨g8, o8, none⟩ ∧ World.cell? _ ⟨g8, o8 + t, none⟩ = some (.int .i64 i) := by
                    rcases (I87.out.below HB.out).cells with h0 | ⟨g8, o8, hs, hc⟩
                    · omega
                    · exact ⟨g8, o8, hs, hc t i hi⟩
                  clear hi him hiS hcn
                  go_wp2_with fail
                  refine ((HLx.out.where HOK.out).mono ?_)
                  rw [HW.out]
                  rintro e w4 ⟨rfl, hb⟩
                  have HB4 := Lib.hid (HB.out.trans (hb.mono HB.out.size))
                  have HN4 := Lib.hid (HNx.out.kept (w' := w4) fun g hg => hb.block g (HNx.out.lt hg).2)
                  clear hb hc8
                  go_wp2_with fail
                  refine ((without_of _ _ _ _ I2 (by omega) HN4.out.ints i).mono ?_)
                  rintro e w5 ⟨v5, rfl, hn5, hb⟩
                  obtain ⟨a5, c5, rfl⟩ := hn5.form
                  have HB5 := Lib.hid (HB4.out.trans (hb.mono HB4.out.size))
                  clear hn5 hb
                  go_wp2
                  go_roundg (row.length - (t + 1))
                  case measure => omega
                  case rel => exact ⟨t + 1, by omega, by omega, by go_num, by go_num, HB5⟩
                · obtain rfl : t = row.length := by omega
                  have HLx := Lib.hid (HL3.out.past HB.out)
                  have HNx := Lib.hid (HN3.out.kept (w' := _) fun g hg => HB.out.block g (HN3.out.lt hg).2)
                  have HCN := Lib.hid (show n + row.length = (S2.take (q + 1)).flatten.length by rw [count_step HROW.out, hn.out])
                  clear ht htl
                  go_wp2
                  go_roundg (4 - (q + 1))
                  case measure => omega
                  case rel => exact ⟨q + 1, n + row.length, by omega, by omega, by go_num, rfl, HCN, by omega, HNx, HLx⟩
            · obtain rfl : q = 4 := by omega
              obtain rfl : n = I2.length := by
                have h1 : S2.take 4 = S2 := List.take_of_length_le (by rw [HROWS.out]; exact Nat.le_refl _)
                rw [hn.out, h1, HCNT.out]
              clear hq hq4
              go_wp2
              go_roundg (l - (j + 1))
              case measure => omega
              case rel => exact ⟨j + 1, S2, I2, by omega, by omega, by go_num, hI2, HO2, HNq, HLq⟩
      · obtain rfl : l = j := by omega
        clear hj hlt
        go_wp2_with fail
        refine ((lives_ok _).mono ?_)
        rintro e w9 ⟨rfl, hb⟩
        have HB := Lib.hid hb
        clear hb
        go_wp2
        go_ret
        exact ⟨rfl, HL.out.below.trans (HB.out.mono HL.out.below.size)⟩
end Go.Proofs.Ytnjpdcoahojgbaa.RInt
