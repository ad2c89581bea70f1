/- The law on whatever is done to rows, beside the document's own rows, walked: it answers true, and nothing that was there has turned. -/
import Derived.Test.YtnjpdcoahojgbaaRRef6
import Derived.Test.YtnjpdcoahojgbaaRActs
import Derived.Deep.RegionHeld3
import Derived.Deep.CutBlock
import Derived.Deep.DeepCutAuto
namespace Go.Proofs.Ytnjpdcoahojgbaa.RInt
open Go.ChangeShapes Go.WideShapes Go.ChangeAt Go.RowKit Go.Deep
set_option linter.unusedVariables false
set_option linter.unusedSimpArgs false
set_option linter.unnecessarySimpa false

theorem push_len (r x : Int) (S : List (List Int)) : (pushS r x S).length = S.length := by
  unfold pushS
  split
  · rw [List.length_modify, rmv_length]
  · rfl
theorem front_len (r x : Int) (S : List (List Int)) : (frontS r x S).length = S.length := by
  unfold frontS
  split
  · rw [List.length_modify, rmv_length]
  · rfl
theorem turn_len (r : Int) (S : List (List Int)) : (turnS r S).length = S.length := by
  unfold turnS
  split
  · rw [List.length_modify]
  · rfl
theorem shift_len (r : Int) (S : List (List Int)) : (shiftS r S).length = S.length := by
  unfold shiftS
  split
  · rw [List.length_modify]
  · rfl

theorem rowS_le (r : Int) (S : List (List Int)) : (rowS r S).length ≤ S.flatten.length := by
  unfold rowS
  split
  · cases h : S[r.toNat]? with
    | none => simp
    | some l =>
      have h1 := count_step h
      have h2 := count_le (S := S) (r.toNat + 1)
      simp only [Option.getD_some]
      omega
  · simp

theorem cutM_le (m : Int) (xs : List Int) : (cutM m xs).length ≤ xs.length := by
  unfold cutM
  split
  · exact Nat.le_refl _
  · exact List.length_take_le' _ _

theorem firstV_form (l : List Int) : ∃ (n : Int) (b : Bool), firstV l = .tuple #[.int .i64 n, .bool b] := by
  cases l with
  | nil => exact ⟨0, false, rfl⟩
  | cons x t => exact ⟨x, true, rfl⟩

/-- What a call of the document's leaves beside the program's rows. -/
theorem both_ref {w W1 W2 : World} {b r T Y : Nat} {S S' S2 : List (List Int)} {vs vs' : List Value} {A : ActV} (hL : LiveR w W1 b S' (Y :: r :: T :: blocks vs)) (hY : ActBox W1 Y A) (hR : RefIs W1 w.heap.size r T S vs)
    (h2 : RefIs W2 w.heap.size r T S2 vs') (hk : Kept [T] W1 W2) (hb : ∀ g, g ∈ blocks vs' → g ∈ blocks vs ∨ W1.heap.size ≤ g) : LiveR w W2 b S' (Y :: r :: T :: blocks vs') ∧ ActBox W2 Y A := by
  have hYT : Y ≠ T := by
    rintro rfl
    unfold ActBox at hY
    rw [hR.tab] at hY
    simp only [Option.some.injEq, Obj.cells.injEq] at hY
    exact absurd hY.2.1 (by decide)
  refine ⟨hL.own (hk.mono fun g hg => by simp at hg; subst hg; simp) fun g hg => ?_, (hk.block Y (Array.getElem?_eq_some_iff.1 hY).1 (by simp only [List.mem_singleton]; exact hYT)).trans hY⟩
  simp only [List.mem_cons] at hg
  rcases hg with rfl | rfl | rfl | hg
  · exact .inl (by simp)
  · exact .inl (by simp)
  · exact .inl (by simp)
  · rcases hb g hg with q | q
    · exact .inl (by simp [q])
    · exact .inr ⟨q, (h2.blt hg).2⟩

set_option maxRecDepth 100000 in
theorem acts_none (w : World) (n : Int) (s : Option Addr) (l c : Nat) (most : Int) (hn : ¬ (1 ≤ n ∧ n ≤ 64)) :
    Calls Try.prog 3 #[.int .i64 n, .slice s l c, .int .i64 most] w fun e w' => e = .returned (.bool true) ∧ Below w.heap.size w w' := by
  have HN := Lib.hid hn
  clear hn
  go_enter Try.func3, Try.ntmps3
  go_wp2_with fail
  refine (new_no n _ HN.out).mono ?_
  rintro e w2 ⟨rfl, rfl⟩
  go_wp2_with fail
  refine (ref_new_no n _ HN.out).mono ?_
  rintro e w2 ⟨rfl, rfl⟩
  go_wp2_with fail
  refine ((lives_ok _).mono ?_)
  rintro e w9 ⟨rfl, hb⟩
  have HB := Lib.hid hb
  clear hb
  go_wp2
  go_ret
  exact ⟨rfl, HB.out⟩

set_option maxRecDepth 100000 in
theorem acts_long (w : World) (m : Nat) (h1 : 1 ≤ m) (h2 : m ≤ 64) (s : Option Addr) (l c : Nat) (most : Int) (hl : 150 < l) :
    Calls Try.prog 3 #[.int .i64 m, .slice s l c, .int .i64 most] w fun e w' => e = .returned (.bool true) ∧ Below w.heap.size w w' := by
  have hd : decide ((l : Int) > 150) = true := by simp; omega
  go_enter Try.func3, Try.ntmps3
  go_wp2_with fail
  refine (LiveR.start (w0 := w) m h1 h2).mono ?_
  rintro e w1 ⟨b, rfl, hL⟩
  have HB1 := Lib.hid hL.below
  clear hL
  go_wp2_with fail
  refine (ref_new m _ h1 h2).mono ?_
  rintro e w2 ⟨r, T, rfl, -, hb⟩
  have HB2 := Lib.hid (HB1.out.trans (hb.mono HB1.out.size))
  clear hb
  go_wp2_with fail
  refine ((lives_ok _).mono ?_)
  rintro e w9 ⟨rfl, hb⟩
  have HB := Lib.hid hb
  clear hb
  go_wp2
  go_ret
  exact ⟨rfl, HB2.out.trans (HB.out.mono HB2.out.size)⟩

set_option maxRecDepth 100000 in
set_option maxHeartbeats 16000000 in
theorem acts_walk (w : World) (n : Int) (hn : (Lit.int .i64 n).wf = true) (s : Option Addr) (l c : Nat) (As : List ActV) (hA : ActsAre w s l As) (most : Int) (hmost : (Lit.int .i64 most).wf = true) :
    Calls Try.prog 3 #[.int .i64 n, .slice s l c, .int .i64 most] w fun e w' => e = .returned (.bool true) ∧ Below w.heap.size w w' := by
  by_cases hv : 1 ≤ n ∧ n ≤ 64
  · obtain ⟨m, rfl⟩ := Int.eq_ofNat_of_zero_le (show 0 ≤ n by omega)
    have hm1 : 1 ≤ m := by omega
    have hm2 : m ≤ 64 := by omega
    clear hv
    by_cases hl : 150 < l
    · exact acts_long w m hm1 hm2 s l c most hl
    · have HA := Lib.hid hA
      have hl3 : l ≤ 150 := by omega
      have hd : decide ((l : Int) > 150) = false := by simp; omega
      clear hA hl hn hmost
      go_enter Try.func3, Try.ntmps3
      go_wp2_with fail
      refine (LiveR.start (w0 := w) m hm1 hm2).mono ?_
      rintro e w1 ⟨b, rfl, hL⟩
      have HL1 := Lib.hid hL
      clear hL
      go_wp2_with fail
      refine (ref_new m _ hm1 hm2).mono ?_
      rintro e w2 ⟨r, T, rfl, hR, hb⟩
      have HR2 := Lib.hid (show RefIs w2 w.heap.size r T (List.replicate m []) (List.replicate m (.slice none 0 0)) from hR.lower HL1.out.below.size)
      have HL2 := Lib.hid (show LiveR w w2 b (List.replicate m []) (r :: T :: blocks (List.replicate m (.slice none 0 0))) from HL1.out.own (Kept.of_below hb) fun g hg => by
        simp only [List.mem_cons] at hg
        rcases hg with rfl | rfl | hg
        · exact .inr ⟨hR.rge, hR.rlt⟩
        · exact .inr ⟨hR.tge, hR.tlt⟩
        · exact .inr (hR.blt hg))
      have HM2 := Lib.hid (show (List.replicate m ([] : List Int)).length = m by simp)
      clear hR hb
      go_wp2_with fail
      go_loopg [44] l (fun g i wr => ∃ (j : Nat) (S : List (List Int)) (vs : List Value), g = l - j ∧ j ≤ l ∧ i = .int .i64 j ∧ Hid (S.length = m) ∧ Hid (LiveR w wr b S (r :: T :: blocks vs)) ∧ Hid (RefIs wr w.heap.size r T S vs))
      case atStart => exact ⟨0, _, _, by omega, by omega, rfl, HM2, HL2, HR2⟩
      case round =>
        obtain ⟨j, S, vs, rfl, hj, rfl, HM, HL, HR⟩ := hrel
        by_cases hlt : j < l
        · obtain ⟨A, hAj⟩ : ∃ A, As[j]? = some A := ⟨_, List.getElem?_eq_getElem (by rw [HA.out.len]; exact hlt)⟩
          obtain ⟨g, o, rfl, hc⟩ : ∃ g o, s = some ⟨g, o, none⟩ ∧ ActAt wr g (o + j * 3) A := by
            rcases HA.out.cells with h0 | ⟨g, o, hs, hc⟩
            · omega
            · exact ⟨g, o, hs, (hc j A hAj).below (HL.out.below)⟩
          obtain ⟨c0, c1, c2, hk, hr, hx⟩ := hc
          have HX := Lib.hid hx
          clear hAj hk hr hx
          have hga : Kept (r :: T :: blocks vs) wr (wr.alloc (.cells #[.int .i64 A.k, .int .i64 A.r, .int .i64 A.x] 29)) := (Kept.refl _ _).alloc _
          have hgb : Below wr.heap.size wr (wr.alloc (.cells #[.int .i64 A.k, .int .i64 A.r, .int .i64 A.x] 29)) := (Below.refl _ _).alloc (Nat.le_refl _) _
          have HLA := Lib.hid (show LiveR w (wr.alloc (.cells #[.int .i64 A.k, .int .i64 A.r, .int .i64 A.x] 29)) b S (wr.heap.size :: r :: T :: blocks vs) from HL.out.own hga fun g hg => by
            rcases List.mem_cons.1 hg with rfl | hg
            · exact .inr ⟨Nat.le_refl _, by simp⟩
            · exact .inl hg)
          have HRA := Lib.hid (HR.out.past hgb)
          have HYA := Lib.hid (show ActBox (wr.alloc (.cells #[.int .i64 A.k, .int .i64 A.r, .int .i64 A.x] 29)) wr.heap.size A from heap_alloc_new wr _)
          have HND0 := Lib.hid HL.out.nodup
          clear hga hgb
          go_upto_block 2 with fail
          clear c0 c1 c2
          generalize wr.alloc (.cells #[.int .i64 A.k, .int .i64 A.r, .int .i64 A.x] 29) = wA at *
          generalize wr.heap.size = Y at *
          go_cut [11, 12, 13, 14, 15] from 50 to 125 (fun ok _ _ _ _ wx => ok = .bool true ∧ ∃ (S' : List (List Int)) (vs' : List Value), Hid (S'.length = m) ∧ Hid (LiveR w wx b S' (Y :: r :: T :: blocks vs')) ∧ Hid (RefIs wx w.heap.size r T S' vs') ∧ Hid (ActBox wx Y A))
          case first =>
            by_cases hk0 : A.k = 0
            · have e0 : (A.k == 0) = true := by simp [hk0]
              clear hk0
              have HLD := Lib.hid (show LiveR w wA.drew b S (Y :: r :: T :: blocks vs) from HLA.out.own ((Kept.refl _ _).drew) fun g hg => .inl hg)
              have HRD := Lib.hid (show RefIs wA.drew w.heap.size r T S vs from HRA.out.same rfl rfl fun g hg => rfl)
              have HYD := Lib.hid (show ActBox wA.drew Y A from HYA.out)
              have hkd : wA.drew.cell? ⟨Y, 1, none⟩ = some (.int .i64 A.r) ∧ wA.drew.cell? ⟨Y, 2, none⟩ = some (.int .i64 A.x) := HYD.out.cells.2
              obtain ⟨dv, hdv⟩ : ∃ dv : Bool, decide (fits A.r A.x S) = dv := ⟨_, rfl⟩
              have HDV := Lib.hid hdv
              clear hdv
              go_wp2_with fail
              go_region_held3 (fun w' => w'.cell? ⟨Y, 1, none⟩ = some (.int .i64 A.r) ∧ w'.cell? ⟨Y, 2, none⟩ = some (.int .i64 A.x)) (exact hkd)
                (first | (go_at_call 13; refine ((HLD.out.push A.r HX.out).mono ?_); rw [HDV.out]; rintro e w5 ⟨rfl, h5, k5⟩; have H5 := Lib.hid h5; have R5 := Lib.hid (HRD.out.stay k5 fun g hg => List.mem_cons_of_mem _ hg); have Y5 := Lib.hid (show ActBox w5 Y A from (k5 Y (by simp)).trans HYD.out); have hkd := Y5.out.cells.2; clear h5 k5) | (go_at_call 14; refine ((ref_push R5.out HND0.out A.r A.x).mono ?_); rw [HDV.out]; rintro e w6 ⟨rfl, vs6, r6, kk6, b6⟩; obtain ⟨l6, y6⟩ := both_ref H5.out Y5.out R5.out r6 kk6 b6; have H6 := Lib.hid l6; have R6 := Lib.hid r6; have Y6 := Lib.hid y6; have hkd := Y6.out.cells.2; clear l6 y6 r6 kk6 b6))
              all_goals
                go_wp2
                go_meet
                case rel => exact ⟨rfl, _, _, by show _ = m; rw [push_len]; exact HM.out, H6, R6, Y6⟩
            · have e0 : (A.k == 0) = false := by simp [hk0]
              clear hk0
              by_cases hk1 : A.k = 1
              · have e1 : (A.k == 1) = true := by simp [hk1]
                clear hk1
                have HLD := Lib.hid (show LiveR w wA.drew b S (Y :: r :: T :: blocks vs) from HLA.out.own ((Kept.refl _ _).drew) fun g hg => .inl hg)
                have HRD := Lib.hid (show RefIs wA.drew w.heap.size r T S vs from HRA.out.same rfl rfl fun g hg => rfl)
                have HYD := Lib.hid (show ActBox wA.drew Y A from HYA.out)
                have hkd : wA.drew.cell? ⟨Y, 1, none⟩ = some (.int .i64 A.r) ∧ wA.drew.cell? ⟨Y, 2, none⟩ = some (.int .i64 A.x) := HYD.out.cells.2
                obtain ⟨dv, hdv⟩ : ∃ dv : Bool, decide (fits A.r A.x S) = dv := ⟨_, rfl⟩
                have HDV := Lib.hid hdv
                clear hdv
                go_wp2_with fail
                go_region_held3 (fun w' => w'.cell? ⟨Y, 1, none⟩ = some (.int .i64 A.r) ∧ w'.cell? ⟨Y, 2, none⟩ = some (.int .i64 A.x)) (exact hkd)
                  (first | (go_at_call 15; refine ((HLD.out.front A.r HX.out).mono ?_); rw [HDV.out]; rintro e w5 ⟨rfl, h5, k5⟩; have H5 := Lib.hid h5; have R5 := Lib.hid (HRD.out.stay k5 fun g hg => List.mem_cons_of_mem _ hg); have Y5 := Lib.hid (show ActBox w5 Y A from (k5 Y (by simp)).trans HYD.out); have hkd := Y5.out.cells.2; clear h5 k5) | (go_at_call 16; refine ((ref_front R5.out HND0.out A.r A.x).mono ?_); rw [HDV.out]; rintro e w6 ⟨rfl, vs6, r6, kk6, b6⟩; obtain ⟨l6, y6⟩ := both_ref H5.out Y5.out R5.out r6 kk6 b6; have H6 := Lib.hid l6; have R6 := Lib.hid r6; have Y6 := Lib.hid y6; have hkd := Y6.out.cells.2; clear l6 y6 r6 kk6 b6))
                all_goals
                  go_wp2
                  go_meet
                  case rel => exact ⟨rfl, _, _, by show _ = m; rw [front_len]; exact HM.out, H6, R6, Y6⟩
              · have e1 : (A.k == 1) = false := by simp [hk1]
                clear hk1
                by_cases hk2 : A.k = 2
                · have e2 : (A.k == 2) = true := by simp [hk2]
                  clear hk2
                  obtain ⟨fn, fb, hfv⟩ := firstV_form (rowS A.r S)
                  have HFV := Lib.hid hfv
                  clear hfv
                  obtain ⟨y0, y1, y2⟩ := HYA.out.cells
                  go_wp2_with fail
                  refine ((HLA.out.shift A.r).mono ?_)
                  rw [HFV.out]
                  rintro e w5 ⟨rfl, h5, k5⟩
                  have H5 := Lib.hid h5
                  have R5 := Lib.hid (HRA.out.stay k5 fun g hg => List.mem_cons_of_mem _ hg)
                  have Y5 := Lib.hid (show ActBox w5 Y A from (k5 Y (by simp)).trans HYA.out)
                  obtain ⟨z0, z1, z2⟩ := Y5.out.cells
                  clear h5 k5 y0 y1 y2
                  go_wp2_with fail
                  refine ((ref_shift R5.out HND0.out A.r).mono ?_)
                  rw [HFV.out]
                  rintro e w6 ⟨rfl, vs6, r6, kk6, b6⟩
                  obtain ⟨l6, y6⟩ := both_ref H5.out Y5.out R5.out r6 kk6 b6
                  have H6 := Lib.hid l6
                  have R6 := Lib.hid r6
                  have Y6 := Lib.hid y6
                  clear l6 y6 r6 kk6 b6 z0 z1 z2
                  go_wp2
                  go_meet
                  case rel => exact ⟨rfl, _, _, by show _ = m; rw [shift_len]; exact HM.out, H6, R6, Y6⟩
                · have e2 : (A.k == 2) = false := by simp [hk2]
                  clear hk2
                  by_cases hk3 : A.k = 3
                  · have e3 : (A.k == 3) = true := by simp [hk3]
                    clear hk3
                    have HLD := Lib.hid (show LiveR w wA.drew b S (Y :: r :: T :: blocks vs) from HLA.out.own ((Kept.refl _ _).drew) fun g hg => .inl hg)
                    have HRD := Lib.hid (show RefIs wA.drew w.heap.size r T S vs from HRA.out.same rfl rfl fun g hg => rfl)
                    have HYD := Lib.hid (show ActBox wA.drew Y A from HYA.out)
                    have hkd : wA.drew.cell? ⟨Y, 1, none⟩ = some (.int .i64 A.r) ∧ wA.drew.cell? ⟨Y, 2, none⟩ = some (.int .i64 A.x) := HYD.out.cells.2
                    obtain ⟨dv, hdv⟩ : ∃ dv : Bool, decide (A.x ∈ S.flatten) = dv := ⟨_, rfl⟩
                    have HDV := Lib.hid hdv
                    clear hdv
                    go_wp2_with fail
                    go_region_held3 (fun w' => w'.cell? ⟨Y, 1, none⟩ = some (.int .i64 A.r) ∧ w'.cell? ⟨Y, 2, none⟩ = some (.int .i64 A.x)) (exact hkd)
                      (first | (go_at_call 19; refine ((HLD.out.remove HX.out).mono ?_); rw [HDV.out]; rintro e w5 ⟨rfl, h5, k5⟩; have H5 := Lib.hid h5; have R5 := Lib.hid (HRD.out.stay k5 fun g hg => List.mem_cons_of_mem _ hg); have Y5 := Lib.hid (show ActBox w5 Y A from (k5 Y (by simp)).trans HYD.out); have hkd := Y5.out.cells.2; clear h5 k5) | (go_at_call 20; refine ((ref_remove R5.out HND0.out A.x).mono ?_); rw [HDV.out]; rintro e w6 ⟨rfl, vs6, r6, kk6, b6⟩; obtain ⟨l6, y6⟩ := both_ref H5.out Y5.out R5.out r6 kk6 b6; have H6 := Lib.hid l6; have R6 := Lib.hid r6; have Y6 := Lib.hid y6; have hkd := Y6.out.cells.2; clear l6 y6 r6 kk6 b6))
                    all_goals
                      go_wp2
                      go_meet
                      case rel => exact ⟨rfl, _, _, by show _ = m; rw [rmv_length]; exact HM.out, H6, R6, Y6⟩
                  · have e3 : (A.k == 3) = false := by simp [hk3]
                    clear hk3
                    by_cases hk4 : A.k = 4
                    · have e4 : (A.k == 4) = true := by simp [hk4]
                      clear hk4
                      have HLD := Lib.hid (show LiveR w wA.drew b S (Y :: r :: T :: blocks vs) from HLA.out.own ((Kept.refl _ _).drew) fun g hg => .inl hg)
                      have HRD := Lib.hid (show RefIs wA.drew w.heap.size r T S vs from HRA.out.same rfl rfl fun g hg => rfl)
                      have HYD := Lib.hid (show ActBox wA.drew Y A from HYA.out)
                      have hkd : wA.drew.cell? ⟨Y, 1, none⟩ = some (.int .i64 A.r) ∧ wA.drew.cell? ⟨Y, 2, none⟩ = some (.int .i64 A.x) := HYD.out.cells.2
                      obtain ⟨dv, hdv⟩ : ∃ dv : Bool, (!(rowS A.r S).isEmpty) = dv := ⟨_, rfl⟩
                      have HDV := Lib.hid hdv
                      clear hdv
                      go_wp2_with fail
                      go_region_held3 (fun w' => w'.cell? ⟨Y, 1, none⟩ = some (.int .i64 A.r) ∧ w'.cell? ⟨Y, 2, none⟩ = some (.int .i64 A.x)) (exact hkd)
                        (first | (go_at_call 21; refine ((HLD.out.turn A.r).mono ?_); rw [HDV.out]; rintro e w5 ⟨rfl, h5, k5⟩; have H5 := Lib.hid h5; have R5 := Lib.hid (HRD.out.stay k5 fun g hg => List.mem_cons_of_mem _ hg); have Y5 := Lib.hid (show ActBox w5 Y A from (k5 Y (by simp)).trans HYD.out); have hkd := Y5.out.cells.2; clear h5 k5) | (go_at_call 22; refine ((ref_turn R5.out HND0.out A.r).mono ?_); rw [HDV.out]; rintro e w6 ⟨rfl, vs6, r6, kk6, b6⟩; obtain ⟨l6, y6⟩ := both_ref H5.out Y5.out R5.out r6 kk6 b6; have H6 := Lib.hid l6; have R6 := Lib.hid r6; have Y6 := Lib.hid y6; have hkd := Y6.out.cells.2; clear l6 y6 r6 kk6 b6))
                      all_goals
                        go_wp2
                        go_meet
                        case rel => exact ⟨rfl, _, _, by show _ = m; rw [turn_len]; exact HM.out, H6, R6, Y6⟩
                    · have e4 : (A.k == 4) = false := by simp [hk4]
                      clear hk4
                      go_wp2
                      go_meet
                      case rel => exact ⟨rfl, _, _, HM, HLA, HRA, HYA⟩
          case rest =>
            obtain ⟨rfl, S2, vs2, HM3, HL3, HR3, HY3⟩ := hcut
            clear HM HL HR HLA HRA HYA HND0
            obtain ⟨wi, hwf, -⟩ := where_form A.x S2
            obtain ⟨dw, hdw⟩ : ∃ dw, decide (A.x ∈ S2.flatten) = dw := ⟨_, rfl⟩
            rw [hdw] at hwf
            have HWF := Lib.hid hwf
            obtain ⟨fn, fb, hff⟩ := firstV_form (rowS A.r S2)
            have HFF := Lib.hid hff
            obtain ⟨row, hrow⟩ : ∃ row, rowS A.r S2 = row := ⟨_, rfl⟩
            have hrl : row.length ≤ 4096 := by
              have h1 := rowS_le A.r S2
              have h2 := HL3.out.max
              rw [hrow] at h1
              omega
            have HROW := Lib.hid hrow
            clear hwf hdw hff hrow
            obtain ⟨y0, y1, y2⟩ := HY3.out.cells
            go_wp2_with fail
            refine ((HL3.out.where HX.out).mono ?_)
            rw [HWF.out]
            rintro e w4 ⟨rfl, hb⟩
            have HL4 := Lib.hid (HL3.out.past hb)
            have HR4 := Lib.hid (HR3.out.past hb)
            have HY4 := Lib.hid (show ActBox w4 Y A from (hb.block Y (HL3.out.lt (by simp))).trans HY3.out)
            obtain ⟨z0, z1, z2⟩ := HY4.out.cells
            clear hb y0 y1 y2
            go_wp2_with fail
            refine ((ref_where HR4.out A.x).mono ?_)
            rw [HWF.out]
            rintro e w5 ⟨rfl, rfl⟩
            go_wp2_with fail
            refine ((HL4.out.first A.r).mono ?_)
            rw [HFF.out]
            rintro e w5 ⟨rfl, rfl⟩
            go_wp2_with fail
            refine ((ref_first HR4.out A.r).mono ?_)
            rw [HFF.out]
            rintro e w5 ⟨rfl, rfl⟩
            go_wp2_with fail
            refine ((ref_all HR4.out A.r).mono ?_)
            rw [HROW.out]
            rintro e w5 ⟨⟨v24, rfl, hn24, -⟩, rfl⟩
            by_cases hms : 0 ≤ most ∧ most < row.length
            · obtain ⟨μ, rfl⟩ := Int.eq_ofNat_of_zero_le hms.1
              have hμ : μ < row.length := by omega
              obtain ⟨g24, c24, rfl, hcap⟩ : ∃ g24 c24, v24 = .slice (some ⟨g24, 0, none⟩) row.length c24 ∧ row.length ≤ c24 := by
                rcases hn24.2 with ⟨_, h0⟩ | ⟨g24, c24, cur, e, _, _, h2, _⟩
                · omega
                · exact ⟨g24, c24, e, h2⟩
              have HI24 := Lib.hid (show Ints w4 (some ⟨g24, 0, none⟩) μ (cutM (μ : Int) row) by
                unfold cutM
                rw [if_neg (by omega), Int.toNat_natCast]
                refine ⟨by rw [List.length_take]; omega, .inr ⟨g24, 0, rfl, fun i y hi => ?_⟩⟩
                rcases hn24.ints.cells with h0 | ⟨g', o', e, hc⟩
                · omega
                · cases e
                  rw [List.getElem?_take] at hi
                  split at hi
                  · exact hc i y hi
                  · cases hi)
              have hcl : (cutM (μ : Int) row).length ≤ 4096 := by have := cutM_le (μ : Int) row; omega
              have hμc : μ ≤ c24 := by omega
              have d0 : decide ((μ : Int) ≥ 0) = true := by simp
              have d1 : decide ((μ : Int) < (row.length : Int)) = true := by simp; omega
              clear hn24 hms
              go_wp2_with fail
              have HL5 := Lib.hid (show LiveR w w4.drew b S2 (Y :: r :: T :: blocks vs2) from HL4.out.own ((Kept.refl _ _).drew) fun g hg => .inl hg)
              have HR5 := Lib.hid (show RefIs w4.drew w.heap.size r T S2 vs2 from HR4.out.same rfl rfl fun g hg => rfl)
              have HY5 := Lib.hid (show ActBox w4.drew Y A from HY4.out)
              have HD5 := Lib.hid (show Ints w4.drew _ _ _ from HI24.out.below ((Below.refl _ _).drew))
              have hkd : w4.drew.cell? ⟨Y, 1, none⟩ = some (.int .i64 A.r) := HY5.out.cells.2.1
              clear z0 z1 z2
              go_region_held3 (fun w' => w'.cell? ⟨Y, 1, none⟩ = some (.int .i64 A.r)) (exact hkd)
                (first | (go_at_call 28; refine ((HL5.out.len A.r).mono ?_); rw [HROW.out]; rintro e w6 ⟨rfl, rfl⟩) | (go_at_call 27; refine ((ref_all HR5.out A.r).mono ?_); rw [HROW.out]; rintro e w6 ⟨⟨v6, rfl, hn6, -⟩, rfl⟩; obtain ⟨a6, c6, rfl⟩ := hn6.form; clear hn6) | (go_at_call 30; refine ((HL5.out.list A.r _).mono ?_); rw [HROW.out]; rintro e w7 ⟨v7, rfl, hn7, hb7⟩; obtain ⟨a7, c7, rfl⟩ := hn7.form; have HI7 := Lib.hid hn7.ints; have HD7 := Lib.hid (HD5.out.below hb7); have HL7 := Lib.hid (HL5.out.past hb7); have HR7 := Lib.hid (HR5.out.past hb7); have HY7 := Lib.hid (show ActBox w7 Y A from (hb7.block Y (HL5.out.lt (by simp))).trans HY5.out); have hkd := HY7.out.cells.2.1; clear hn7 hb7) | (go_at_call 29; refine ((ints_of _ _ _ _ _ _ _ _ _ (by omega) (by omega) HI7.out HD7.out).mono ?_); rw [decide_eq_true rfl]; rintro e w8 ⟨rfl, hb8⟩; have HL8 := Lib.hid (HL7.out.past hb8); have HR8 := Lib.hid (HR7.out.past hb8); have HY8 := Lib.hid (show ActBox w8 Y A from (hb8.block Y (HL7.out.lt (by simp))).trans HY7.out); have hkd := HY8.out.cells.2.1; clear hb8))
              all_goals
                go_wp2
                go_roundg (l - (j + 1))
                case measure => omega
                case rel => exact ⟨j + 1, S2, vs2, by omega, by omega, by go_num, HM3, HL8.out.less fun g hg => List.mem_cons_of_mem _ hg, HR8⟩
            · obtain ⟨a24, c24, rfl⟩ := hn24.form
              have hcm : cutM most row = row := by
                unfold cutM
                split
                · rfl
                · exact List.take_of_length_le (by omega)
              have HI24 := Lib.hid (show Ints w4 a24 row.length (cutM most row) by rw [hcm]; exact hn24.ints)
              have hcl : (cutM most row).length ≤ 4096 := by rw [hcm]; exact hrl
              clear hn24 hcm
              by_cases h0 : 0 ≤ most
              · have d0 : decide (most ≥ 0) = true := by simpa using h0
                have d1 : decide (most < (row.length : Int)) = false := by simp; omega
                clear hms h0
                go_wp2_with fail
                have HL5 := Lib.hid (show LiveR w w4.drew b S2 (Y :: r :: T :: blocks vs2) from HL4.out.own ((Kept.refl _ _).drew) fun g hg => .inl hg)
                have HR5 := Lib.hid (show RefIs w4.drew w.heap.size r T S2 vs2 from HR4.out.same rfl rfl fun g hg => rfl)
                have HY5 := Lib.hid (show ActBox w4.drew Y A from HY4.out)
                have HD5 := Lib.hid (show Ints w4.drew _ _ _ from HI24.out.below ((Below.refl _ _).drew))
                have hkd : w4.drew.cell? ⟨Y, 1, none⟩ = some (.int .i64 A.r) := HY5.out.cells.2.1
                clear z0 z1 z2
                go_region_held3 (fun w' => w'.cell? ⟨Y, 1, none⟩ = some (.int .i64 A.r)) (exact hkd)
                  (first | (go_at_call 28; refine ((HL5.out.len A.r).mono ?_); rw [HROW.out]; rintro e w6 ⟨rfl, rfl⟩) | (go_at_call 27; refine ((ref_all HR5.out A.r).mono ?_); rw [HROW.out]; rintro e w6 ⟨⟨v6, rfl, hn6, -⟩, rfl⟩; obtain ⟨a6, c6, rfl⟩ := hn6.form; clear hn6) | (go_at_call 30; refine ((HL5.out.list A.r _).mono ?_); rw [HROW.out]; rintro e w7 ⟨v7, rfl, hn7, hb7⟩; obtain ⟨a7, c7, rfl⟩ := hn7.form; have HI7 := Lib.hid hn7.ints; have HD7 := Lib.hid (HD5.out.below hb7); have HL7 := Lib.hid (HL5.out.past hb7); have HR7 := Lib.hid (HR5.out.past hb7); have HY7 := Lib.hid (show ActBox w7 Y A from (hb7.block Y (HL5.out.lt (by simp))).trans HY5.out); have hkd := HY7.out.cells.2.1; clear hn7 hb7) | (go_at_call 29; refine ((ints_of _ _ _ _ _ _ _ _ _ (by omega) (by omega) HI7.out HD7.out).mono ?_); rw [decide_eq_true rfl]; rintro e w8 ⟨rfl, hb8⟩; have HL8 := Lib.hid (HL7.out.past hb8); have HR8 := Lib.hid (HR7.out.past hb8); have HY8 := Lib.hid (show ActBox w8 Y A from (hb8.block Y (HL7.out.lt (by simp))).trans HY7.out); have hkd := HY8.out.cells.2.1; clear hb8))
                all_goals
                  go_wp2
                  go_roundg (l - (j + 1))
                  case measure => omega
                  case rel => exact ⟨j + 1, S2, vs2, by omega, by omega, by go_num, HM3, HL8.out.less fun g hg => List.mem_cons_of_mem _ hg, HR8⟩
              · have d0 : decide (most ≥ 0) = false := by simp; omega
                clear hms h0
                go_wp2_with fail
                have HL5 := Lib.hid (show LiveR w w4.drew b S2 (Y :: r :: T :: blocks vs2) from HL4.out.own ((Kept.refl _ _).drew) fun g hg => .inl hg)
                have HR5 := Lib.hid (show RefIs w4.drew w.heap.size r T S2 vs2 from HR4.out.same rfl rfl fun g hg => rfl)
                have HY5 := Lib.hid (show ActBox w4.drew Y A from HY4.out)
                have HD5 := Lib.hid (show Ints w4.drew _ _ _ from HI24.out.below ((Below.refl _ _).drew))
                have hkd : w4.drew.cell? ⟨Y, 1, none⟩ = some (.int .i64 A.r) := HY5.out.cells.2.1
                clear z0 z1 z2
                go_region_held3 (fun w' => w'.cell? ⟨Y, 1, none⟩ = some (.int .i64 A.r)) (exact hkd)
                  (first | (go_at_call 28; refine ((HL5.out.len A.r).mono ?_); rw [HROW.out]; rintro e w6 ⟨rfl, rfl⟩) | (go_at_call 27; refine ((ref_all HR5.out A.r).mono ?_); rw [HROW.out]; rintro e w6 ⟨⟨v6, rfl, hn6, -⟩, rfl⟩; obtain ⟨a6, c6, rfl⟩ := hn6.form; clear hn6) | (go_at_call 30; refine ((HL5.out.list A.r _).mono ?_); rw [HROW.out]; rintro e w7 ⟨v7, rfl, hn7, hb7⟩; obtain ⟨a7, c7, rfl⟩ := hn7.form; have HI7 := Lib.hid hn7.ints; have HD7 := Lib.hid (HD5.out.below hb7); have HL7 := Lib.hid (HL5.out.past hb7); have HR7 := Lib.hid (HR5.out.past hb7); have HY7 := Lib.hid (show ActBox w7 Y A from (hb7.block Y (HL5.out.lt (by simp))).trans HY5.out); have hkd := HY7.out.cells.2.1; clear hn7 hb7) | (go_at_call 29; refine ((ints_of _ _ _ _ _ _ _ _ _ (by omega) (by omega) HI7.out HD7.out).mono ?_); rw [decide_eq_true rfl]; rintro e w8 ⟨rfl, hb8⟩; have HL8 := Lib.hid (HL7.out.past hb8); have HR8 := Lib.hid (HR7.out.past hb8); have HY8 := Lib.hid (show ActBox w8 Y A from (hb8.block Y (HL7.out.lt (by simp))).trans HY7.out); have hkd := HY8.out.cells.2.1; clear hb8))
                all_goals
                  go_wp2
                  go_roundg (l - (j + 1))
                  case measure => omega
                  case rel => exact ⟨j + 1, S2, vs2, by omega, by omega, by go_num, HM3, HL8.out.less fun g hg => List.mem_cons_of_mem _ hg, HR8⟩
        · obtain rfl : l = j := by omega
          clear hj hlt
          go_wp2_with fail
          refine ((HL.out.rows).mono ?_)
          rw [HM.out]
          rintro e w8 ⟨rfl, rfl⟩
          go_wp2_with fail
          refine ((lives_ok _).mono ?_)
          rintro e w9 ⟨rfl, hb⟩
          have HB := Lib.hid hb
          clear hb
          go_wp2
          go_ret
          exact ⟨rfl, HL.out.below.trans (HB.out.mono HL.out.below.size)⟩
  · exact acts_none w n s l c most hv
end Go.Proofs.Ytnjpdcoahojgbaa.RInt
