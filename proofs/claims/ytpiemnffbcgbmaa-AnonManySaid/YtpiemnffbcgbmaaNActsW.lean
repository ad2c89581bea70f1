/- AnonActs, walked out of what package anon says, beside the document's own pool. -/
import Derived.Test.YtpiemnffbcgbmaaNCountsW
namespace Go.Proofs.Ytpiemnffbcgbmaa
open Go.ChangeShapes Go.WideShapes Go.ChangeAt Go.RowKit Go.Deep
set_option linter.unusedVariables false
set_option linter.unusedSimpArgs false

theorem eqlN_none (w : World) : (binOp .eql 23 (.pointer none) (.pointer none)).run Try.prog w = .ok (.bool true) w := by kernel_rfl
theorem eqlR_nil (w : World) (a : Addr) : (binOp .eql 25 (.pointer (some a)) (.pointer none)).run Try.prog w = .ok (.bool false) w := by go_simp
theorem eqlR_none (w : World) : (binOp .eql 25 (.pointer none) (.pointer none)).run Try.prog w = .ok (.bool true) w := by kernel_rfl
theorem neq_ref12 (w : World) (a b c d e f : Int) (t : Bool) (h : decide (¬ (a = d ∧ b = e ∧ c = f)) = t) : (binOp .neq 39 (.agg #[.int .i64 a, .int .i64 b, .int .i64 c]) (.agg #[.int .i64 d, .int .i64 e, .int .i64 f])).run Try.prog w = .ok (.bool t) w := by
  subst h
  go_simp
  by_cases h1 : a = d <;> by_cases h2 : b = e <;> by_cases h3 : c = f <;> simp [h1, h2, h3]
theorem eql_ref12 (w : World) (a b c d e f : Int) (t : Bool) (h : decide (a = d ∧ b = e ∧ c = f) = t) : (binOp .eql 39 (.agg #[.int .i64 a, .int .i64 b, .int .i64 c]) (.agg #[.int .i64 d, .int .i64 e, .int .i64 f])).run Try.prog w = .ok (.bool t) w := by
  subst h
  go_simp
  by_cases h1 : a = d <;> by_cases h2 : b = e <;> by_cases h3 : c = f <;> simp [h1, h2, h3]
theorem getVN_form (o : Option AnV) : ∃ a b c t, getVN o = .tuple #[.agg #[.int .i64 a, .int .i64 b, .int .i64 c], .bool t] := by
  cases o with
  | none => exact ⟨_, _, _, _, rfl⟩
  | some x => exact ⟨_, _, _, _, rfl⟩
section
variable {w : World} {q m : Nat} {L : List AnV} {O : List Nat}
theorem rs_make (h : RNS w q m L O) (f : Int) (hf : okI f) : Calls Try.prog 13 #[.pointer (some ⟨q, 0, none⟩), .int .i64 f] w fun e w' => e = .returned (.tuple #[.int .i64 (makeN m L f).n, .int .i64 (makeN m L f).e]) ∧ AL RNS w w' q m O (makeN m L f).L := by
  obtain ⟨v, h, rfl⟩ := h
  exact rn_make h f hf
theorem rs_ref (h : RNS w q m L O) (id b : Int) (hid : okI id) (hb : okI b) : Calls Try.prog 15 #[.pointer (some ⟨q, 0, none⟩), .int .i64 id, .int .i64 b] w fun e w' => e = .returned (ansN (refN L id b)) ∧ AL RNS w w' q m O (refN L id b).L := by
  obtain ⟨v, h, rfl⟩ := h
  exact rn_ref h id b hid hb
theorem rs_put (h : RNS w q m L O) (id f s : Int) (hid : okI id) (hf : okI f) (hs : okI s) : Calls Try.prog 17 #[.pointer (some ⟨q, 0, none⟩), .int .i64 id, .int .i64 f, .int .i64 s] w fun e w' => e = .returned (.int .i64 (putN L id f s).e) ∧ AL RNS w w' q m O (putN L id f s).L := by
  obtain ⟨v, h, rfl⟩ := h
  exact rn_put h id f s hid hf hs
theorem rs_get (h : RNS w q m L O) (id : Int) (hid : okI id) : Calls Try.prog 19 #[.pointer (some ⟨q, 0, none⟩), .int .i64 id] w fun e w' => e = .returned (getVN (getN L id)) ∧ w.grownBy w' none := by
  obtain ⟨v, h, rfl⟩ := h
  exact rn_get h id hid
theorem rs_ids (h : RNS w q m L O) : Calls Try.prog 22 #[.pointer (some ⟨q, 0, none⟩)] w fun e w' => ∃ u, e = .returned u ∧ RowOf zCells 1 w' u (idsN L) ∧ (∀ b, u.ownBlock = some b → w.heap.size ≤ b) ∧ w.grownBy w' none := by
  obtain ⟨v, h, rfl⟩ := h
  exact rn_ids h
theorem rs_sum (h : RNS w q m L O) : Calls Try.prog 24 #[.pointer (some ⟨q, 0, none⟩)] w fun e w' => e = .returned (.int .i64 (sumN L)) ∧ w.grownBy w' none := by
  obtain ⟨v, h, rfl⟩ := h
  exact rn_sum h
end

theorem box_turn {w w' : World} {y : Nat} {t : TypeId} {x : AnV} {O : List Nat} (h : AB w y t x) (g : Turn O w w') (ho : y ∉ O) : AB w' y t x := (g.block _ h.lt ho).trans h
/-- Both pools, and a round's box. -/
structure AX (D : World → Nat → Nat → List AnV → List Nat → Prop) (w wx : World) (p q m : Nat) (L M : List AnV) (O P : List Nat) (y : Nat) (A : NActV) : Prop where
  two : TwoN D RNS w wx p m L O q m M P
  b : NActB wx y A
  yn : y ∉ O
  yq : y ∉ P
section
variable {D : World → Nat → Nat → List AnV → List Nat → Prop} {w wx w2 : World} {p q m y : Nat} {L L' M M' : List AnV} {O P : List Nat} {A : NActV}
theorem AX.grow (H : StOkN D) (h : AX D w wx p q m L M O P y A) (g : wx.grownBy w2 none) : AX D w w2 p q m L M O P y A := ⟨h.two.grow H rnsOk g, h.b.grow g, h.yn, h.yq⟩
theorem AX.new (H : StOkN D) (h : TwoN D RNS w wx p m L O q m M P) (A : NActV) : AX D w (wx.alloc (.cells #[.int .i64 A.k, .int .i64 A.id, .int .i64 A.a, .int .i64 A.b] 29 (0, 0))) p q m L M O P wx.heap.size A :=
  ⟨h.grow H rnsOk (World.grownBy_alloc wx _ none), NActB.new wx A, fun hm => by have := H.lt h.one.d _ hm; omega, fun hm => by have := rnsOk.lt h.two.d _ hm; omega⟩
theorem AX.first (h : AX D w wx p q m L M O P y A) (t : AL D wx w2 p m O L') : ∃ O', AX D w w2 p q m L' M O' P y A := by
  obtain ⟨O', h2, t2, o2⟩ := h.two.first rnsOk t
  refine ⟨O', h2, h.b.turn t2 h.yn, fun hm => ?_, h.yq⟩
  rcases o2 y hm with h3 | h3
  · exact h.yn h3
  · have := h.b.lt; omega
theorem AX.second (H : StOkN D) (h : AX D w wx p q m L M O P y A) (t : AL RNS wx w2 q m P M') : ∃ P', AX D w w2 p q m L M' O P' y A ∧ Turn P wx w2 := by
  obtain ⟨P', h2, t2, o2⟩ := h.two.second H t
  refine ⟨P', ⟨h2, h.b.turn t2 h.yq, h.yn, fun hm => ?_⟩, t2⟩
  rcases o2 y hm with h3 | h3
  · exact h.yq h3
  · have := h.b.lt; omega
theorem AX.cells (h : AX D w wx p q m L M O P y A) : wx.cell? ⟨y, 1, none⟩ = some (.int .i64 A.id) ∧ wx.cell? ⟨y, 2, none⟩ = some (.int .i64 A.a) ∧ wx.cell? ⟨y, 3, none⟩ = some (.int .i64 A.b) := ⟨h.b.at.2.1, h.b.at.2.2.1, h.b.at.2.2.2⟩
end

set_option maxRecDepth 100000 in
set_option maxHeartbeats 16000000 in
theorem acts_walk12 {D : World → Nat → Nat → List AnV → List Nat → Prop} (H : NaOk D) (w : World) (n0 : Int) (sa : Option Addr) (l c : Nat) (As : List NActV) (hA : NActsAre w sa l As) (hn : okI n0) :
    Calls Try.prog 3 #[.int .i64 n0, .slice sa l c] w fun e w' => e = .returned (.bool true) ∧ w.grownBy w' none := by
  have HLv := Lib.hid (fun wx => lives12 H wx)
  have HT := Lib.hid H
  have q1 := eqlN_ptr_nil
  have q2 := eqlN_none
  have q3 := eqlR_nil
  have q4 := eqlR_none
  have HA := Lib.hid hA
  by_cases hs : 0 ≤ n0 ∧ n0 ≤ 4096
  · obtain ⟨n, rfl⟩ := Int.eq_ofNat_of_zero_le hs.1
    have hn4 : n ≤ 4096 := by omega
    have HN := Lib.hid (fun wx => H.new n wx hn4)
    have HR0 := Lib.hid (fun wx => rn_new n wx hn4)
    by_cases hl60 : l ≤ 150
    · have d60 : decide ((l : Int) > 150) = false := decide_eq_false (by omega)
      clear H hs hn hA
      go_enter Try.func3, Try.ntmps3
      go_wp2_with fail
      refine (HN.out _).mono ?_
      rintro e w2 ⟨p, O, rfl, h2, g2, o2⟩
      have H2 := Lib.hid (show LN D w w2 p n [] O from ⟨h2, o2, g2⟩)
      clear h2 g2 o2 HN
      go_wp2_with fail
      refine (HR0.out _).mono ?_
      rintro e w3 ⟨rfl, h3, g3⟩
      have HD := Lib.hid (TwoN.make HT.out.toStOkN rnsOk H2.out g3 (show RNS w3 w2.heap.size n [] (blkN w2.heap.size (.slice none 0 0)) from ⟨_, h3, rfl⟩) (fun b hb => by simp [blkN, Value.ownBlock] at hb; omega))
      clear h3 g3 HR0 H2
      generalize w2.heap.size = q at *
      generalize blkN q (.slice none 0 0) = P at *
      go_wp2_with fail
      clear q1 q2 q3 q4
      go_loopw [41] (fun iv wr => ∃ (j : Nat) (L : List AnV) (O P : List Nat), j ≤ l ∧ iv = .int .i64 j ∧ Hid (TwoN D RNS w wr p n L O q n L P)) (fun iv _ => l - (intOf iv).toNat)
      case atStart => exact ⟨0, [], O, P, by omega, rfl, HD⟩
      case round =>
        clear HD
        obtain ⟨j, L, O, P, hj, rfl, HJ⟩ := hrel
        by_cases hlt : j < l
        · obtain ⟨A, hAj⟩ : ∃ A, As[j]? = some A := ⟨_, List.getElem?_eq_getElem (by rw [HA.out.len]; exact hlt)⟩
          have hmem := List.mem_of_getElem? hAj
          have HOk := Lib.hid (HA.out.ok A hmem)
          obtain ⟨b, o, hs, a0, a1, a2, a3⟩ := HA.out.at HJ.out.one.grown hAj
          subst hs
          have HR := Lib.hid (AX.new HT.out.toStOkN HJ.out A)
          clear hAj hmem
          obtain ⟨ak, ai, aa, ab⟩ := A
          simp only at a0 a1 a2 a3 HR
          generalize hwB : wr.alloc (.cells #[.int .i64 ak, .int .i64 ai, .int .i64 aa, .int .i64 ab] 29 (0, 0)) = wB at *
          obtain ⟨b0, b1, b2, b3⟩ := HR.out.b.at
          simp only at b0 b1 b2 b3
          clear HJ
          generalize hY : wr.heap.size = Y at *
          go_upto_region 9 with fail
          clear a0 a1 a2 a3 hwB
          by_cases hk0 : ak = 0
          · subst hk0
            obtain ⟨X, hX⟩ : ∃ X, makeN n L aa = X := ⟨_, rfl⟩
            have hk := HT.out.make HR.out.two.one.d aa HOk.out.a
            rw [hX] at hk
            have HK := Lib.hid hk
            have HXe := Lib.hid hX
            clear hk hX
            go_wp2_with fail
            refine HK.out.mono ?_
            rintro e w4 ⟨rfl, h4⟩
            obtain ⟨O4, h4⟩ := HR.out.first h4
            have H4 := Lib.hid h4
            obtain ⟨z0, z1, z2, z3⟩ := H4.out.b.at
            simp only at z0 z1 z2 z3
            have hk := rs_make H4.out.two.two.d aa HOk.out.a
            rw [HXe.out] at hk
            have HK2 := Lib.hid hk
            clear hk h4 HK HR b0 b1 b2 b3
            go_wp2_with fail
            refine HK2.out.mono ?_
            rintro e w5 ⟨rfl, h5⟩
            obtain ⟨P5, h5, -⟩ := H4.out.second HT.out.toStOkN h5
            have H5 := Lib.hid h5
            obtain ⟨L5, hL5⟩ : ∃ L5, X.L = L5 := ⟨_, rfl⟩
            rw [hL5] at H5
            clear h5 HK2 H4 HXe z0 z1 z2 z3 hL5
            have hgx1 := H5.out.b.at
            obtain ⟨b0, b1, b2, b3⟩ := hgx1
            simp only at b0 b1 b2 b3
            obtain ⟨t0, t1, t2, tb, ht⟩ := getVN_form (getN L5 ai)
            have hk := HT.out.get H5.out.two.one.d ai HOk.out.id
            rw [ht] at hk
            have HK1 := Lib.hid hk
            have HTF := Lib.hid ht
            have hq5 := fun wx => neq_ref12 wx t0 t1 t2 t0 t1 t2 false (by simp)
            have hq6 : (tb != tb) = false := by simp
            clear hk ht
            go_wp2_with fail
            refine HK1.out.mono ?_
            rintro e w81 ⟨rfl, g81⟩
            have ga := World.grownBy_alloc w81 (.cells #[.int .i64 t0, .int .i64 t1, .int .i64 t2] 36 (0, 0)) none
            have H81 := Lib.hid ((H5.out.grow HT.out.toStOkN g81).grow HT.out.toStOkN ga)
            have hX := AB.new w81 36 ⟨t0, t1, t2⟩
            have HX := Lib.hid hX
            obtain ⟨b0, b1, b2, b3⟩ := H81.out.b.at
            simp only at b0 b1 b2 b3 HX
            have hk := rs_get H81.out.two.two.d ai HOk.out.id
            rw [HTF.out] at hk
            have HK2 := Lib.hid hk
            clear hk g81 ga hX HK1
            go_wp2_with fail
            refine HK2.out.mono ?_
            rintro e w82 ⟨rfl, g82⟩
            have ga := World.grownBy_alloc w82 (.cells #[.int .i64 t0, .int .i64 t1, .int .i64 t2] 39 (0, 0)) none
            have H82 := Lib.hid ((H81.out.grow HT.out.toStOkN g82).grow HT.out.toStOkN ga)
            have hX2 := (HX.out.grow g82).grow ga
            obtain ⟨x0, x1, x2⟩ := hX2.at
            have hY2 := AB.new w82 39 ⟨t0, t1, t2⟩
            obtain ⟨y0, y1, y2⟩ := hY2.at
            simp only at x0 x1 x2 y0 y1 y2
            have HI1 := Lib.hid (HT.out.ids H82.out.two.one.d)
            have hidl := Nat.le_trans (ids_le (HT.out.good H82.out.two.one.d)) (HT.out.good H82.out.two.one.d).most
            clear g82 ga hX2 hY2 HX HK2 H81 b0 b1 b2 b3
            go_wp2_with fail
            refine HI1.out.mono ?_
            rintro e w83 ⟨u3, rfl, r3, -, g83⟩
            obtain ⟨s3, c3, rfl⟩ := rowOf_form r3
            have H83 := Lib.hid (H82.out.grow HT.out.toStOkN g83)
            have HR3 := Lib.hid r3
            have HI2 := Lib.hid (rs_ids H83.out.two.two.d)
            clear g83 r3 HI1 H82 x0 x1 x2 y0 y1 y2
            go_wp2_with fail
            refine HI2.out.mono ?_
            rintro e w84 ⟨u4, rfl, r4, -, g84⟩
            obtain ⟨s4, c4, rfl⟩ := rowOf_form r4
            have H84 := Lib.hid (H83.out.grow HT.out.toStOkN g84)
            have HI := Lib.hid (ints_ok c3 c4 (rowOf_grow HR3.out g84) r4 (by omega) true (by simp))
            clear g84 r4 HI2 H83 HR3
            go_wp2_with fail
            refine HI.out.mono ?_
            rintro e w85 ⟨rfl, g85⟩
            have H85 := Lib.hid (H84.out.grow HT.out.toStOkN g85)
            have HS1 := Lib.hid (HT.out.sum H85.out.two.one.d)
            clear g85 HI H84
            go_wp2_with fail
            refine HS1.out.mono ?_
            rintro e w86 ⟨rfl, g86⟩
            have H86 := Lib.hid (H85.out.grow HT.out.toStOkN g86)
            have HS2 := Lib.hid (rs_sum H86.out.two.two.d)
            clear g86 HS1 H85
            go_wp2_with fail
            refine HS2.out.mono ?_
            rintro e w87 ⟨rfl, g87⟩
            have H87 := Lib.hid (H86.out.grow HT.out.toStOkN g87)
            have HS3 := Lib.hid (HT.out.len H87.out.two.one.d)
            clear g87 HS2 H86
            go_wp2_with fail
            refine HS3.out.mono ?_
            rintro e w88 ⟨rfl, g88⟩
            have H88 := Lib.hid (H87.out.grow HT.out.toStOkN g88)
            have HS4 := Lib.hid (rs_ids H88.out.two.two.d)
            clear g88 HS3 H87
            go_wp2_with fail
            refine HS4.out.mono ?_
            rintro e w89 ⟨u9, rfl, r9, -, g89⟩
            obtain ⟨s9, c9, rfl⟩ := rowOf_form r9
            have H89 := Lib.hid (H88.out.grow HT.out.toStOkN g89)
            clear g89 r9 HS4 H88
            go_wp2_with fail
            go_roundw
            case rel => exact ⟨j + 1, L5, _, _, by omega, by go_num, H89.out.two⟩
            case measure => simp [intOf]; omega
          · have n0 : (ak == 0) = false := by simpa using hk0
            by_cases hk1 : ak = 1
            · subst hk1
              obtain ⟨X, hX⟩ : ∃ X, refN L ai aa = X := ⟨_, rfl⟩
              have hk := HT.out.ref HR.out.two.one.d ai aa HOk.out.id HOk.out.a
              rw [hX] at hk
              unfold ansN anAgg at hk
              have HK := Lib.hid hk
              have HXe := Lib.hid hX
              obtain ⟨⟨xr, xf, xs⟩, xe, L5⟩ := X
              simp only at HK
              have hq4 := fun wx => eql_ref12 wx xr xf xs xr xf xs true (by simp)
              clear hk hX
              go_wp2_with fail
              refine HK.out.mono ?_
              rintro e w4 ⟨rfl, h4⟩
              obtain ⟨O4, h4⟩ := HR.out.first h4
              have ga := World.grownBy_alloc w4 (.cells #[.int .i64 xr, .int .i64 xf, .int .i64 xs] 36 (0, 0)) none
              have H4 := Lib.hid (h4.grow HT.out.toStOkN ga)
              have HX1 := Lib.hid (AB.new w4 36 ⟨xr, xf, xs⟩)
              simp only at HX1
              obtain ⟨z0, z1, z2, z3⟩ := H4.out.b.at
              simp only at z0 z1 z2 z3
              have hk := rs_ref H4.out.two.two.d ai aa HOk.out.id HOk.out.a
              rw [HXe.out] at hk
              unfold ansN anAgg at hk
              simp only at hk
              have HK2 := Lib.hid hk
              have HLt := Lib.hid (show w4.heap.size ∉ P from fun hm => by have h1 := rnsOk.lt (h4.two.two.d) _ hm; omega)
              clear hk h4 ga HK HR b0 b1 b2 b3
              go_wp2_with fail
              refine HK2.out.mono ?_
              rintro e w5 ⟨rfl, h5⟩
              obtain ⟨P5, h5, t5⟩ := H4.out.second HT.out.toStOkN h5
              have ga := World.grownBy_alloc w5 (.cells #[.int .i64 xr, .int .i64 xf, .int .i64 xs] 39 (0, 0)) none
              have H5 := Lib.hid (h5.grow HT.out.toStOkN ga)
              have hX5 := AB.grow (box_turn (x := ⟨xr, xf, xs⟩) HX1.out t5 HLt.out) ga
              obtain ⟨v0, v1, v2⟩ := hX5.at
              obtain ⟨u0, u1, u2⟩ := (AB.new w5 39 ⟨xr, xf, xs⟩).at
              simp only at v0 v1 v2 u0 u1 u2
              clear h5 t5 ga hX5 HX1 HK2 H4 HXe z0 z1 z2 z3 HLt
              go_upto_region 21 with fail
              clear v0 v1 v2 u0 u1 u2
              have hgx1 := H5.out.b.at
              obtain ⟨b0, b1, b2, b3⟩ := hgx1
              simp only at b0 b1 b2 b3
              obtain ⟨t0, t1, t2, tb, ht⟩ := getVN_form (getN L5 ai)
              have hk := HT.out.get H5.out.two.one.d ai HOk.out.id
              rw [ht] at hk
              have HK1 := Lib.hid hk
              have HTF := Lib.hid ht
              have hq5 := fun wx => neq_ref12 wx t0 t1 t2 t0 t1 t2 false (by simp)
              have hq6 : (tb != tb) = false := by simp
              clear hk ht
              go_wp2_with fail
              refine HK1.out.mono ?_
              rintro e w81 ⟨rfl, g81⟩
              have ga := World.grownBy_alloc w81 (.cells #[.int .i64 t0, .int .i64 t1, .int .i64 t2] 36 (0, 0)) none
              have H81 := Lib.hid ((H5.out.grow HT.out.toStOkN g81).grow HT.out.toStOkN ga)
              have hX := AB.new w81 36 ⟨t0, t1, t2⟩
              have HX := Lib.hid hX
              obtain ⟨b0, b1, b2, b3⟩ := H81.out.b.at
              simp only at b0 b1 b2 b3 HX
              have hk := rs_get H81.out.two.two.d ai HOk.out.id
              rw [HTF.out] at hk
              have HK2 := Lib.hid hk
              clear hk g81 ga hX HK1
              go_wp2_with fail
              refine HK2.out.mono ?_
              rintro e w82 ⟨rfl, g82⟩
              have ga := World.grownBy_alloc w82 (.cells #[.int .i64 t0, .int .i64 t1, .int .i64 t2] 39 (0, 0)) none
              have H82 := Lib.hid ((H81.out.grow HT.out.toStOkN g82).grow HT.out.toStOkN ga)
              have hX2 := (HX.out.grow g82).grow ga
              obtain ⟨x0, x1, x2⟩ := hX2.at
              have hY2 := AB.new w82 39 ⟨t0, t1, t2⟩
              obtain ⟨y0, y1, y2⟩ := hY2.at
              simp only at x0 x1 x2 y0 y1 y2
              have HI1 := Lib.hid (HT.out.ids H82.out.two.one.d)
              have hidl := Nat.le_trans (ids_le (HT.out.good H82.out.two.one.d)) (HT.out.good H82.out.two.one.d).most
              clear g82 ga hX2 hY2 HX HK2 H81 b0 b1 b2 b3
              go_wp2_with fail
              refine HI1.out.mono ?_
              rintro e w83 ⟨u3, rfl, r3, -, g83⟩
              obtain ⟨s3, c3, rfl⟩ := rowOf_form r3
              have H83 := Lib.hid (H82.out.grow HT.out.toStOkN g83)
              have HR3 := Lib.hid r3
              have HI2 := Lib.hid (rs_ids H83.out.two.two.d)
              clear g83 r3 HI1 H82 x0 x1 x2 y0 y1 y2
              go_wp2_with fail
              refine HI2.out.mono ?_
              rintro e w84 ⟨u4, rfl, r4, -, g84⟩
              obtain ⟨s4, c4, rfl⟩ := rowOf_form r4
              have H84 := Lib.hid (H83.out.grow HT.out.toStOkN g84)
              have HI := Lib.hid (ints_ok c3 c4 (rowOf_grow HR3.out g84) r4 (by omega) true (by simp))
              clear g84 r4 HI2 H83 HR3
              go_wp2_with fail
              refine HI.out.mono ?_
              rintro e w85 ⟨rfl, g85⟩
              have H85 := Lib.hid (H84.out.grow HT.out.toStOkN g85)
              have HS1 := Lib.hid (HT.out.sum H85.out.two.one.d)
              clear g85 HI H84
              go_wp2_with fail
              refine HS1.out.mono ?_
              rintro e w86 ⟨rfl, g86⟩
              have H86 := Lib.hid (H85.out.grow HT.out.toStOkN g86)
              have HS2 := Lib.hid (rs_sum H86.out.two.two.d)
              clear g86 HS1 H85
              go_wp2_with fail
              refine HS2.out.mono ?_
              rintro e w87 ⟨rfl, g87⟩
              have H87 := Lib.hid (H86.out.grow HT.out.toStOkN g87)
              have HS3 := Lib.hid (HT.out.len H87.out.two.one.d)
              clear g87 HS2 H86
              go_wp2_with fail
              refine HS3.out.mono ?_
              rintro e w88 ⟨rfl, g88⟩
              have H88 := Lib.hid (H87.out.grow HT.out.toStOkN g88)
              have HS4 := Lib.hid (rs_ids H88.out.two.two.d)
              clear g88 HS3 H87
              go_wp2_with fail
              refine HS4.out.mono ?_
              rintro e w89 ⟨u9, rfl, r9, -, g89⟩
              obtain ⟨s9, c9, rfl⟩ := rowOf_form r9
              have H89 := Lib.hid (H88.out.grow HT.out.toStOkN g89)
              clear g89 r9 HS4 H88
              go_wp2_with fail
              go_roundw
              case rel => exact ⟨j + 1, L5, _, _, by omega, by go_num, H89.out.two⟩
              case measure => simp [intOf]; omega
            · have n1 : (ak == 1) = false := by simpa using hk1
              by_cases hk2 : ak = 2
              · subst hk2
                obtain ⟨X, hX⟩ : ∃ X, putN L ai aa ab = X := ⟨_, rfl⟩
                have HXe := Lib.hid hX
                have HB := Lib.hid (HR.out.grow HT.out.toStOkN (grown_drew1 _))
                have hkd := HB.out.cells
                simp only at hkd
                clear hX HR
                go_wp2_with fail
                clear b0 b1 b2 b3
                go_region_held3 (fun W => W.cell? ⟨Y, 1, none⟩ = some (.int .i64 ai) ∧ W.cell? ⟨Y, 2, none⟩ = some (.int .i64 aa) ∧ W.cell? ⟨Y, 3, none⟩ = some (.int .i64 ab)) (exact hkd)
                  (first
                    | (go_at_call 16; with_reducible refine ((HT.out.put HB.out.two.one.d ai aa ab HOk.out.id HOk.out.a HOk.out.b).mono ?_); rw [HXe.out]; rintro e w5 ⟨rfl, h5⟩; obtain ⟨O5, h5⟩ := HB.out.first h5; have HH := Lib.hid h5; replace hkd := HH.out.cells; simp only at hkd; clear h5)
                    | (go_at_call 17; with_reducible refine ((rs_put HH.out.two.two.d ai aa ab HOk.out.id HOk.out.a HOk.out.b).mono ?_); rw [HXe.out]; rintro e w6 ⟨rfl, h6⟩; obtain ⟨P6, h6, -⟩ := HH.out.second HT.out.toStOkN h6; have H7 := Lib.hid h6; replace hkd := H7.out.cells; simp only at hkd; clear h6))
                obtain ⟨L7, hL7⟩ : ∃ L7, X.L = L7 := ⟨_, rfl⟩
                rw [hL7] at H7
                clear HXe hL7 HH HB hkd
                have hgx1 := H7.out.b.at
                obtain ⟨b0, b1, b2, b3⟩ := hgx1
                simp only at b0 b1 b2 b3
                obtain ⟨t0, t1, t2, tb, ht⟩ := getVN_form (getN L7 ai)
                have hk := HT.out.get H7.out.two.one.d ai HOk.out.id
                rw [ht] at hk
                have HK1 := Lib.hid hk
                have HTF := Lib.hid ht
                have hq5 := fun wx => neq_ref12 wx t0 t1 t2 t0 t1 t2 false (by simp)
                have hq6 : (tb != tb) = false := by simp
                clear hk ht
                go_wp2_with fail
                refine HK1.out.mono ?_
                rintro e w81 ⟨rfl, g81⟩
                have ga := World.grownBy_alloc w81 (.cells #[.int .i64 t0, .int .i64 t1, .int .i64 t2] 36 (0, 0)) none
                have H81 := Lib.hid ((H7.out.grow HT.out.toStOkN g81).grow HT.out.toStOkN ga)
                have hX := AB.new w81 36 ⟨t0, t1, t2⟩
                have HX := Lib.hid hX
                obtain ⟨b0, b1, b2, b3⟩ := H81.out.b.at
                simp only at b0 b1 b2 b3 HX
                have hk := rs_get H81.out.two.two.d ai HOk.out.id
                rw [HTF.out] at hk
                have HK2 := Lib.hid hk
                clear hk g81 ga hX HK1
                go_wp2_with fail
                refine HK2.out.mono ?_
                rintro e w82 ⟨rfl, g82⟩
                have ga := World.grownBy_alloc w82 (.cells #[.int .i64 t0, .int .i64 t1, .int .i64 t2] 39 (0, 0)) none
                have H82 := Lib.hid ((H81.out.grow HT.out.toStOkN g82).grow HT.out.toStOkN ga)
                have hX2 := (HX.out.grow g82).grow ga
                obtain ⟨x0, x1, x2⟩ := hX2.at
                have hY2 := AB.new w82 39 ⟨t0, t1, t2⟩
                obtain ⟨y0, y1, y2⟩ := hY2.at
                simp only at x0 x1 x2 y0 y1 y2
                have HI1 := Lib.hid (HT.out.ids H82.out.two.one.d)
                have hidl := Nat.le_trans (ids_le (HT.out.good H82.out.two.one.d)) (HT.out.good H82.out.two.one.d).most
                clear g82 ga hX2 hY2 HX HK2 H81 b0 b1 b2 b3
                go_wp2_with fail
                refine HI1.out.mono ?_
                rintro e w83 ⟨u3, rfl, r3, -, g83⟩
                obtain ⟨s3, c3, rfl⟩ := rowOf_form r3
                have H83 := Lib.hid (H82.out.grow HT.out.toStOkN g83)
                have HR3 := Lib.hid r3
                have HI2 := Lib.hid (rs_ids H83.out.two.two.d)
                clear g83 r3 HI1 H82 x0 x1 x2 y0 y1 y2
                go_wp2_with fail
                refine HI2.out.mono ?_
                rintro e w84 ⟨u4, rfl, r4, -, g84⟩
                obtain ⟨s4, c4, rfl⟩ := rowOf_form r4
                have H84 := Lib.hid (H83.out.grow HT.out.toStOkN g84)
                have HI := Lib.hid (ints_ok c3 c4 (rowOf_grow HR3.out g84) r4 (by omega) true (by simp))
                clear g84 r4 HI2 H83 HR3
                go_wp2_with fail
                refine HI.out.mono ?_
                rintro e w85 ⟨rfl, g85⟩
                have H85 := Lib.hid (H84.out.grow HT.out.toStOkN g85)
                have HS1 := Lib.hid (HT.out.sum H85.out.two.one.d)
                clear g85 HI H84
                go_wp2_with fail
                refine HS1.out.mono ?_
                rintro e w86 ⟨rfl, g86⟩
                have H86 := Lib.hid (H85.out.grow HT.out.toStOkN g86)
                have HS2 := Lib.hid (rs_sum H86.out.two.two.d)
                clear g86 HS1 H85
                go_wp2_with fail
                refine HS2.out.mono ?_
                rintro e w87 ⟨rfl, g87⟩
                have H87 := Lib.hid (H86.out.grow HT.out.toStOkN g87)
                have HS3 := Lib.hid (HT.out.len H87.out.two.one.d)
                clear g87 HS2 H86
                go_wp2_with fail
                refine HS3.out.mono ?_
                rintro e w88 ⟨rfl, g88⟩
                have H88 := Lib.hid (H87.out.grow HT.out.toStOkN g88)
                have HS4 := Lib.hid (rs_ids H88.out.two.two.d)
                clear g88 HS3 H87
                go_wp2_with fail
                refine HS4.out.mono ?_
                rintro e w89 ⟨u9, rfl, r9, -, g89⟩
                obtain ⟨s9, c9, rfl⟩ := rowOf_form r9
                have H89 := Lib.hid (H88.out.grow HT.out.toStOkN g89)
                clear g89 r9 HS4 H88
                go_wp2_with fail
                go_roundw
                case rel => exact ⟨j + 1, L7, _, _, by omega, by go_num, H89.out.two⟩
                case measure => simp [intOf]; omega
              · have n2 : (ak == 2) = false := by simpa using hk2
                have hgx1 := HR.out.b.at
                obtain ⟨b0, b1, b2, b3⟩ := hgx1
                simp only at b0 b1 b2 b3
                obtain ⟨t0, t1, t2, tb, ht⟩ := getVN_form (getN L ai)
                have hk := HT.out.get HR.out.two.one.d ai HOk.out.id
                rw [ht] at hk
                have HK1 := Lib.hid hk
                have HTF := Lib.hid ht
                have hq5 := fun wx => neq_ref12 wx t0 t1 t2 t0 t1 t2 false (by simp)
                have hq6 : (tb != tb) = false := by simp
                clear hk ht
                go_wp2_with fail
                refine HK1.out.mono ?_
                rintro e w81 ⟨rfl, g81⟩
                have ga := World.grownBy_alloc w81 (.cells #[.int .i64 t0, .int .i64 t1, .int .i64 t2] 36 (0, 0)) none
                have H81 := Lib.hid ((HR.out.grow HT.out.toStOkN g81).grow HT.out.toStOkN ga)
                have hX := AB.new w81 36 ⟨t0, t1, t2⟩
                have HX := Lib.hid hX
                obtain ⟨b0, b1, b2, b3⟩ := H81.out.b.at
                simp only at b0 b1 b2 b3 HX
                have hk := rs_get H81.out.two.two.d ai HOk.out.id
                rw [HTF.out] at hk
                have HK2 := Lib.hid hk
                clear hk g81 ga hX HK1
                go_wp2_with fail
                refine HK2.out.mono ?_
                rintro e w82 ⟨rfl, g82⟩
                have ga := World.grownBy_alloc w82 (.cells #[.int .i64 t0, .int .i64 t1, .int .i64 t2] 39 (0, 0)) none
                have H82 := Lib.hid ((H81.out.grow HT.out.toStOkN g82).grow HT.out.toStOkN ga)
                have hX2 := (HX.out.grow g82).grow ga
                obtain ⟨x0, x1, x2⟩ := hX2.at
                have hY2 := AB.new w82 39 ⟨t0, t1, t2⟩
                obtain ⟨y0, y1, y2⟩ := hY2.at
                simp only at x0 x1 x2 y0 y1 y2
                have HI1 := Lib.hid (HT.out.ids H82.out.two.one.d)
                have hidl := Nat.le_trans (ids_le (HT.out.good H82.out.two.one.d)) (HT.out.good H82.out.two.one.d).most
                clear g82 ga hX2 hY2 HX HK2 H81 b0 b1 b2 b3
                go_wp2_with fail
                refine HI1.out.mono ?_
                rintro e w83 ⟨u3, rfl, r3, -, g83⟩
                obtain ⟨s3, c3, rfl⟩ := rowOf_form r3
                have H83 := Lib.hid (H82.out.grow HT.out.toStOkN g83)
                have HR3 := Lib.hid r3
                have HI2 := Lib.hid (rs_ids H83.out.two.two.d)
                clear g83 r3 HI1 H82 x0 x1 x2 y0 y1 y2
                go_wp2_with fail
                refine HI2.out.mono ?_
                rintro e w84 ⟨u4, rfl, r4, -, g84⟩
                obtain ⟨s4, c4, rfl⟩ := rowOf_form r4
                have H84 := Lib.hid (H83.out.grow HT.out.toStOkN g84)
                have HI := Lib.hid (ints_ok c3 c4 (rowOf_grow HR3.out g84) r4 (by omega) true (by simp))
                clear g84 r4 HI2 H83 HR3
                go_wp2_with fail
                refine HI.out.mono ?_
                rintro e w85 ⟨rfl, g85⟩
                have H85 := Lib.hid (H84.out.grow HT.out.toStOkN g85)
                have HS1 := Lib.hid (HT.out.sum H85.out.two.one.d)
                clear g85 HI H84
                go_wp2_with fail
                refine HS1.out.mono ?_
                rintro e w86 ⟨rfl, g86⟩
                have H86 := Lib.hid (H85.out.grow HT.out.toStOkN g86)
                have HS2 := Lib.hid (rs_sum H86.out.two.two.d)
                clear g86 HS1 H85
                go_wp2_with fail
                refine HS2.out.mono ?_
                rintro e w87 ⟨rfl, g87⟩
                have H87 := Lib.hid (H86.out.grow HT.out.toStOkN g87)
                have HS3 := Lib.hid (HT.out.len H87.out.two.one.d)
                clear g87 HS2 H86
                go_wp2_with fail
                refine HS3.out.mono ?_
                rintro e w88 ⟨rfl, g88⟩
                have H88 := Lib.hid (H87.out.grow HT.out.toStOkN g88)
                have HS4 := Lib.hid (rs_ids H88.out.two.two.d)
                clear g88 HS3 H87
                go_wp2_with fail
                refine HS4.out.mono ?_
                rintro e w89 ⟨u9, rfl, r9, -, g89⟩
                obtain ⟨s9, c9, rfl⟩ := rowOf_form r9
                have H89 := Lib.hid (H88.out.grow HT.out.toStOkN g89)
                clear g89 r9 HS4 H88
                go_wp2_with fail
                go_roundw
                case rel => exact ⟨j + 1, L, _, _, by omega, by go_num, H89.out.two⟩
                case measure => simp [intOf]; omega
        · obtain rfl : j = l := by omega
          go_wp2_with fail
          refine (HLv.out _).mono ?_
          rintro e w6 ⟨rfl, g6⟩
          have HG := Lib.hid (grown_trans HJ.out.one.grown g6)
          clear g6
          go_wp2_with fail
          go_ret
          exact ⟨rfl, HG.out⟩
    · have d60 : decide ((l : Int) > 150) = true := decide_eq_true (by omega)
      clear H hs hn hA hl60
      go_enter Try.func3, Try.ntmps3
      go_wp2_with fail
      refine (HN.out _).mono ?_
      rintro e w2 ⟨p, O, rfl, h2, g2, o2⟩
      have HG2 := Lib.hid g2
      clear h2 g2 o2 HN
      go_wp2_with fail
      refine (HR0.out _).mono ?_
      rintro e w3 ⟨rfl, h3, g3⟩
      have HG3 := Lib.hid (grown_trans HG2.out g3)
      clear h3 g3 HR0
      go_wp2_with fail
      refine (HLv.out _).mono ?_
      rintro e w6 ⟨rfl, g6⟩
      have HG := Lib.hid (grown_trans HG3.out g6)
      clear g6
      go_wp2_with fail
      go_ret
      exact ⟨rfl, HG.out⟩
  · have HN := Lib.hid (fun wx => H.newNo n0 wx hs)
    have HR0 := Lib.hid (fun wx => rn_new_no n0 wx hs)
    clear H hs hn hA
    go_enter Try.func3, Try.ntmps3
    go_wp2_with fail
    refine (HN.out _).mono ?_
    rintro e w2 ⟨rfl, g2⟩
    have HG2 := Lib.hid g2
    clear g2
    go_wp2_with fail
    refine (HR0.out _).mono ?_
    rintro e w3 ⟨rfl, g3⟩
    have HG3 := Lib.hid (grown_trans HG2.out g3)
    clear g3
    go_wp2_with fail
    refine (HLv.out _).mono ?_
    rintro e w6 ⟨rfl, g6⟩
    have HG := Lib.hid (grown_trans HG3.out g6)
    clear g6
    go_wp2_with fail
    go_ret
    exact ⟨rfl, HG.out⟩
end Go.Proofs.Ytpiemnffbcgbmaa
