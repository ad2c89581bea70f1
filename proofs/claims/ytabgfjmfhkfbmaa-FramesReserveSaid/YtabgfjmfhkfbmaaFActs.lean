/- FramesActs, walked out of what package frames says, beside the document's own pool. -/
import Derived.Test.YtabgfjmfhkfbmaaFOk
import Derived.Deep.CutBlock
import Derived.Deep.DeepCutAuto
namespace Go.Proofs.Ytabgfjmfhkfbmaa
open Go.ChangeShapes Go.WideShapes Go.ChangeAt Go.RowKit Go.Deep
set_option linter.unusedVariables false

structure FActsAre (w : World) (s : Option Addr) (l : Nat) (As : List FActV) : Prop where
  len : As.length = l
  cells : l = 0 ∨ ∃ g o, s = some ⟨g, o, none⟩ ∧ ∀ (i : Nat) A, As[i]? = some A → ∀ (j : Nat) u, (factCells A)[j]? = some u → w.cell? ⟨g, o + i * 5 + j, none⟩ = some u
  ok : ∀ A, A ∈ As → A.Ok
/-- One of them, by its cells, in a later world. -/
theorem FActsAre.at {w wr : World} {s : Option Addr} {l : Nat} {As : List FActV} (h : FActsAre w s l As) (g : w.grownBy wr none) {j : Nat} {A : FActV} (hA : As[j]? = some A) :
    ∃ b o, s = some ⟨b, o, none⟩ ∧ wr.cell? ⟨b, o + j * 5, none⟩ = some (.int .i64 A.k) ∧ wr.cell? ⟨b, o + j * 5 + 1, none⟩ = some (.int .i64 A.f) ∧ wr.cell? ⟨b, o + j * 5 + 2, none⟩ = some (.int .i64 A.a) ∧ wr.cell? ⟨b, o + j * 5 + 3, none⟩ = some (.int .i64 A.b) ∧ wr.cell? ⟨b, o + j * 5 + 4, none⟩ = some (.int .i64 A.c) := by
  have hj := (List.getElem?_eq_some_iff.1 hA).1
  rcases h.cells with h0 | ⟨b, o, hs, hc⟩
  · have := h.len; omega
  · have key : ∀ q u, (factCells A)[q]? = some u → wr.cell? ⟨b, o + j * 5 + q, none⟩ = some u := fun q u hq => by
      have h1 := hc j A hA q u hq
      exact (World.cell?_of_block (a := ⟨b, o + j * 5 + q, none⟩) (g.block b (World.block_lt_of_cell? w _ h1) (by simp))).trans h1
    exact ⟨b, o, hs, key 0 _ rfl, key 1 _ rfl, key 2 _ rfl, key 3 _ rfl, key 4 _ rfl⟩

/-- Both pools. -/
structure FI (P : World → Nat → Int → List FrV → List Nat → Prop) (w wx : World) (p r : Nat) (rs : Int) (xs ys : List FrV) (O : List Nat) (g c : Nat) : Prop where
  pp : P wx p rs xs O
  rp : RP wx r rs ys g c
  op : ∀ b, b ∈ O → w.heap.size ≤ b
  og : ∀ b, b ∈ [r, g] → w.heap.size ≤ b
  ap : ∀ b, b ∈ O → b ∉ [r, g]
  grown : w.grownBy wx none
section
variable {P : World → Nat → Int → List FrV → List Nat → Prop} {w wx w2 : World} {p r : Nat} {rs : Int} {xs ys zs : List FrV} {O : List Nat} {g c Y : Nat} {A : FActV}
theorem FI.grow (H : FrOk P) (h : FI P w wx p r rs xs ys O g c) (k : wx.grownBy w2 none) : FI P w w2 p r rs xs ys O g c := ⟨H.grow h.pp k, h.rp.grow k, h.op, h.og, h.ap, grown_trans h.grown k⟩
theorem FI.left (H : FrOk P) (h : FI P w wx p r rs xs ys O g c) (k : FLeft P wx w2 p rs O zs) : ∃ O', FI P w w2 p r rs zs ys O' g c ∧ Turn O wx w2 := by
  obtain ⟨O', h2, g2, o2⟩ := k
  refine ⟨O', ⟨h2, h.rp.turn g2 (fun b hb hm => h.ap b hm hb), fun b hb => ?_, h.og, fun b hb hm => ?_, ((Turn.grown h.grown).trans' g2).noGrown h.op⟩, g2⟩
  · rcases o2 b hb with h3 | h3
    · exact h.op b h3
    · have := h.grown.size; omega
  · rcases o2 b hb with h3 | h3
    · exact h.ap b h3 hm
    · have := h.rp.lt b hm; omega
theorem FI.right (H : FrOk P) (h : FI P w wx p r rs xs ys O g c) (k : RLeft wx w2 r g rs zs) : ∃ g' c', FI P w w2 p r rs xs zs O g' c' ∧ Turn [r] wx w2 := by
  obtain ⟨g', c', h2, t2, o2⟩ := k
  have hr : w.heap.size ≤ r := h.og r (by simp)
  have hg : w.heap.size ≤ g := h.og g (by simp)
  refine ⟨g', c', ⟨H.turn h.pp t2 (fun b hb hm => h.ap b hb (by rw [List.mem_singleton.1 hm]; simp)), h2, h.op, fun b hb => ?_, fun b hb hm => ?_, ((Turn.grown h.grown).trans' t2).noGrown (fun b hb => by rw [List.mem_singleton.1 hb]; exact hr)⟩, t2⟩
  · simp at hb
    rcases hb with rfl | rfl
    · exact hr
    · rcases o2 with rfl | o2
      · exact hg
      · have := h.grown.size; omega
  · simp at hm
    rcases hm with rfl | rfl
    · exact h.ap b hb (by simp)
    · rcases o2 with e | o2
      · exact h.ap b hb (by simp [e])
      · have := H.lt h.pp b hb; omega

/-- .. and the round's own box. -/
structure FR (P : World → Nat → Int → List FrV → List Nat → Prop) (w wx : World) (p r : Nat) (rs : Int) (xs ys : List FrV) (O : List Nat) (g c : Nat) (Y : Nat) (A : FActV) : Prop where
  i : FI P w wx p r rs xs ys O g c
  yb : FActB wx Y A
  yo : Y ∉ O
  yr : Y ∉ [r, g]
theorem FR.grow (H : FrOk P) (h : FR P w wx p r rs xs ys O g c Y A) (k : wx.grownBy w2 none) : FR P w w2 p r rs xs ys O g c Y A := ⟨h.i.grow H k, h.yb.grow k, h.yo, h.yr⟩
theorem FR.left (H : FrOk P) (h : FR P w wx p r rs xs ys O g c Y A) (k : FLeft P wx w2 p rs O zs) : ∃ O', FR P w w2 p r rs zs ys O' g c Y A := by
  have k2 := k
  obtain ⟨O2, h2, g2, o2⟩ := k2
  have hl := h.yb.lt
  obtain ⟨O2', hi, t2⟩ := h.i.left H ⟨O2, h2, g2, o2⟩
  have hr := hi.rp
  refine ⟨O2, ⟨h2, hr, fun b hb => ?_, h.i.og, fun b hb hm => ?_, hi.grown⟩, h.yb.turn g2 h.yo, fun hm => ?_, h.yr⟩
  · rcases o2 b hb with h3 | h3
    · exact h.i.op b h3
    · have := h.i.grown.size; omega
  · rcases o2 b hb with h3 | h3
    · exact h.i.ap b h3 hm
    · have := h.i.rp.lt b hm; omega
  · rcases o2 _ hm with h3 | h3
    · exact h.yo h3
    · omega
theorem FR.right (H : FrOk P) (h : FR P w wx p r rs xs ys O g c Y A) (k : RLeft wx w2 r g rs zs) : ∃ g' c', FR P w w2 p r rs xs zs O g' c' Y A := by
  obtain ⟨g', c', h2, t2, o2⟩ := k
  have hl := h.yb.lt
  have hn : Y ≠ r := fun e => h.yr (by rw [e]; simp)
  have hr : w.heap.size ≤ r := h.i.og r (by simp)
  have hg : w.heap.size ≤ g := h.i.og g (by simp)
  refine ⟨g', c', ⟨H.turn h.i.pp t2 (fun b hb hm => h.i.ap b hb (by rw [List.mem_singleton.1 hm]; simp)), h2, h.i.op, fun b hb => ?_, fun b hb hm => ?_, ((Turn.grown h.i.grown).trans' t2).noGrown (fun b hb => by rw [List.mem_singleton.1 hb]; exact hr)⟩, h.yb.turn t2 (by simpa using hn), h.yo, fun hm => ?_⟩
  · simp at hb
    rcases hb with rfl | rfl
    · exact hr
    · rcases o2 with rfl | o2
      · exact hg
      · have := h.i.grown.size; omega
  · simp at hm
    rcases hm with rfl | rfl
    · exact h.i.ap b hb (by simp)
    · rcases o2 with e | o2
      · exact h.i.ap b hb (by simp [e])
      · have := H.lt h.i.pp b hb; omega
  · simp at hm
    rcases hm with rfl | rfl
    · exact hn rfl
    · rcases o2 with e | o2
      · exact h.yr (by simp [e])
      · omega
theorem FR.new (H : FrOk P) (h : FI P w wx p r rs xs ys O g c) (A : FActV) : FR P w (wx.alloc (.cells #[.int .i64 A.k, .int .i64 A.f, .int .i64 A.a, .int .i64 A.b, .int .i64 A.c] 29 (0, 0))) p r rs xs ys O g c wx.heap.size A :=
  ⟨h.grow H (World.grownBy_alloc wx _ none), FActB.new wx A, fun hm => by have := H.lt h.pp _ hm; omega, fun hm => by have := h.rp.lt _ hm; omega⟩
theorem FI.start {w1 : World} {n : Nat} (H : FrOk P) (h1 : P w1 p rs (List.replicate n zeroF) O) (g1 : w.grownBy w1 none) (o1 : ∀ b, b ∈ O → w.heap.size ≤ b) (h2 : RP w2 r rs (List.replicate n zeroF) g c) (g2 : w1.grownBy w2 none) (o2 : ∀ b, b ∈ [r, g] → w1.heap.size ≤ b) : FI P w w2 p r rs (List.replicate n zeroF) (List.replicate n zeroF) O g c :=
  ⟨H.grow h1 g2, h2, o1, fun b hb => Nat.le_trans g1.size (o2 b hb), fun b hb hm => by have := H.lt h1 b hb; have := o2 b hm; omega, grown_trans g1 g2⟩
end

theorem eql_pool_none (w : World) : (binOp .eql 23 (.pointer none) (.pointer none)).run Try.prog w = .ok (.bool true) w := by kernel_rfl
theorem eql_ref_none (w : World) : (binOp .eql 25 (.pointer none) (.pointer none)).run Try.prog w = .ok (.bool true) w := by kernel_rfl
theorem eql_ref_some (w : World) (a : Addr) : (binOp .eql 25 (.pointer (some a)) (.pointer none)).run Try.prog w = .ok (.bool false) w := by
  have h1 : ∀ d : Nat, (Op.equalIn (d + 1) 25 (.pointer (some a)) (.pointer none)).run Try.prog w = .ok false w := fun d => by
    simp [Op.equalIn, run_underlying Try.underlying25]
  simp only [binOp]
  simp [Op.equal, Op.maxDepth, h1 9999]
theorem getV_form (o : Option FrV) : ∃ (x : FrV) (b : Bool), getV o = .tuple #[.agg #[.int .i64 x.cl, .int .i64 x.ow, .int .i64 x.ix, .int .i64 x.wi, .int .i64 x.lo], .bool b] := by
  cases o with
  | none => exact ⟨zeroF, false, rfl⟩
  | some x => exact ⟨x, true, rfl⟩

theorem neq_fr (w : World) (a b c d e : Int) : (binOp .neq 39 (.agg #[.int .i64 a, .int .i64 b, .int .i64 c, .int .i64 d, .int .i64 e]) (.agg #[.int .i64 a, .int .i64 b, .int .i64 c, .int .i64 d, .int .i64 e])).run Try.prog w = .ok (.bool false) w := by
  go_simp

set_option maxRecDepth 100000 in
set_option maxHeartbeats 4000000 in
theorem facts_walk {P : World → Nat → Int → List FrV → List Nat → Prop} (H : FrOk P) (w : World) (n rs : Int) (s : Option Addr) (l c : Nat) (As : List FActV) (hA : FActsAre w s l As) (hn : okI n) :
    Calls Try.prog 3 #[.int .i64 n, .int .i64 rs, .slice s l c] w fun e w' => e = .returned (.bool true) ∧ w.grownBy w' none := by
  have HLv := Lib.hid (lives6 H)
  have q1 := eql_pool_nil
  have q2 := eql_pool_none
  have q3 := eql_ref_none
  have q4 := eql_ref_some
  by_cases hs : 1 ≤ n ∧ n ≤ 256 ∧ 0 ≤ rs ∧ rs ≤ n
  · obtain ⟨k, rfl⟩ := Int.eq_ofNat_of_zero_le (show 0 ≤ n by omega)
    have hk1 : 1 ≤ k := by omega
    have hk2 : k ≤ 256 := by omega
    have HN := Lib.hid (H.new w k rs hk1 hk2 hs.2.2.1 hs.2.2.2)
    have HR := Lib.hid (fun wx => ref_new_ok k rs wx hk1 hk2 hs.2.2.1 hs.2.2.2)
    have HA := Lib.hid hA
    have HT := Lib.hid H
    clear H hs hA
    by_cases hl : 150 < l
    · have d0 : decide ((l : Int) > 150) = true := by simp; omega
      go_enter Try.func3, Try.ntmps3
      go_wp2_with fail
      refine HN.out.mono ?_
      rintro e w1 ⟨p, O, rfl, h1, g1, o1⟩
      have G1 := Lib.hid g1
      clear h1 g1 o1
      go_wp2_with fail
      refine (HR.out _).mono ?_
      rintro e w2 ⟨r, g, c', rfl, h2, g2, o2⟩
      have G2 := Lib.hid (grown_trans G1.out g2)
      clear h2 g2 o2
      go_wp2_with fail
      refine (HLv.out _).mono ?_
      rintro e w3 ⟨rfl, g3⟩
      have G3 := Lib.hid (grown_trans G2.out g3)
      clear g3
      go_wp2_with fail
      go_ret
      exact ⟨rfl, G3.out⟩
    · have d0 : decide ((l : Int) > 150) = false := by simp; omega
      have hl3 : l ≤ 150 := by omega
      clear hl
      go_enter Try.func3, Try.ntmps3
      go_wp2_with fail
      refine HN.out.mono ?_
      rintro e w1 ⟨p, O, rfl, h1, g1, o1⟩
      have H1 := Lib.hid h1
      have G1 := Lib.hid g1
      have O1 := Lib.hid o1
      clear h1 g1 o1
      go_wp2_with fail
      refine (HR.out _).mono ?_
      rintro e w2 ⟨r, g, c', rfl, h2, g2, o2⟩
      have HI := Lib.hid (FI.start HT.out H1.out G1.out O1.out h2 g2 o2)
      have HGd := Lib.hid (goods_new k)
      have HLn := Lib.hid (show (List.replicate k zeroF).length = k from List.length_replicate)
      clear h2 g2 o2 H1 G1 O1 HN HR
      go_wp2_with fail
      clear q1 q2 q3 q4
      go_loopw [41] (fun iv wr => ∃ (j : Nat) (xs : List FrV) (O' : List Nat) (g' c2 : Nat), j ≤ l ∧ iv = .int .i64 j ∧ Hid (FI P w wr p r rs xs xs O' g' c2) ∧ Hid (xs.length = k)) (fun iv _ => l - (intOf iv).toNat)
      case atStart => exact ⟨0, _, O, g, c', by omega, rfl, HI, HLn⟩
      case round =>
        obtain ⟨j, xs, O', g', c2, hj, rfl, HIr, HLx⟩ := hrel
        by_cases hlt : j < l
        · obtain ⟨A, hAj⟩ : ∃ A, As[j]? = some A := ⟨_, List.getElem?_eq_getElem (by rw [HA.out.len]; exact hlt)⟩
          obtain ⟨gb, o, rfl, c0, c1, c2', c3, c4⟩ := HA.out.at HIr.out.grown hAj
          have hOk := HA.out.ok A (List.mem_of_getElem? hAj)
          have HOk := Lib.hid hOk
          have har := FR.new HT.out HIr.out A
          have HAct := Lib.hid (act_ok HT.out har.i.pp A hOk)
          have HAR := Lib.hid har
          obtain ⟨b0, b1, b2, b3, b4⟩ := har.yb.at
          clear hAj har hOk
          obtain ⟨X, hX⟩ : ∃ X, actF rs xs A = X := ⟨_, rfl⟩
          rw [hX] at HAct
          have HXl := Lib.hid (show X.xs.length = xs.length by rw [← hX]; exact actF_len)
          go_wp2_with fail
          refine HAct.out.mono ?_
          rintro e w5 ⟨rfl, h5⟩
          obtain ⟨O5, h5⟩ := HAR.out.left HT.out h5
          have hl5 := like_ok h5.i.rp (HT.out.good HIr.out.pp) A
          rw [hX] at hl5
          have HLike := Lib.hid hl5
          have HA5 := Lib.hid h5
          clear b0 b1 b2 b3 b4 c0 c1 c2' c3 c4 hl5
          obtain ⟨b0, b1, b2, b3, b4⟩ := h5.yb.at
          clear h5
          go_wp2_with fail
          refine HLike.out.mono ?_
          rintro e w6 ⟨rfl, h6⟩
          obtain ⟨g6, c6, h6⟩ := HA5.out.right HT.out h6
          have HA6 := Lib.hid h6
          have h7 := h6.grow HT.out (grown_drew1 w6)
          have HB := Lib.hid h7
          have hk := h7.yb.at.2.2.1
          clear b0 b1 b2 b3 b4 h6 h7
          go_wp2_with fail
          go_region_held3 (fun w' => w'.cell? ⟨wr.heap.size, 2, none⟩ = some (.int .i64 A.a)) (exact hk)
            (first
              | (go_at_call 13; with_reducible refine ((HT.out.free HB.out.i.pp).mono ?_); rintro e w7 ⟨rfl, g7⟩; replace HB := Lib.hid (HB.out.grow HT.out g7); replace hk := HB.out.yb.at.2.2.1; clear g7)
              | (go_at_call 14; with_reducible refine ((ref_count HB.out.i.rp 0).mono ?_); rintro e w8 ⟨rfl, g8⟩; replace HB := Lib.hid (HB.out.grow HT.out g8); replace hk := HB.out.yb.at.2.2.1; clear g8)
              | (go_at_call 15; with_reducible refine ((HT.out.count HB.out.i.pp A.a HOk.out.a).mono ?_); rintro e w9 ⟨rfl, g9⟩; replace HB := Lib.hid (HB.out.grow HT.out g9); replace hk := HB.out.yb.at.2.2.1; clear g9)
              | (go_at_call 14; with_reducible refine ((ref_count HB.out.i.rp A.a).mono ?_); rintro e w10 ⟨rfl, g10⟩; replace HB := Lib.hid (HB.out.grow HT.out g10); replace hk := HB.out.yb.at.2.2.1; clear g10))
          all_goals
            go_wp2_with fail
            go_roundw
            case rel => exact ⟨j + 1, X.xs, _, _, _, by omega, by go_num, HB.out.i, HXl.out.trans HLx.out⟩
            case measure => simp [intOf]; omega
        · obtain rfl : j = l := by omega
          go_wp2_with fail
          go_loopw [15] (fun iv wx => ∃ i : Int, iv = .int .i64 i ∧ -1 ≤ i ∧ i ≤ k + 1 ∧ Hid (FI P w wx p r rs xs xs O' g' c2)) (fun iv _ => ((k : Int) + 1 - intOf iv).toNat)
          case atStart => exact ⟨-1, rfl, by omega, by omega, HIr⟩
          case round =>
            obtain ⟨i, rfl, hi0, hi1, HIx⟩ := hrel
            by_cases hle : i ≤ k
            · obtain ⟨x, b, hv⟩ := getV_form (getF xs i)
              have hget := HT.out.get HIx.out.pp i ⟨by omega, by omega⟩
              rw [hv] at hget
              have HGet := Lib.hid hget
              have HV := Lib.hid hv
              have hnq := neq_fr
              clear hget hv
              go_wp2_with fail
              refine HGet.out.mono ?_
              rintro e w5 ⟨rfl, g5⟩
              have g6 := grown_trans g5 (World.grownBy_alloc w5 (.cells #[.int .i64 x.cl, .int .i64 x.ow, .int .i64 x.ix, .int .i64 x.wi, .int .i64 x.lo] 36 (0, 0)) none)
              have hi6 := HIx.out.grow HT.out g6
              have hr6 := ref_get hi6.rp i
              rw [HV.out] at hr6
              have HR6 := Lib.hid hr6
              have HI6 := Lib.hid hi6
              have HB6 := Lib.hid (FrB.new w5 36 x)
              clear g5 g6 hi6 hr6
              go_wp2_with fail
              refine HR6.out.mono ?_
              rintro e w7 ⟨rfl, g7⟩
              have g8 := grown_trans g7 (World.grownBy_alloc w7 (.cells #[.int .i64 x.cl, .int .i64 x.ow, .int .i64 x.ix, .int .i64 x.wi, .int .i64 x.lo] 39 (0, 0)) none)
              have HI8 := Lib.hid (HI6.out.grow HT.out g8)
              obtain ⟨y0, y1, y2, y3, y4⟩ := (HB6.out.grow g8).at
              obtain ⟨z0, z1, z2, z3, z4⟩ := (FrB.new w7 39 x).at
              clear g7 g8
              go_wp2_with fail
              go_roundw
              case rel => exact ⟨i + 1, by go_num, by omega, by omega, HI8⟩
              case measure => simp [intOf]; omega
            · go_wp2_with fail
              refine (HLv.out _).mono ?_
              rintro e w3 ⟨rfl, g3⟩
              have G3 := Lib.hid (grown_trans HIx.out.grown g3)
              clear g3
              go_wp2_with fail
              go_ret
              exact ⟨rfl, G3.out⟩
  · have HN := Lib.hid (H.newNo w n rs hs)
    have HR := Lib.hid (fun wx => ref_new_no n rs wx hs)
    clear H hs hA
    go_enter Try.func3, Try.ntmps3
    go_wp2_with fail
    refine HN.out.mono ?_
    rintro e w1 ⟨rfl, g1⟩
    have G1 := Lib.hid g1
    clear g1
    go_wp2_with fail
    refine (HR.out _).mono ?_
    rintro e w2 ⟨rfl, rfl⟩
    go_wp2_with fail
    refine (HLv.out _).mono ?_
    rintro e w3 ⟨rfl, g3⟩
    have G3 := Lib.hid (grown_trans G1.out g3)
    clear g3
    go_wp2_with fail
    go_ret
    exact ⟨rfl, G3.out⟩
end Go.Proofs.Ytabgfjmfhkfbmaa
