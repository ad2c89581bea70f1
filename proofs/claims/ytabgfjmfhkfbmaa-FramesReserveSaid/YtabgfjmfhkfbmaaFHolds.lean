/- FramesHolds, walked out of what package frames says. -/
import Derived.Test.YtabgfjmfhkfbmaaFOk
namespace Go.Proofs.Ytabgfjmfhkfbmaa
open Go.ChangeShapes Go.WideShapes Go.ChangeAt Go.RowKit Go.Deep
set_option linter.unusedVariables false

/-- One pool alone. -/
structure FS (P : World → Nat → Int → List FrV → List Nat → Prop) (w wx : World) (p : Nat) (rs : Int) (xs : List FrV) (O : List Nat) : Prop where
  pp : P wx p rs xs O
  op : ∀ b, b ∈ O → w.heap.size ≤ b
  grown : w.grownBy wx none
section
variable {P : World → Nat → Int → List FrV → List Nat → Prop} {w wx w2 : World} {p : Nat} {rs : Int} {xs zs : List FrV} {O : List Nat}
theorem FS.grow (H : FrOk P) (h : FS P w wx p rs xs O) (k : wx.grownBy w2 none) : FS P w w2 p rs xs O := ⟨H.grow h.pp k, h.op, grown_trans h.grown k⟩
theorem FS.left (H : FrOk P) (h : FS P w wx p rs xs O) (k : FLeft P wx w2 p rs O zs) : ∃ O', FS P w w2 p rs zs O' ∧ Turn O wx w2 ∧ ∀ b, b ∈ O' → b ∈ O ∨ wx.heap.size ≤ b := by
  obtain ⟨O', h2, g2, o2⟩ := k
  refine ⟨O', ⟨h2, fun b hb => ?_, ((Turn.grown h.grown).trans' g2).noGrown h.op⟩, g2, o2⟩
  rcases o2 b hb with h3 | h3
  · exact h.op b h3
  · have := h.grown.size; omega
end
theorem head_at (x : FrV) (xs : List FrV) (f : FrV → Int × FrV) (h : x.cl ≠ 0) : atF (x :: xs) 0 f = ⟨0, (f x).1, (f x).2 :: xs⟩ := by
  have := atF_at (xs := x :: xs) (k := 0) (f := f) rfl h
  simpa using this

set_option maxRecDepth 100000 in
set_option maxHeartbeats 4000000 in
theorem holds_walk {P : World → Nat → Int → List FrV → List Nat → Prop} (H : FrOk P) (w : World) (wire loan : Int) (hw : okU wire) (hl : okU loan) :
    Calls Try.prog 7 #[.int .u64 wire, .int .u64 loan] w fun e w' => e = .returned (.bool true) ∧ w.grownBy w' none := by
  obtain ⟨a, ha⟩ : ∃ a : Int, wire % 1000 = a := ⟨_, rfl⟩
  obtain ⟨b, hb⟩ : ∃ b : Int, loan % 1000 = b := ⟨_, rfl⟩
  have a0 : 0 ≤ a := by omega
  have a1 : a < 1000 := by omega
  have b0 : 0 ≤ b := by omega
  have b1 : b < 1000 := by omega
  have w0 := hw.1
  have w1 := hw.2
  have l0 := hl.1
  have l1 := hl.2
  have HLv := Lib.hid (lives6 H)
  have HN := Lib.hid (H.new w 2 0 (by decide) (by decide) (by decide) (by decide))
  have HT := Lib.hid H
  clear H
  go_enter Try.func7, Try.ntmps7
  go_wp2_with fail
  refine HN.out.mono ?_
  rintro e w1 ⟨p, O, rfl, h1, g1, o1⟩
  have HI := Lib.hid (show FS P w w1 p 0 [zeroF, zeroF] O from ⟨h1, o1, g1⟩)
  clear h1 g1 o1
  have hk := HT.out.take HI.out.pp 2 3 4 (ok_s (by decide) (by decide)) (ok_s (by decide) (by decide)) (ok_s (by decide) (by decide))
  rw [show takeF 0 [zeroF, zeroF] 2 3 4 = ⟨0, 0, [⟨2, 3, 4, 0, 0⟩, zeroF]⟩ from rfl] at hk
  have HK := Lib.hid hk
  clear hk
  go_wp2_with fail
  refine HK.out.mono ?_
  rintro e w2 ⟨rfl, h2⟩
  obtain ⟨O2, h2, -, -⟩ := HI.out.left HT.out h2
  have H2 := Lib.hid h2
  have hk := HT.out.wire h2.pp 0 a (ok_s (by decide) (by decide)) (ok_s (by omega) (by omega))
  rw [show wireF [⟨2, 3, 4, 0, 0⟩, zeroF] 0 a = ⟨0, 0, [⟨2, 3, 4, a, 0⟩, zeroF]⟩ by unfold wireF; rw [head_at _ _ _ (by simp), if_pos (by constructor <;> simp <;> omega)]; simp] at hk
  have HK2 := Lib.hid hk
  clear hk h2 HK HI HN
  go_wp2_with fail
  refine HK2.out.mono ?_
  rintro e w3 ⟨rfl, h3⟩
  obtain ⟨O3, h3, -, -⟩ := H2.out.left HT.out h3
  have H3 := Lib.hid h3
  have hk := HT.out.loan h3.pp 0 b (ok_s (by decide) (by decide)) (ok_s (by omega) (by omega))
  rw [show loanF [⟨2, 3, 4, a, 0⟩, zeroF] 0 b = ⟨0, 0, [⟨2, 3, 4, a, b⟩, zeroF]⟩ by unfold loanF; rw [head_at _ _ _ (by simp), if_pos (by constructor <;> simp <;> omega)]; simp] at hk
  have HK3 := Lib.hid hk
  clear hk h3 HK2 H2
  go_wp2_with fail
  refine HK3.out.mono ?_
  rintro e w4 ⟨rfl, h4⟩
  obtain ⟨O4, h4, -, -⟩ := H3.out.left HT.out h4
  have H4 := Lib.hid h4
  have hk := HT.out.wire h4.pp 0 (-a - 1) (ok_s (by decide) (by decide)) (ok_s (by omega) (by omega))
  rw [show wireF [⟨2, 3, 4, a, b⟩, zeroF] 0 (-a - 1) = ⟨0, 2, [⟨2, 3, 4, a, b⟩, zeroF]⟩ by unfold wireF; rw [head_at _ _ _ (by simp), if_neg (by unfold mayBy; simp; omega)]] at hk
  have HK4 := Lib.hid hk
  clear hk h4 HK3 H3
  go_wp2_with fail
  refine HK4.out.mono ?_
  rintro e w5 ⟨rfl, h5⟩
  obtain ⟨O5, h5, -, -⟩ := H4.out.left HT.out h5
  have H5 := Lib.hid h5
  have hk := HT.out.loan h5.pp 0 (-b - 1) (ok_s (by decide) (by decide)) (ok_s (by omega) (by omega))
  rw [show loanF [⟨2, 3, 4, a, b⟩, zeroF] 0 (-b - 1) = ⟨0, 2, [⟨2, 3, 4, a, b⟩, zeroF]⟩ by unfold loanF; rw [head_at _ _ _ (by simp), if_neg (by unfold mayBy; simp; omega)]] at hk
  have HK5 := Lib.hid hk
  clear hk h5 HK4 H4
  go_wp2_with fail
  refine HK5.out.mono ?_
  rintro e w6 ⟨rfl, h6⟩
  obtain ⟨O6, h6, -, -⟩ := H5.out.left HT.out h6
  have H6 := Lib.hid h6
  have hk := HT.out.get h6.pp 0 (ok_s (by decide) (by decide))
  rw [show getV (getF [⟨2, 3, 4, a, b⟩, zeroF] 0) = .tuple #[.agg #[.int .i64 2, .int .i64 3, .int .i64 4, .int .i64 a, .int .i64 b], .bool true] from rfl] at hk
  have HK6 := Lib.hid hk
  clear hk h6 HK5 H5
  go_wp2_with fail
  refine HK6.out.mono ?_
  rintro e w7 ⟨rfl, g7⟩
  have h7 := (H6.out.grow HT.out g7).grow HT.out (World.grownBy_alloc w7 (.cells #[.int .i64 2, .int .i64 3, .int .i64 4, .int .i64 a, .int .i64 b] 36 (0, 0)) none)
  obtain ⟨y0, y1, y2, y3, y4⟩ := (FrB.new w7 36 ⟨2, 3, 4, a, b⟩).at
  simp only at y0 y1 y2 y3 y4
  have H7 := Lib.hid h7
  have HGv := Lib.hid (HT.out.give h7.pp 0 (ok_s (by decide) (by decide)))
  clear h7 g7 HK6 H6
  by_cases hz : a + b = 0
  · obtain rfl : a = 0 := by omega
    obtain rfl : b = 0 := by omega
    rw [show giveF [⟨2, 3, 4, 0, 0⟩, zeroF] 0 = ⟨0, 0, [zeroF, zeroF]⟩ from rfl] at HGv
    go_wp2_with fail
    refine HGv.out.mono ?_
    rintro e w8 ⟨rfl, h8⟩
    obtain ⟨O8, h8, -, -⟩ := H7.out.left HT.out h8
    have H8 := Lib.hid h8
    have hk := HT.out.wire h8.pp 0 1 (ok_s (by decide) (by decide)) (ok_s (by decide) (by decide))
    rw [show wireF [zeroF, zeroF] 0 1 = ⟨0, 2, [zeroF, zeroF]⟩ from rfl] at hk
    have HK8 := Lib.hid hk
    clear hk h8
    go_wp2_with fail
    refine HK8.out.mono ?_
    rintro e w9 ⟨rfl, h9⟩
    obtain ⟨O9, h9, -, -⟩ := H8.out.left HT.out h9
    have H9 := Lib.hid h9
    clear h9
    go_wp2_with fail
    refine (HLv.out _).mono ?_
    rintro e w10 ⟨rfl, g10⟩
    have G10 := Lib.hid (grown_trans H9.out.grown g10)
    clear g10
    go_wp2_with fail
    go_ret
    exact ⟨rfl, G10.out⟩
  · have hzb : (a + b == 0) = false := beq_eq_false_iff_ne.2 hz
    rw [show giveF [⟨2, 3, 4, a, b⟩, zeroF] 0 = ⟨0, 8, [⟨2, 3, 4, a, b⟩, zeroF]⟩ by unfold giveF; rw [head_at _ _ _ (by simp), if_pos (by simp; omega)]] at HGv
    go_wp2_with fail
    refine HGv.out.mono ?_
    rintro e w8 ⟨rfl, h8⟩
    obtain ⟨O8, h8, -, -⟩ := H7.out.left HT.out h8
    have H8 := Lib.hid h8
    have hk := HT.out.own h8.pp 0 4 0 0 (ok_s (by decide) (by decide)) (ok_s (by decide) (by decide)) (ok_s (by decide) (by decide)) (ok_s (by decide) (by decide))
    rw [show ownF [⟨2, 3, 4, a, b⟩, zeroF] 0 4 0 0 = ⟨0, 0, [⟨4, 0, 0, a, b⟩, zeroF]⟩ from rfl] at hk
    have HK8 := Lib.hid hk
    clear hk h8
    go_wp2_with fail
    refine HK8.out.mono ?_
    rintro e w9 ⟨rfl, h9⟩
    obtain ⟨O9, h9, -, -⟩ := H8.out.left HT.out h9
    have H9 := Lib.hid h9
    have hk := HT.out.wire h9.pp 0 (-a) (ok_s (by decide) (by decide)) (ok_s (by omega) (by omega))
    rw [show wireF [⟨4, 0, 0, a, b⟩, zeroF] 0 (-a) = ⟨0, 0, [⟨4, 0, 0, 0, b⟩, zeroF]⟩ by unfold wireF; rw [head_at _ _ _ (by simp), if_pos (by constructor <;> simp <;> omega)]; simp; omega] at hk
    have HK9 := Lib.hid hk
    clear hk h9
    go_wp2_with fail
    refine HK9.out.mono ?_
    rintro e w10 ⟨rfl, h10⟩
    obtain ⟨O10, h10, -, -⟩ := H9.out.left HT.out h10
    have H10 := Lib.hid h10
    have hk := HT.out.loan h10.pp 0 (-b) (ok_s (by decide) (by decide)) (ok_s (by omega) (by omega))
    rw [show loanF [⟨4, 0, 0, 0, b⟩, zeroF] 0 (-b) = ⟨0, 0, [⟨4, 0, 0, 0, 0⟩, zeroF]⟩ by unfold loanF; rw [head_at _ _ _ (by simp), if_pos (by constructor <;> simp <;> omega)]; simp; omega] at hk
    have HK10 := Lib.hid hk
    clear hk h10
    go_wp2_with fail
    refine HK10.out.mono ?_
    rintro e w11 ⟨rfl, h11⟩
    obtain ⟨O11, h11, -, -⟩ := H10.out.left HT.out h11
    have H11 := Lib.hid h11
    have hk := HT.out.give h11.pp 0 (ok_s (by decide) (by decide))
    rw [show giveF [⟨4, 0, 0, 0, 0⟩, zeroF] 0 = ⟨0, 0, [zeroF, zeroF]⟩ from rfl] at hk
    have HK11 := Lib.hid hk
    clear hk h11
    go_wp2_with fail
    refine HK11.out.mono ?_
    rintro e w12 ⟨rfl, h12⟩
    obtain ⟨O12, h12, -, -⟩ := H11.out.left HT.out h12
    have H12 := Lib.hid h12
    have hk := HT.out.free h12.pp
    rw [show countF [zeroF, zeroF] 0 = 2 from rfl] at hk
    have HK12 := Lib.hid hk
    clear hk h12
    go_wp2_with fail
    refine HK12.out.mono ?_
    rintro e w13 ⟨rfl, g13⟩
    have H13 := Lib.hid (H12.out.grow HT.out g13)
    clear g13
    go_wp2_with fail
    refine (HLv.out _).mono ?_
    rintro e w14 ⟨rfl, g14⟩
    have G14 := Lib.hid (grown_trans H13.out.grown g14)
    clear g14
    go_wp2_with fail
    go_ret
    exact ⟨rfl, G14.out⟩
end Go.Proofs.Ytabgfjmfhkfbmaa
