/- PteJoins, walked: it answers true, and nothing that was there has turned. -/
import Derived.Test.YtkpbkmfogkkheaaPteLives
namespace Go.Proofs.Ytkpbkmfogkkheaa
open Go.ChangeShapes Go.WideShapes Go.RowKit
set_option linter.unusedVariables false

theorem join_back (v : Int) (h0 : 0 ≤ v) (h1 : v < 134217728) : joinOf (indexOf v 2) (indexOf v 1) (indexOf v 0) = v := by
  show v / 262144 % 512 % 512 * 262144 + v / 512 % 512 % 512 * 512 + v % 512 % 512 = v
  omega

theorem okI_index (v l : Int) : okI (indexOf v l) := by
  unfold indexOf
  split
  · exact ⟨by omega, by omega⟩
  · split
    · exact ⟨by omega, by omega⟩
    · split
      · exact ⟨by omega, by omega⟩
      · exact ⟨by omega, by omega⟩

theorem canon_low (x : Int) (hx : okI x) (h : vpnOf x * 4096 + byteOf x < 274877906944) : canonOf x = (vpnOf x * 4096 + byteOf x == x) := by
  have h0 := hx.1
  have h1 := hx.2
  unfold vpnOf byteOf at *
  unfold canonOf
  rw [← Bool.decide_or]
  show _ = decide _
  apply decide_eq_decide.2
  omega

theorem canon_high (x : Int) (hx : okI x) (h : ¬ vpnOf x * 4096 + byteOf x < 274877906944) : canonOf x = (vpnOf x * 4096 + byteOf x - 549755813888 == x) := by
  have h0 := hx.1
  have h1 := hx.2
  unfold vpnOf byteOf at *
  unfold canonOf
  rw [← Bool.decide_or]
  show _ = decide _
  apply decide_eq_decide.2
  omega

theorem joins_walk (w : World) (x : Int) (hx : okI x) :
    Calls Try.prog 7 #[.int .i64 x] w fun e w' => e = .returned (.bool true) ∧ Below w.heap.size w w' := by
  have v0 := (vpn_lt x).1
  have v1 := (vpn_lt x).2
  have b0 := (byte_lt x).1
  have b1 := (byte_lt x).2
  have HS := Lib.hid (split_ok x)
  have H2 := Lib.hid (index_ok (vpnOf x) 2)
  have H1 := Lib.hid (index_ok (vpnOf x) 1)
  have H0 := Lib.hid (index_ok (vpnOf x) 0)
  have HJ0 := join_ok (indexOf (vpnOf x) 2) (indexOf (vpnOf x) 1) (indexOf (vpnOf x) 0) (okI_index _ _) (okI_index _ _) (okI_index _ _)
  rw [join_back _ v0 v1] at HJ0
  have HJ := Lib.hid HJ0
  have HC := Lib.hid (canonical_ok x)
  have d0 : decide (vpnOf x < 0) = false := by simp; omega
  have d1 : decide (vpnOf x ≥ 134217728) = false := by simp; omega
  have d2 : decide (byteOf x < 0) = false := by simp; omega
  have d3 : decide (byteOf x ≥ 4096) = false := by simp; omega
  clear HJ0
  by_cases hl : vpnOf x * 4096 + byteOf x < 274877906944
  · have hc := canon_low x hx hl
    rw [hc] at HC
    clear hc hx
    have d4 : decide (vpnOf x * 4096 + byteOf x ≥ 274877906944) = false := by simp; omega
    generalize indexOf (vpnOf x) 2 = i2 at *
    generalize indexOf (vpnOf x) 1 = i1 at *
    generalize indexOf (vpnOf x) 0 = i0 at *
    generalize vpnOf x = vp at *
    generalize byteOf x = bt at *
    go_enter Try.func7, Try.ntmps7
    go_wp2_with fail
    refine (HS.out _).mono ?_
    rintro e w' ⟨rfl, n0, rfl⟩
    go_wp2_with fail
    refine (H2.out _).mono ?_
    rintro e w' ⟨rfl, n1, rfl⟩
    go_wp2_with fail
    refine (H1.out _).mono ?_
    rintro e w' ⟨rfl, n2, rfl⟩
    go_wp2_with fail
    refine (H0.out _).mono ?_
    rintro e w' ⟨rfl, n3, rfl⟩
    go_wp2_with fail
    refine (HJ.out _).mono ?_
    rintro e w5 ⟨rfl, h5⟩
    have HZ := Lib.hid ((Below.drewK (Below.refl _ w) _).trans h5)
    clear h5
    go_wp2_with fail
    refine (HC.out _).mono ?_
    rintro e w' ⟨rfl, rfl⟩
    go_wp2_with fail
    refine (lives_ok _).mono ?_
    rintro e w8 ⟨rfl, h8⟩
    have HY := Lib.hid (HZ.out.trans (h8.mono HZ.out.size))
    clear h8
    go_wp2_with fail
    go_ret
    exact ⟨rfl, HY.out⟩
  · have hc := canon_high x hx hl
    rw [hc] at HC
    clear hc hx
    have d4 : decide (vpnOf x * 4096 + byteOf x ≥ 274877906944) = true := by simp; omega
    generalize indexOf (vpnOf x) 2 = i2 at *
    generalize indexOf (vpnOf x) 1 = i1 at *
    generalize indexOf (vpnOf x) 0 = i0 at *
    generalize vpnOf x = vp at *
    generalize byteOf x = bt at *
    go_enter Try.func7, Try.ntmps7
    go_wp2_with fail
    refine (HS.out _).mono ?_
    rintro e w' ⟨rfl, n0, rfl⟩
    go_wp2_with fail
    refine (H2.out _).mono ?_
    rintro e w' ⟨rfl, n1, rfl⟩
    go_wp2_with fail
    refine (H1.out _).mono ?_
    rintro e w' ⟨rfl, n2, rfl⟩
    go_wp2_with fail
    refine (H0.out _).mono ?_
    rintro e w' ⟨rfl, n3, rfl⟩
    go_wp2_with fail
    refine (HJ.out _).mono ?_
    rintro e w5 ⟨rfl, h5⟩
    have HZ := Lib.hid ((Below.drewK (Below.refl _ w) _).trans h5)
    clear h5
    go_wp2_with fail
    refine (HC.out _).mono ?_
    rintro e w' ⟨rfl, rfl⟩
    go_wp2_with fail
    refine (lives_ok _).mono ?_
    rintro e w8 ⟨rfl, h8⟩
    have HY := Lib.hid (HZ.out.trans (h8.mono HZ.out.size))
    clear h8
    go_wp2_with fail
    go_ret
    exact ⟨rfl, HY.out⟩
end Go.Proofs.Ytkpbkmfogkkheaa
