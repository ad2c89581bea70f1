/- Layer 15, the law's own calls: lives, right, like. -/
import Derived.Test.YtklmlimfhgonjaaEyCut
import Derived.Test.YtklmlimfhgonjaaEyInsR
import Derived.Test.YtklmlimfhgonjaaEyDc
import Derived.Test.YtklmlimfhgonjaaEyDw
import Derived.Test.YtklmlimfhgonjaaEyRefB
namespace Go.Proofs.Ytklmlimfhgonjaa
open Go.ChangeShapes Go.WideShapes Go.ChangeAt Go.RowKit Go.Deep Go.Sort
set_option linter.unusedVariables false

/-- The document's example. -/
def x26 : En := ⟨2, 6, 0, 0, false, 0, 0, 0, 0, false⟩
theorem good26 : GoodE x26 := (goodB_iff _).1 (by decide)
theorem rf26 : RF 0 [x26] := (right_iff _).1 (by decide)
theorem clip26 : clipE [x26] 4 = [⟨2, 4, 0, 0, false, 0, 0, 0, 0, false⟩, ⟨4, 6, 0, 0, false, 0, 0, 0, 0, false⟩] := by decide
def c26 : List En := [⟨2, 4, 0, 0, false, 0, 0, 0, 0, false⟩, ⟨4, 6, 0, 0, false, 0, 0, 0, 0, false⟩]
theorem merge26 : mergeE c26 = [x26] := by decide
theorem rfc26 : RF 0 c26 := (right_iff _).1 (by decide)
theorem space26a : spaceV [x26] 1 1 = .tuple #[.int .i64 1, .bool true] := rfl
theorem space26b : spaceV [x26] 1 2 = .tuple #[.int .i64 6, .bool true] := rfl
set_option maxRecDepth 100000 in
set_option maxHeartbeats 4000000 in
theorem lives_ok (w : World) : Calls Try.prog 11 #[] w fun e w' => e = .returned (.bool true) ∧ w.grownBy w' none := by
  have hec : EC (w.alloc (.cells #[.int .i64 x26.s, .int .i64 x26.e, .int .i64 x26.f, .int .i64 x26.o, .bool x26.sh, .int .i64 x26.p, .int .i64 x26.m, .int .i64 x26.i, .int .i64 x26.a, .bool x26.wi] 25)) (.slice (some ⟨w.heap.size, 0, none⟩) 1 1) [x26] := ec_one (heap_alloc_new w _)
  have g1 := World.grownBy_alloc w (.cells #[.int .i64 x26.s, .int .i64 x26.e, .int .i64 x26.f, .int .i64 x26.o, .bool x26.sh, .int .i64 x26.p, .int .i64 x26.m, .int .i64 x26.i, .int .i64 x26.a, .bool x26.wi] 25) none
  have HC := Lib.hid (clip_ok hec rf26 (by decide) 4)
  have HSa := Lib.hid (fun W (g : (w.alloc (.cells #[.int .i64 x26.s, .int .i64 x26.e, .int .i64 x26.f, .int .i64 x26.o, .bool x26.sh, .int .i64 x26.p, .int .i64 x26.m, .int .i64 x26.i, .int .i64 x26.a, .bool x26.wi] 25)).grownBy W none) => space_ok (hec.grow g) rf26 (by decide) 1 1)
  have HSb := Lib.hid (fun W (g : (w.alloc (.cells #[.int .i64 x26.s, .int .i64 x26.e, .int .i64 x26.f, .int .i64 x26.o, .bool x26.sh, .int .i64 x26.p, .int .i64 x26.m, .int .i64 x26.i, .int .i64 x26.a, .bool x26.wi] 25)).grownBy W none) => space_ok (hec.grow g) rf26 (by decide) 1 2)
  have HM := Lib.hid (fun (W : World) (s : Option Addr) (c : Nat) (h : ERow W (.slice s c26.length c) c26) => merge_ok c h rfc26 (by decide))
  rw [clip26] at HC
  rw [space26a] at HSa
  rw [space26b] at HSb
  rw [merge26] at HM
  have HE := Lib.hid hec
  have HG1 := Lib.hid g1
  clear hec g1
  unfold c26 at HM
  unfold x26 at HC HSa HSb HM HE HG1
  simp only at HC HSa HSb HM HE HG1
  go_enter Try.func11, Try.ntmps11
  go_wp2_with fail
  refine HC.out.mono ?_
  rintro e w2 ⟨u, rfl, hown, g2⟩
  obtain ⟨a1, c1, hvf⟩ := eown_form hown
  subst hvf
  have HO := Lib.hid hown
  have HG2 := Lib.hid g2
  have HSa2 := Lib.hid (HSa.out w2 g2)
  clear hown g2
  go_wp2_with fail
  refine HSa2.out.mono ?_
  rintro e w3 ⟨rfl, g3⟩
  have HG3 := Lib.hid (grown_trans HG2.out g3)
  have HO3 := Lib.hid (eown_grow HO.out g3)
  have HSb2 := Lib.hid (HSb.out w3 (grown_trans HG2.out g3))
  clear g3
  go_wp2_with fail
  refine HSb2.out.mono ?_
  rintro e w4 ⟨rfl, g4⟩
  have HG4 := Lib.hid (grown_trans HG3.out g4)
  have hrow := (EOwn.ec (eown_grow HO3.out g4)).1
  have HMc := Lib.hid (HM.out w4 _ _ hrow)
  obtain ⟨g, o, cc, hv, hat⟩ := en_cells hrow (j := 0) rfl
  obtain ⟨g', o', cc', hv', hat'⟩ := en_cells hrow (j := 1) rfl
  injection hv with e1 e2 e3
  subst e1 e3
  injection hv' with e1 e2 e3
  injection e1 with e1
  injection e1 with e1 e4
  subst e1 e4 e3
  have k1 := hat.c1
  have k2 := hat'.c0
  simp only [Nat.zero_mul, Nat.one_mul, Nat.add_zero] at k1 k2
  clear g4 hrow hat hat'
  go_wp2_with fail
  refine HMc.out.mono ?_
  rintro e w5 ⟨u, rfl, hown, g5⟩
  obtain ⟨a5, c5, hvf⟩ := eown_form hown
  subst hvf
  have HG5 := Lib.hid (grown_trans HG4.out g5)
  have HSm := Lib.hid (same_ok c5 1 (EOwn.ec hown).1 ((HE.out.grow (grown_trans HG4.out g5)).1) (by decide) true (by simp))
  clear hown g5
  go_wp2_with fail
  refine HSm.out.mono ?_
  rintro e w6 ⟨rfl, g6⟩
  have HG6 := Lib.hid (grown_trans HG5.out g6)
  clear g6
  go_wp2_with fail
  go_ret
  exact ⟨rfl, grown_trans HG1.out HG6.out⟩
theorem lawRight_ok {w : World} {s : Option Addr} {L : List En} (c : Nat) (h : ERow w (.slice s L.length c) L) (hk : ∀ x, x ∈ L → OkE x) (d : Bool) (hd : (decide (L.length ≤ 100) && rightB L) = d) :
    Calls Try.prog 16 #[.slice s L.length c] w fun e w' => e = .returned (.bool d) ∧ w.grownBy w' none := by
  by_cases hl : L.length ≤ 100
  · have b0 : decide ((L.length : Int) ≤ 100) = true := decide_eq_true (by omega)
    rw [decide_eq_true hl, Bool.true_and] at hd
    have HR := Lib.hid (refRight_ok c h hk (by omega))
    rw [hd] at HR
    clear h hk hl hd
    go_enter Try.func16, Try.ntmps16
    go_wp2_with fail
    refine HR.out.mono ?_
    rintro e w2 ⟨rfl, g2⟩
    have HG := Lib.hid g2
    clear g2
    go_wp2_with fail
    go_ret
    exact ⟨rfl, HG.out⟩
  · have b0 : decide ((L.length : Int) ≤ 100) = false := decide_eq_false (by omega)
    obtain rfl : d = false := by rw [← hd, decide_eq_false hl]; rfl
    clear h hk hl hd
    go_enter Try.func16, Try.ntmps16
    go_wp2_with fail
    go_ret
    exact ⟨rfl, grown_refl _ _⟩
end Go.Proofs.Ytklmlimfhgonjaa
