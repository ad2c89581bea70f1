/- AnonLowest, walked out of what package anon says. -/
import Derived.Test.YtpiemnffbcgbmaaNManyW
import Derived.Test.YtpiemnffbcgbmaaZUints
import Derived.Deep.CutBlock
import Derived.Deep.DeepCutAuto
namespace Go.Proofs.Ytpiemnffbcgbmaa
open Go.ChangeShapes Go.WideShapes Go.ChangeAt Go.RowKit Go.Deep
set_option linter.unusedVariables false

theorem neqN_ptr_nil (w : World) (a : Addr) : (binOp .neq 23 (.pointer (some a)) (.pointer none)).run Try.prog w = .ok (.bool true) w := by go_simp
/-- The law's array of those that have gone. -/
def goneC (G : Nat → Bool) : Array Value := ((List.range 41).map fun i => Value.bool (G i)).toArray
def GoneA (w : World) (y : Nat) (G : Nat → Bool) : Prop := w.heap[y]? = some (.cells (goneC G) 56 (0, 0))
section
variable {w w' : World} {y k : Nat} {G : Nat → Bool}
theorem GoneA.at (h : GoneA w y G) (hk : k < 41) : w.cell? ⟨y, k, none⟩ = some (.bool (G k)) := by
  rw [cell_of_row _ _ _ _ _ _ h]
  simp [goneC, hk]
theorem GoneA.frozen (h : GoneA w y G) (o : Nat) : w.frozen? ⟨y, o, none⟩ = false := frozen_of_row _ _ _ _ _ h
theorem GoneA.lt (h : GoneA w y G) : y < w.heap.size := (Array.getElem?_eq_some_iff.1 h).1
theorem GoneA.grow (h : GoneA w y G) (g : w.grownBy w' none) : GoneA w' y G := (g.block _ h.lt (by simp)).trans h
theorem GoneA.turn {O : List Nat} (h : GoneA w y G) (g : Turn O w w') (ho : y ∉ O) : GoneA w' y G := (g.block _ h.lt ho).trans h
theorem GoneA.set (h : GoneA w y G) (hk : k < 41) : GoneA (w.setCell ⟨y, k, none⟩ (.bool true)) y (fun i => i == k || G i) := by
  have h1 := heap_setCell_same w y k _ _ (.bool true) h
  unfold GoneA
  rw [h1]
  congr 2
  unfold goneC
  rw [List.setIfInBounds_toArray]
  congr 1
  apply List.ext_getElem
  · simp
  · intro i h2 h3
    rw [List.getElem_set]
    simp only [List.getElem_map, List.getElem_range]
    by_cases e : k = i
    · subst e; simp
    · rw [if_neg e]
      have : (i == k) = false := by simpa using fun h => e h.symm
      simp [this]
theorem goneC_none : goneC (fun _ => false) = #[.bool false, .bool false, .bool false, .bool false, .bool false, .bool false, .bool false, .bool false, .bool false, .bool false, .bool false, .bool false, .bool false, .bool false, .bool false, .bool false, .bool false, .bool false, .bool false, .bool false, .bool false, .bool false, .bool false, .bool false, .bool false, .bool false, .bool false, .bool false, .bool false, .bool false, .bool false, .bool false, .bool false, .bool false, .bool false, .bool false, .bool false, .bool false, .bool false, .bool false, .bool false] := rfl
end

/-- The law's pool, and its array beside it. -/
structure LowI (D : World → Nat → Nat → List AnV → List Nat → Prop) (w wx : World) (p y : Nat) (L : List AnV) (O : List Nat) (G : Nat → Bool) : Prop where
  ln : LN D w wx p 4096 L O
  ga : GoneA wx y G
  ny : y ∉ O
  own : w.heap.size ≤ y
section
variable {D : World → Nat → Nat → List AnV → List Nat → Prop} {w wx w2 : World} {p y : Nat} {L L' : List AnV} {O : List Nat} {G : Nat → Bool}
theorem LowI.grow (H : StOkN D) (h : LowI D w wx p y L O G) (g : wx.grownBy w2 none) : LowI D w w2 p y L O G := ⟨h.ln.grow H g, h.ga.grow g, h.ny, h.own⟩
theorem LowI.left (h : LowI D w wx p y L O G) (t : AL D wx w2 p 4096 O L') : ∃ O', LowI D w w2 p y L' O' G := by
  obtain ⟨O', h2, t2, o2⟩ := h.ln.left t
  refine ⟨O', h2, h.ga.turn t2 h.ny, fun hm => ?_, h.own⟩
  rcases o2 y hm with h3 | h3
  · exact h.ny h3
  · have := h.ga.lt; omega
theorem LowI.set (H : StOkN D) (h : LowI D w wx p y L O G) {k : Nat} (hk : k < 41) : LowI D w (wx.setCell ⟨y, k, none⟩ (.bool true)) p y L O (fun i => i == k || G i) :=
  ⟨h.ln.turn H (Turn.setCell [y] wx y k _ (by simp)) (fun b hb hm => by simp at hm; subst hm; exact h.ny hb) (fun b hb => by simp at hb; subst hb; exact h.own), h.ga.set hk, h.ny, h.own⟩
end

set_option maxRecDepth 100000 in
set_option maxHeartbeats 8000000 in
theorem lowest_walk12 {D : World → Nat → Nat → List AnV → List Nat → Prop} (H : NaOk D) (w : World) (sa : Option Addr) (l c : Nat) (ds : List Int) (hU : UintsAre w sa l ds) :
    Calls Try.prog 5 #[.slice sa l c] w fun e w' => e = .returned (.bool true) ∧ w.grownBy w' none := by
  have HLv := Lib.hid (fun wx => lives12 H wx)
  have HT := Lib.hid H
  have HU := Lib.hid hU
  have hq0 := eqlN_ptr_nil
  have hq1 := neqN_ptr_nil
  have HN := Lib.hid (H.new 4096 w (by decide))
  by_cases hl60 : l ≤ 60
  · have d60 : decide ((l : Int) > 60) = false := decide_eq_false (by omega)
    clear H hU
    go_enter Try.func5, Try.ntmps5
    go_wp2_with fail
    refine HN.out.mono ?_
    rintro e w1 ⟨p, O, rfl, h1, g1, o1⟩
    have H1 := Lib.hid (show LN D w w1 p 4096 [] O from ⟨h1, o1, g1⟩)
    clear h1 g1 o1 HN
    go_wp2_with fail
    go_loopw [4] (fun iv wr => ∃ (j : Nat) (L : List AnV) (O : List Nat), j ≤ 40 ∧ iv = .int .i64 ((j : Int) + 1) ∧ Hid (L.length = j) ∧ Hid (Ones L) ∧ Hid (LN D w wr p 4096 L O)) (fun iv _ => 41 - (intOf iv).toNat)
    case atStart => exact ⟨0, [], O, by omega, rfl, rfl, Ones.nil, H1⟩
    case round =>
      clear H1
      obtain ⟨j, L, O, hj, rfl, HL, HO, HJ⟩ := hrel
      by_cases hlt : j < 40
      · have hk := HT.out.make HJ.out.d ((j : Int) + 1) (okS (by omega) (by omega))
        rw [HO.out.make (by rw [HL.out]; omega), HL.out] at hk
        have HK := Lib.hid hk
        have hjb : decide ((j : Int) + 1 ≤ 40) = true := decide_eq_true (by omega)
        clear hk
        go_wp2_with fail
        refine HK.out.mono ?_
        rintro e w2 ⟨rfl, h2⟩
        obtain ⟨O2, h2, -, -⟩ := HJ.out.left h2
        have H2 := Lib.hid h2
        clear h2
        go_wp2_with fail
        go_roundw
        case rel => exact ⟨j + 1, L ++ [⟨1, (j : Int) + 1, -1⟩], O2, by omega, by go_num, Lib.hid (by simp [HL.out]), Lib.hid (HO.out.app _ _), H2⟩
        case measure => simp [intOf]; omega
      · have hj40 : j = 40 := by omega
        have hjb : decide ((j : Int) + 1 ≤ 40) = false := decide_eq_false (by omega)
        have HL40 := Lib.hid (HL.out.trans hj40)
        clear HL hj40
        go_upto_region 11 with fail
        have ga := World.grownBy_alloc wr (.cells (goneC fun _ => false) 56 (0, 0)) none
        have hA : GoneA (wr.alloc (.cells (goneC fun _ => false) 56 (0, 0))) wr.heap.size (fun _ => false) := heap_alloc_new wr _
        have hI : LowI D w (wr.alloc (.cells (goneC fun _ => false) 56 (0, 0))) p wr.heap.size L O (fun _ => false) := ⟨HJ.out.grow HT.out.toStOkN ga, hA, fun hm => by have := HT.out.lt HJ.out.d _ hm; omega, HJ.out.grown.size⟩
        rw [goneC_none] at hI
        have HI := Lib.hid hI
        clear ga hA hI HJ
        generalize wr.alloc _ = wA at *
        generalize wr.heap.size = y at *
        go_wp2_with fail
        go_loopw [50] (fun iv wr => ∃ (j : Nat) (L : List AnV) (O : List Nat) (G : Nat → Bool), j ≤ l ∧ iv = .int .i64 (j : Int) ∧ Hid (L.length = 40) ∧ Hid (Bits L) ∧ Hid (∀ i, i < 40 → liveB L i = !G (i + 1)) ∧ Hid (LowI D w wr p y L O G)) (fun iv _ => l - (intOf iv).toNat)
        case atStart => exact ⟨0, L, O, _, by omega, rfl, HL40, Lib.hid HO.out.bits, Lib.hid (fun i hi => by rw [HO.out.live (by rw [HL40.out]; exact hi)]; rfl), HI⟩
        case round =>
          clear HI HL40 HO
          obtain ⟨j, L, O, G, hj, rfl, HL, HO, HE, HJ⟩ := hrel
          by_cases hlt : j < l
          · obtain ⟨d, g, o, hd, hs, cd, hdo⟩ := HU.out.get j hlt
            have cd2 := HJ.out.ln.grown.cell (a := ⟨g, o + j, none⟩) cd (by simp)
            subst hs
            obtain ⟨k, hk1, hk2⟩ : ∃ k : Nat, d % 40 = k ∧ k < 40 := ⟨(d % 40).toNat, by omega, by omega⟩
            have hkm : d.tmod 40 = (k : Int) := by rw [Int.tmod_eq_emod_of_nonneg hdo.1]; exact hk1
            have hki : (1 : Int) + (k : Int) = (k : Int) + 1 := by omega
            have hkl : k < L.length := by rw [HL.out]; exact hk2
            have hlk := HE.out k hk2
            obtain ⟨hd0, hd1⟩ := hdo
            cases hG : G (k + 1) with
            | false =>
              rw [hG] at hlk
              obtain ⟨x, hx, hr⟩ := bit_off HO.out hlk
              have hk := HT.out.ref HJ.out.ln.d ((k : Int) + 1) (-1) (okS (by omega) (by omega)) (okS (by decide) (by decide))
              rw [hr] at hk
              unfold ansN anAgg at hk
              have HK := Lib.hid hk
              have HE2 := Lib.hid (show ∀ i, i < 40 → liveB (L.set k ⟨0, x.fr, x.sl⟩) i = !((fun i => i == k + 1 || G i) (i + 1)) from fun i hi => by
                rw [off_live hkl rfl, HE.out i hi]
                by_cases e : i = k
                · subst e; simp
                · rw [if_neg e]; simp [e])
              have HO2 := Lib.hid (HO.out.set k (x := ⟨0, x.fr, x.sl⟩) (.inl rfl))
              have HL2 := Lib.hid (show (L.set k ⟨0, x.fr, x.sl⟩).length = 40 by rw [List.length_set, HL.out])
              have HG1 := Lib.hid hG
              clear hk hr hx hlk hkl hG cd
              obtain ⟨xr, xf, xs⟩ := x
              simp only at *
              generalize L.set k ⟨0, xf, xs⟩ = L2 at *
              go_wp2_with fail
              refine HK.out.mono ?_
              rintro e w4 ⟨rfl, h4⟩
              obtain ⟨O4, h4⟩ := HJ.out.left h4
              have ga := World.grownBy_alloc w4 (.cells #[.int .i64 0, .int .i64 xf, .int .i64 xs] 36 (0, 0)) none
              have h5 := h4.grow HT.out.toStOkN ga
              have cg := h5.ga.at (k := k + 1) (by omega)
              rw [HG1.out] at cg
              have fg := h5.ga.frozen (k + 1)
              have H5 := Lib.hid (h5.set HT.out.toStOkN (k := k + 1) (by omega))
              clear h4 ga h5 HK HJ
              go_wp2_with fail
              go_roundw
              case rel => exact ⟨j + 1, L2, O4, _, by omega, by go_num, HL2, HO2, HE2, H5⟩
              case measure => simp [intOf]; omega
            | true =>
              rw [hG] at hlk
              have hk := HT.out.ref HJ.out.ln.d ((k : Int) + 1) (-1) (okS (by omega) (by omega)) (okS (by decide) (by decide))
              rw [bit_no hlk] at hk
              unfold ansN anAgg zeroN at hk
              have HK := Lib.hid hk
              have HE2 := Lib.hid (show ∀ i, i < 40 → liveB L i = !((fun i => i == k + 1 || G i) (i + 1)) from fun i hi => by
                rw [HE.out i hi]
                by_cases e : i = k
                · subst e; simp [hG]
                · simp [e])
              have HG1 := Lib.hid hG
              clear hk hlk hkl hG cd
              go_wp2_with fail
              refine HK.out.mono ?_
              rintro e w4 ⟨rfl, h4⟩
              obtain ⟨O4, h4⟩ := HJ.out.left h4
              have ga := World.grownBy_alloc w4 (.cells #[.int .i64 0, .int .i64 0, .int .i64 0] 36 (0, 0)) none
              have h5 := h4.grow HT.out.toStOkN ga
              have cg := h5.ga.at (k := k + 1) (by omega)
              rw [HG1.out] at cg
              have fg := h5.ga.frozen (k + 1)
              have H5 := Lib.hid (h5.set HT.out.toStOkN (k := k + 1) (by omega))
              clear h4 ga h5 HK HJ
              go_wp2_with fail
              go_roundw
              case rel => exact ⟨j + 1, L, O4, _, by omega, by go_num, HL, HO, HE2, H5⟩
              case measure => simp [intOf]; omega
          · obtain rfl : j = l := by omega
            go_wp2_with fail
            go_loopw [13] (fun iv wr => ∃ (i : Nat) (L : List AnV) (O : List Nat), i ≤ 40 ∧ iv = .int .i64 ((i : Int) + 1) ∧ Hid (L.length = 40) ∧ Hid (Bits L) ∧ Hid (∀ q, q < 40 → i ≤ q → liveB L q = !G (q + 1)) ∧ Hid (∀ q, q < i → liveB L q = true) ∧ Hid (LowI D w wr p y L O G)) (fun iv _ => 41 - (intOf iv).toNat)
            case atStart => exact ⟨0, L, O, by omega, rfl, HL, HO, Lib.hid fun q hq _ => HE.out q hq, Lib.hid fun q hq => by omega, HJ⟩
            case round =>
              clear HL HO HE HJ
              obtain ⟨i, L, O, hi, rfl, HL, HO, HE, HB, HJ⟩ := hrel
              by_cases hlt : i < 40
              · have hib : decide ((i : Int) + 1 ≤ 40) = true := decide_eq_true (by omega)
                have cg := HJ.out.ga.at (k := i + 1) (by omega)
                have hle := HE.out i hlt (Nat.le_refl _)
                cases hG : G (i + 1) with
                | false =>
                  rw [hG] at cg hle
                  have HB2 := Lib.hid (show ∀ q, q < i + 1 → liveB L q = true from fun q hq => by
                    by_cases e : q = i
                    · subst e; exact hle
                    · exact HB.out q (by omega))
                  have HE2 := Lib.hid (show ∀ q, q < 40 → i + 1 ≤ q → liveB L q = !G (q + 1) from fun q hq h2 => HE.out q hq (by omega))
                  clear hle hG
                  go_wp2_with fail
                  go_roundw
                  case rel => exact ⟨i + 1, L, O, by omega, by go_num, HL, HO, HE2, HB2, HJ⟩
                  case measure => simp [intOf]; omega
                | true =>
                  rw [hG] at cg hle
                  have hil : i < L.length := by rw [HL.out]; exact hlt
                  have hk := HT.out.make HJ.out.ln.d 0 (okS (by decide) (by decide))
                  rw [bit_on hil (by rw [HL.out]; decide) hle HB.out] at hk
                  have HK := Lib.hid hk
                  have HB2 := Lib.hid (show ∀ q, q < i + 1 → liveB (L.set i ⟨1, 0, -1⟩) q = true from fun q hq => by
                    rw [on_live hil]
                    by_cases e : q = i
                    · rw [if_pos e]
                    · rw [if_neg e]; exact HB.out q (by omega))
                  have HE2 := Lib.hid (show ∀ q, q < 40 → i + 1 ≤ q → liveB (L.set i ⟨1, 0, -1⟩) q = !G (q + 1) from fun q hq h2 => by
                    rw [on_live hil, if_neg (by omega)]; exact HE.out q hq (by omega))
                  have HL2 := Lib.hid (show (L.set i ⟨1, 0, -1⟩).length = 40 by rw [List.length_set, HL.out])
                  have HO2 := Lib.hid (HO.out.set i (x := ⟨1, 0, -1⟩) (.inr rfl))
                  clear hk hil hle hG
                  generalize L.set i ⟨1, 0, -1⟩ = L2 at *
                  go_wp2_with fail
                  refine HK.out.mono ?_
                  rintro e w4 ⟨rfl, h4⟩
                  obtain ⟨O4, h4⟩ := HJ.out.left h4
                  have H4 := Lib.hid h4
                  clear h4 HK HJ
                  go_wp2_with fail
                  go_roundw
                  case rel => exact ⟨i + 1, L2, O4, by omega, by go_num, HL2, HO2, HE2, HB2, H4⟩
                  case measure => simp [intOf]; omega
              · have hi40 : i = 40 := by omega
                have hib : decide ((i : Int) + 1 ≤ 40) = false := decide_eq_false (by omega)
                have hones : Ones L := fun x hx => by
                  obtain ⟨q, hq⟩ := List.getElem?_of_mem hx
                  have hql := (List.getElem?_eq_some_iff.1 hq).1
                  rw [HL.out] at hql
                  exact HO.out.live hq (HB.out q (by omega))
                have hk := HT.out.make HJ.out.ln.d 0 (okS (by decide) (by decide))
                rw [hones.make (by rw [HL.out]; decide), HL.out] at hk
                have HK := Lib.hid hk
                clear hk hones hi40
                go_wp2_with fail
                refine HK.out.mono ?_
                rintro e w4 ⟨rfl, h4⟩
                obtain ⟨O4, h4⟩ := HJ.out.left h4
                have H4 := Lib.hid h4.ln.grown
                clear h4 HK HJ
                go_wp2_with fail
                refine (HLv.out _).mono ?_
                rintro e w6 ⟨rfl, g6⟩
                have HG := Lib.hid (grown_trans H4.out g6)
                clear g6
                go_wp2_with fail
                go_ret
                exact ⟨rfl, HG.out⟩
  · have d60 : decide ((l : Int) > 60) = true := decide_eq_true (by omega)
    clear H hU hl60
    go_enter Try.func5, Try.ntmps5
    go_wp2_with fail
    refine HN.out.mono ?_
    rintro e w2 ⟨p, O, rfl, h2, g2, o2⟩
    have HG2 := Lib.hid g2
    clear h2 g2 o2 HN
    go_wp2_with fail
    refine (HLv.out _).mono ?_
    rintro e w6 ⟨rfl, g6⟩
    have HG := Lib.hid (grown_trans HG2.out g6)
    clear g6
    go_wp2_with fail
    go_ret
    exact ⟨rfl, HG.out⟩
end Go.Proofs.Ytpiemnffbcgbmaa
