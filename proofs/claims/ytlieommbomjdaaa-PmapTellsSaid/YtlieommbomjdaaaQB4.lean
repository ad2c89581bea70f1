/- Package pmap: write, giveEmpty. Package pmap: giveEmpty. Package pmap: change. -/
import Derived.Test.YtlieommbomjdaaaQB3
namespace Go.Proofs.Ytlieommbomjdaaa
open Go.ChangeShapes Go.WideShapes Go.ChangeAt Go.RowKit Go.Deep
set_option linter.unusedVariables false

section
variable {w0 w w' w2 : World} {m d n p x : Nat} {O O2 : List Nat} {a r : Int} {M M' : List UInt8} {xs zs : List FrV}
theorem grown_chain {a b c : World} {r : Option Nat} (h : a.grownBy b none) (k : b.grownBy c r) : a.grownBy c r :=
  grown_trans ⟨h.os, h.tape, h.output, h.size, fun i hi _ => h.block i hi (by simp)⟩ k
set_option maxHeartbeats 4000000 in
theorem sp_write_at (h : QX w0 w m d n p O x a r M xs) {base : Nat} {u : Value} {ys : List Int} (hu : IOwn w base u ys) (hud : d < base) (v F P t L : Int) (j : Nat) (hj : (ys.length = 1 ∧ j = 0 ∧ L = 2) ∨ (ys.length = 2 ∧ j = 1 ∧ L = 1) ∨ (ys.length = 3 ∧ j = 2 ∧ L = 0)) (ht : ys[j]? = some t) (ht0 : 0 ≤ t ∧ t < n) :
    Calls Try.prog 37 #[.pointer (some ⟨x, 0, none⟩), u, .int .i64 v, .agg #[.int .i64 F, .int .i64 P]] w fun e w' => e = .returned (.tuple #[]) ∧ St w0 w' m d n (setL n M t (indexOf v L) (encOf F P)) ∧ w.grownBy w' (some d) := by
  obtain ⟨s, c, rfl, hf⟩ := hu.form
  obtain ⟨g, rfl, hg⟩ : ∃ g, s = some ⟨g, 0, none⟩ ∧ ∀ (i : Nat) x, ys[i]? = some x → w.cell? ⟨g, i, none⟩ = some (.int .i64 x) := by
    rcases hf with e | h
    · rw [e] at ht; cases ht
    · exact h
  have c0 := hg _ _ ht
  have ga := World.grownBy_alloc w (.cells #[.int .i64 F, .int .i64 P] 44) none
  have hy0 : EntB (w.alloc (.cells #[.int .i64 F, .int .i64 P] 44)) w.heap.size F P := heap_alloc_new w _
  have hm0 := h.grow ga
  have c1 := ga.cell c0 (by simp)
  have GA := Lib.hid ga
  have hgd : g ≠ d := by have := (hu.lt (g := g) rfl).1; omega
  have hxd : x ≠ d := fun e => h.xn (by simp [e])
  have hyd : w.heap.size ≠ d := by have := h.lt d (by simp); omega
  clear hu hf hg c0 h ga
  generalize hwA : w.alloc (.cells #[.int .i64 F, .int .i64 P] 44) = wA at *
  obtain ⟨y, hy⟩ : ∃ y, w.heap.size = y := ⟨_, rfl⟩
  rw [hy] at hy0 hyd
  have HS := Lib.hid (fun W (k : wA.grownBy W none) => (hm0.grow k).st)
  have HI := Lib.hid (fun W => index_ok v L W)
  have HE := Lib.hid (fun W => encode_ok F P W)
  obtain ⟨E, hE⟩ : ∃ E, encOf F P = E := ⟨_, rfl⟩
  have hEu := okU_enc F P
  rw [hE] at HE hEu ⊢
  have HX := index_okX v L
  obtain ⟨I, hI⟩ : ∃ I, indexOf v L = I := ⟨_, rfl⟩
  rw [hI] at HI HX ⊢
  have HSW := Lib.hid (fun W (k : wA.grownBy W none) => setWordE' (HS.out W k) t I E ht0 ⟨HX.1, HX.2⟩ hEu)
  have gd := grown_drew wA
  have gds : wA.grownBy wA.drew (some d) := ⟨rfl, rfl, rfl, Nat.le_refl _, fun _ _ _ => rfl⟩
  have k0 : IntKind.i64.wrap 0 = 0 := by decide
  have k1 : IntKind.i64.wrap 1 = 1 := by decide
  have k2 : IntKind.i64.wrap 2 = 2 := by decide
  have hSx := fun W (k : wA.grownBy W (some d)) => (And.intro (hm0.sp.grow' k hxd).at.1 (And.intro (k.cell c1 (by simpa using hgd)) (hy0.grownS k hyd).at) : W.cell? ⟨x, 0, none⟩ = some (.pointer (some ⟨m, 0, none⟩)) ∧ W.cell? ⟨g, j, none⟩ = some (.int .i64 t) ∧ W.cell? ⟨y, 0, none⟩ = some (.int .i64 F) ∧ W.cell? ⟨y, 1, none⟩ = some (.int .i64 P))
  clear hm0 c1 hy0 hE hI ht HX hEu ht0
  rcases hj with ⟨hlen, rfl, rfl⟩ | ⟨hlen, rfl, rfl⟩ | ⟨hlen, rfl, rfl⟩
  · rw [hlen]
    have HC := Lib.hid hSx
    have hc0 := hSx _ gds
    clear hlen hSx
    go_enter Try.func37, Try.ntmps37
    go_wp2_with fail
    go_region_held3 (fun W => W.cell? ⟨x, 0, none⟩ = some (.pointer (some ⟨m, 0, none⟩)) ∧ W.cell? ⟨g, 0, none⟩ = some (.int .i64 t) ∧ W.cell? ⟨y, 0, none⟩ = some (.int .i64 F) ∧ W.cell? ⟨y, 1, none⟩ = some (.int .i64 P))
      (first | with_reducible exact hc0 | (exact HC.out _ (by first | exact grown_drewN _ _ _ | exact G7.out | exact grown_chain gE.out (grown_refl _ _) | exact grown_chain gE.out (grown_drewN _ _ _))))
      (first
        | (go_at_call 61; refine (HI.out _).mono ?_; rintro e w5 ⟨rfl, k5, rfl⟩)
        | (go_at_call 64; refine (HE.out _).mono ?_; rintro e w6 ⟨rfl, h6⟩; have gE := Lib.hid (show wA.grownBy w6 none from (by first | exact grown_trans gd (grown_of_below' h6) | exact grown_trans (grown_drewN _ _ _) (grown_of_below' h6))); clear h6)
        | (go_at_call 26; refine (HSW.out _ (by first | exact gE.out | exact grown_trans gE.out (grown_drewN _ _ _))).mono ?_; rintro e w7 ⟨rfl, s7, g7⟩; have S7 := Lib.hid s7; have G7 := Lib.hid (show wA.grownBy w7 (some d) from (by first | exact grown_chain gE.out g7 | exact grown_chain (grown_trans gE.out (grown_drewN _ _ _)) g7)); clear s7 g7))
    all_goals
      go_wp2_with fail
      go_end0
      exact ⟨rfl, S7.out, grown_chain GA.out G7.out⟩
  · rw [hlen]
    have HC := Lib.hid hSx
    have hc0 := hSx _ gds
    clear hlen hSx
    go_enter Try.func37, Try.ntmps37
    go_wp2_with fail
    go_region_held3 (fun W => W.cell? ⟨x, 0, none⟩ = some (.pointer (some ⟨m, 0, none⟩)) ∧ W.cell? ⟨g, 1, none⟩ = some (.int .i64 t) ∧ W.cell? ⟨y, 0, none⟩ = some (.int .i64 F) ∧ W.cell? ⟨y, 1, none⟩ = some (.int .i64 P))
      (first | with_reducible exact hc0 | (exact HC.out _ (by first | exact grown_drewN _ _ _ | exact G7.out | exact grown_chain gE.out (grown_refl _ _) | exact grown_chain gE.out (grown_drewN _ _ _))))
      (first
        | (go_at_call 61; refine (HI.out _).mono ?_; rintro e w5 ⟨rfl, k5, rfl⟩)
        | (go_at_call 64; refine (HE.out _).mono ?_; rintro e w6 ⟨rfl, h6⟩; have gE := Lib.hid (show wA.grownBy w6 none from (by first | exact grown_trans gd (grown_of_below' h6) | exact grown_trans (grown_drewN _ _ _) (grown_of_below' h6))); clear h6)
        | (go_at_call 26; refine (HSW.out _ (by first | exact gE.out | exact grown_trans gE.out (grown_drewN _ _ _))).mono ?_; rintro e w7 ⟨rfl, s7, g7⟩; have S7 := Lib.hid s7; have G7 := Lib.hid (show wA.grownBy w7 (some d) from (by first | exact grown_chain gE.out g7 | exact grown_chain (grown_trans gE.out (grown_drewN _ _ _)) g7)); clear s7 g7))
    all_goals
      go_wp2_with fail
      go_end0
      exact ⟨rfl, S7.out, grown_chain GA.out G7.out⟩
  · rw [hlen]
    have HC := Lib.hid hSx
    have hc0 := hSx _ gds
    clear hlen hSx
    go_enter Try.func37, Try.ntmps37
    go_wp2_with fail
    go_region_held3 (fun W => W.cell? ⟨x, 0, none⟩ = some (.pointer (some ⟨m, 0, none⟩)) ∧ W.cell? ⟨g, 2, none⟩ = some (.int .i64 t) ∧ W.cell? ⟨y, 0, none⟩ = some (.int .i64 F) ∧ W.cell? ⟨y, 1, none⟩ = some (.int .i64 P))
      (first | with_reducible exact hc0 | (exact HC.out _ (by first | exact grown_drewN _ _ _ | exact G7.out | exact grown_chain gE.out (grown_refl _ _) | exact grown_chain gE.out (grown_drewN _ _ _))))
      (first
        | (go_at_call 61; refine (HI.out _).mono ?_; rintro e w5 ⟨rfl, k5, rfl⟩)
        | (go_at_call 64; refine (HE.out _).mono ?_; rintro e w6 ⟨rfl, h6⟩; have gE := Lib.hid (show wA.grownBy w6 none from (by first | exact grown_trans gd (grown_of_below' h6) | exact grown_trans (grown_drewN _ _ _) (grown_of_below' h6))); clear h6)
        | (go_at_call 26; refine (HSW.out _ (by first | exact gE.out | exact grown_trans gE.out (grown_drewN _ _ _))).mono ?_; rintro e w7 ⟨rfl, s7, g7⟩; have S7 := Lib.hid s7; have G7 := Lib.hid (show wA.grownBy w7 (some d) from (by first | exact grown_chain gE.out g7 | exact grown_chain (grown_trans gE.out (grown_drewN _ _ _)) g7)); clear s7 g7))
    all_goals
      go_wp2_with fail
      go_end0
      exact ⟨rfl, S7.out, grown_chain GA.out G7.out⟩
end
end Go.Proofs.Ytlieommbomjdaaa

namespace Go.Proofs.Ytlieommbomjdaaa
open Go.ChangeShapes Go.WideShapes Go.ChangeAt Go.RowKit Go.Deep
set_option linter.unusedVariables false

section
variable {w0 w w' w2 : World} {m d n p x : Nat} {O O2 : List Nat} {a r : Int} {M M' : List UInt8} {xs zs : List FrV}
set_option maxRecDepth 100000 in
set_option maxHeartbeats 2000000 in
theorem sp_full (h : QX w0 w m d n p O x a r M xs) (t : Int) (hf : ∃ j, okX j ∧ wordI n M t j ≠ 0) :
    Calls Try.prog 39 #[.pointer (some ⟨x, 0, none⟩), .int .i64 t] w fun e w' => e = .returned (.bool false) ∧ w' = w := by
  have c0 := h.sp.at.1
  have HW := Lib.hid (fun i => word_at h.st t i)
  have HF := Lib.hid hf
  clear h hf
  go_enter Try.func39, Try.ntmps39
  go_wp2_with fail
  go_loop [8] (fun iv => ∃ (k : Nat), k ≤ 512 ∧ iv = .int .i64 k ∧ Hid (∀ j : Nat, j < k → wordI n M t j = 0)) (fun iv => 512 - (intOf iv).toNat)
  case atStart => exact ⟨0, by omega, rfl, Lib.hid fun j hj => by omega⟩
  case round =>
    obtain ⟨k, hk, rfl, HZ⟩ := hrel
    by_cases hlt : k < 512
    · by_cases hz : wordI n M t (k : Nat) = 0
      · have HN := Lib.hid (HW.out k)
        rw [hz] at HN
        have HZ2 := Lib.hid (show ∀ j : Nat, j < k + 1 → wordI n M t j = 0 from fun j hj => by
          by_cases e : j = k
          · subst e; exact hz
          · exact HZ.out j (by omega))
        clear hz
        go_wp2_with fail
        refine HN.out.mono ?_
        rintro e w3 ⟨rfl, e3⟩
        subst w3
        go_wp2_with fail
        go_round
        case rel => exact ⟨k + 1, by omega, by go_num, HZ2⟩
        case measure => simp [intOf]; omega
      · have HN := Lib.hid (HW.out k)
        obtain ⟨V, hV⟩ : ∃ V, wordI n M t (k : Nat) = V := ⟨_, rfl⟩
        rw [hV] at HN hz
        have b0 : (V != 0) = true := by simpa using hz
        clear hz hV
        go_wp2_with fail
        refine HN.out.mono ?_
        rintro e w3 ⟨rfl, e3⟩
        subst w3
        go_wp2_with fail
        go_ret
        exact ⟨rfl, rfl⟩
    · exfalso
      obtain ⟨j, hj, hn⟩ := HF.out
      unfold okX at hj
      apply hn
      have := HZ.out j.toNat (by omega)
      rw [Int.toNat_of_nonneg hj.1] at this
      exact this
set_option maxRecDepth 100000 in
set_option maxHeartbeats 2000000 in
theorem sp_clear (h : QX w0 w m d n p O x a r M xs) (t : Int) (hf : ∀ j, okX j → wordI n M t j = 0) (e0 : Int) (hg : giveF xs t = ⟨0, e0, zs⟩) (hz : zs.length = n) :
    Calls Try.prog 39 #[.pointer (some ⟨x, 0, none⟩), .int .i64 t] w fun e w' => e = .returned (.bool (e0 == 0)) ∧ QXL w0 w w' m d n p O x a r M zs := by
  obtain ⟨c0, c1, _⟩ := h.sp.at
  have HW := Lib.hid (fun i => word_at h.st t i)
  have hG := pp_give h.pool t
  rw [hg] at hG
  have HG := Lib.hid hG
  have HF := Lib.hid hf
  have HQ := Lib.hid h
  have HZ := Lib.hid hz
  clear h hf hG hg hz
  go_enter Try.func39, Try.ntmps39
  go_wp2_with fail
  go_loop [8] (fun iv => ∃ (k : Nat), k ≤ 512 ∧ iv = .int .i64 k) (fun iv => 512 - (intOf iv).toNat)
  case atStart => exact ⟨0, by omega, rfl⟩
  case round =>
    obtain ⟨k, hk, rfl⟩ := hrel
    by_cases hlt : k < 512
    · have HN := Lib.hid (HW.out k)
      rw [HF.out k ⟨by omega, by omega⟩] at HN
      go_wp2_with fail
      refine HN.out.mono ?_
      rintro e w3 ⟨rfl, e3⟩
      subst w3
      go_wp2_with fail
      go_round
      case rel => exact ⟨k + 1, by omega, by go_num⟩
      case measure => simp [intOf]; omega
    · go_wp2_with fail
      refine HG.out.mono ?_
      rintro e w3 ⟨rfl, g3⟩
      have H3 := Lib.hid (HQ.out.pool' g3 HZ.out)
      clear g3
      go_wp2_with fail
      go_ret
      exact ⟨rfl, H3.out⟩
end
end Go.Proofs.Ytlieommbomjdaaa

namespace Go.Proofs.Ytlieommbomjdaaa
open Go.ChangeShapes Go.WideShapes Go.ChangeAt Go.RowKit Go.Deep
set_option linter.unusedVariables false

section
variable {w0 w w' w2 : World} {m d n p x : Nat} {O O2 : List Nat} {a r : Int} {M M' : List UInt8} {xs zs : List FrV}
def changeOf (V F T : Int) : Int := bits .or .u64 (bits .andNot .u64 V (encOf F 0)) (encOf T 0)
set_option maxRecDepth 100000 in
set_option maxHeartbeats 4000000 in
theorem sp_change (h : QX w0 w m d n p O x a r M xs) (v F T f : Int) (hp : placeOf n M r v = some f) (hf : 0 ≤ f ∧ f < n) (hU : okU (changeOf (wordI n M f (indexOf v 0)) F T)) :
    Calls Try.prog 56 #[.pointer (some ⟨x, 0, none⟩), .int .i64 v, .int .i64 F, .int .i64 T] w fun e w' => e = .returned (.tuple #[]) ∧ St w0 w' m d n (setL n M f (indexOf v 0) (changeOf (wordI n M f (indexOf v 0)) F T)) ∧ w.grownBy w' (some d) := by
  have HS := Lib.hid (fun W (k : w.grownBy W none) => (h.grow k).st)
  have hxd : x ≠ d := fun e => h.xn (by simp [e])
  have hSx := fun W (k : w.grownBy W (some d)) => (And.intro (h.sp.grow' k hxd).at.1 (h.sp.grow' k hxd).at.2.2.2 : W.cell? ⟨x, 0, none⟩ = some (.pointer (some ⟨m, 0, none⟩)) ∧ W.cell? ⟨x, 3, none⟩ = some (.int .i64 r))
  have HP := Lib.hid (fun W (k : w.grownBy W none) => place_any (HS.out W k) r v)
  rw [hp] at HP
  have e : plV v (some f) = .tuple #[.int .i64 f, .int .i64 (indexOf v 0), .bool true] := rfl
  rw [e] at HP
  have HX := index_okX v 0
  obtain ⟨I, hI⟩ : ∃ I, indexOf v 0 = I := ⟨_, rfl⟩
  rw [hI] at HX HP hU ⊢
  have HW := Lib.hid (fun W (k : w.grownBy W none) => word_at (HS.out W k) f I)
  obtain ⟨V, hV⟩ : ∃ V, wordI n M f I = V := ⟨_, rfl⟩
  rw [hV] at HW hU ⊢
  have HSW := Lib.hid (fun W (k : w.grownBy W none) => setWordE' (HS.out W k) f I (changeOf V F T) hf ⟨HX.1, HX.2⟩ hU)
  unfold changeOf at HSW
  have HE1 := Lib.hid (fun W => encode_ok F 0 W)
  have HE2 := Lib.hid (fun W => encode_ok T 0 W)
  obtain ⟨E1, hE1⟩ : ∃ E, encOf F 0 = E := ⟨_, rfl⟩
  obtain ⟨E2, hE2⟩ : ∃ E, encOf T 0 = E := ⟨_, rfl⟩
  rw [hE1] at HE1 HSW
  rw [hE2] at HE2 HSW
  unfold changeOf
  rw [hE1, hE2]
  have gd := grown_drew w
  have HC := Lib.hid hSx
  have hc0 := hSx _ (grown_chain gd (grown_refl _ _))
  clear h hSx hp hf hU hI hV hE1 hE2 HX e hxd
  go_enter Try.func56, Try.ntmps56
  go_wp2_with fail
  go_region_held3 (fun W => W.cell? ⟨x, 0, none⟩ = some (.pointer (some ⟨m, 0, none⟩)) ∧ W.cell? ⟨x, 3, none⟩ = some (.int .i64 r))
    (first | with_reducible exact hc0 | (exact HC.out _ (grown_chain G1.out (grown_refl _ _))))
    (first
      | (go_at_call 76; refine (HP.out _ gd).mono ?_; rintro e w5 ⟨rfl, h5⟩; have G1 := Lib.hid (grown_trans gd h5); clear h5))
  all_goals
    have HW1 := Lib.hid (HW.out _ G1.out)
    have gd2 := grown_trans G1.out (grown_drew w5)
    have hc1 := HC.out _ (grown_chain G1.out (grown_refl _ _))
    have hc2 := HC.out _ (grown_chain gd2 (grown_refl _ _))
    have c0 := hc1.1
    go_wp2_with fail
    refine HW1.out.mono ?_
    rintro e w6 ⟨rfl, e6⟩
    subst w6
    go_wp2_with fail
    go_region_held3 (fun W => W.cell? ⟨x, 0, none⟩ = some (.pointer (some ⟨m, 0, none⟩)) ∧ W.cell? ⟨x, 3, none⟩ = some (.int .i64 r))
      (first | with_reducible exact hc2 | (exact HC.out _ (by first | exact G7.out | exact grown_chain gE.out (grown_refl _ _) | exact grown_chain gF.out (grown_refl _ _))))
      (first
        | (go_at_call 64; (with_reducible refine ((HE1.out _).mono ?_)); rintro e w8 ⟨rfl, h8⟩; have gE := Lib.hid (show w.grownBy w8 none from (by first | exact grown_trans gd2 (grown_of_below' h8) | exact grown_trans gF.out (grown_of_below' h8))); clear h8)
        | (go_at_call 64; (with_reducible refine ((HE2.out _).mono ?_)); rintro e w9 ⟨rfl, h9⟩; have gF := Lib.hid (show w.grownBy w9 none from (by first | exact grown_trans gd2 (grown_of_below' h9) | exact grown_trans gE.out (grown_of_below' h9))); clear h9)
        | (go_at_call 26; refine (HSW.out _ (by first | exact gE.out | exact gF.out)).mono ?_; rintro e w7 ⟨rfl, s7, g7⟩; have S7 := Lib.hid s7; have G7 := Lib.hid (show w.grownBy w7 (some d) from (by first | exact grown_chain gE.out g7 | exact grown_chain gF.out g7)); clear s7 g7))
    all_goals
      go_wp2_with fail
      go_end0
      exact ⟨rfl, S7.out, G7.out⟩
end
end Go.Proofs.Ytlieommbomjdaaa
