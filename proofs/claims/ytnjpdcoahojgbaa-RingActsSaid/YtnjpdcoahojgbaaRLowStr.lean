/- Package ring at items of kind string: how many rows, whether there is one, how many stand there; an item leaves. -/
import Derived.Test.YtnjpdcoahojgbaaRKStr
namespace Go.Proofs.Ytnjpdcoahojgbaa.RStr
open Go.ChangeShapes Go.WideShapes Go.ChangeAt Go.RowKit
set_option linter.unusedVariables false

theorem rows_nil (w : World) : Calls Try.prog 39 #[.pointer none] w fun e w' => e = .returned (.int .i64 0) ∧ w = w' := by
  go_enter Try.func39, Try.ntmps39
  go_wp2
  go_ret
  exact ⟨rfl, rfl⟩

theorem rows_of (w : World) (a : Addr) (s : Option Addr) (n c : Nat) (h : w.cell? a = some (.slice s n c)) : Calls Try.prog 39 #[.pointer (some a)] w fun e w' => e = .returned (.int .i64 n) ∧ w = w' := by
  go_enter Try.func39, Try.ntmps39
  go_wp2
  go_ret
  exact ⟨rfl, rfl⟩

/-- How many rows a pointer leads to. -/
def Wide (w : World) (p : Option Addr) (n : Nat) : Prop := Calls Try.prog 39 #[.pointer p] w fun e w' => e = .returned (.int .i64 n) ∧ w = w'

theorem wide_bare (w : World) (p : Option Addr) (h : Bare w p) : Wide w p 0 := by
  cases p with
  | none => exact rows_nil w
  | some a =>
    obtain ⟨b, rfl, h0, _⟩ := h a rfl
    exact rows_of w _ none 0 0 h0

theorem has_yes (w : World) (p : Option Addr) (n : Nat) (h : Wide w p n) (r : Int) (h0 : 0 ≤ r) (h1 : r < n) : Calls Try.prog 51 #[.pointer p, .int .i64 r] w fun e w' => e = .returned (.bool true) ∧ w = w' := by
  have H := Lib.hid h
  clear h
  have hd : decide (r < (n : Int)) = true := by simpa using h1
  go_enter Try.func51, Try.ntmps51
  go_wp2_with (go_at_call 39; refine (Calls.mono H.out ?_); rintro e w' ⟨rfl, rfl⟩)
  go_ret
  exact ⟨rfl, rfl⟩

theorem has_no (w : World) (p : Option Addr) (n : Nat) (h : Wide w p n) (r : Int) (hr : ¬ (0 ≤ r ∧ r < n)) : Calls Try.prog 51 #[.pointer p, .int .i64 r] w fun e w' => e = .returned (.bool false) ∧ w = w' := by
  have H := Lib.hid h
  clear h
  by_cases h0 : 0 ≤ r
  · have h1 : ¬ r < (n : Int) := fun e => hr ⟨h0, e⟩
    have hd : decide (r < (n : Int)) = false := by simpa using h1
    clear hr
    go_enter Try.func51, Try.ntmps51
    go_wp2_with (go_at_call 39; refine (Calls.mono H.out ?_); rintro e w' ⟨rfl, rfl⟩)
    go_ret
    exact ⟨rfl, rfl⟩
  · clear hr
    go_enter Try.func51, Try.ntmps51
    go_wp2_with (go_at_call 39; refine (Calls.mono H.out ?_); rintro e w' ⟨rfl, rfl⟩)
    go_ret
    exact ⟨rfl, rfl⟩

theorem len_no (w : World) (p : Option Addr) (n : Nat) (h : Wide w p n) (r : Int) (hr : ¬ (0 ≤ r ∧ r < n)) : Calls Try.prog 38 #[.pointer p, .int .i64 r] w fun e w' => e = .returned (.int .i64 0) ∧ w = w' := by
  have H := Lib.hid (has_no w p n h r hr)
  clear h hr
  go_enter Try.func38, Try.ntmps38
  go_wp2_with (go_at_call 51; refine (Calls.mono H.out ?_); rintro e w' ⟨rfl, rfl⟩)
  go_ret
  exact ⟨rfl, rfl⟩

section
variable {w : World} {F : Gm} {b L M cap : Nat} {S : List (List (K × Nat))}

theorem wide_at (h : At w F b L M cap S) : Wide w (some ⟨b, 0, none⟩) S.length := rows_of w _ _ _ _ (h.holds.cell b 0 _ h.ring.lines)

theorem len_ok (h : At w F b L M cap S) (r : Nat) (ns : List (K × Nat)) (hr : S[r]? = some ns) : Calls Try.prog 38 #[.pointer (some ⟨b, 0, none⟩), .int .i64 r] w fun e w' => e = .returned (.int .i64 ns.length) ∧ w = w' := by
  have hlt : r < S.length := (List.getElem?_eq_some_iff.1 hr).1
  have H := Lib.hid (has_yes w _ _ (wide_at h) r (by omega) (by omega))
  have c0 := h.holds.cell b 0 _ h.ring.lines
  have cn := h.holds.cell L _ _ (h.ring.cnt r ns hr)
  clear h hr
  generalize S.length = R at *
  generalize ns.length = m at *
  go_enter Try.func38, Try.ntmps38
  go_wp2_with (go_at_call 51; refine (Calls.mono H.out ?_); rintro e w' ⟨rfl, rfl⟩)
  go_ret
  exact ⟨rfl, rfl⟩
end

/-- What leave leaves. -/
def LeftLow (w : World) (F' : Gm) (M : Nat) (N : List (K × Nat)) (O : List Nat) (e : Ending) (w' : World) : Prop :=
  e = .returned (.tuple #[]) ∧ Holds w' F' ∧ MapOf Try.prog 9 kl w' M N ∧ Kept O w w'

theorem Holds.of_heap {w w' : World} {F : Gm} (h : Holds w F) (e : w'.heap = w.heap) : Holds w' F := h.kept fun b _ _ _ => by rw [e]

/-- leave, by what stands in the cells. -/
theorem leave_low (w : World) (F : Gm) (b L M R cap a pB po qB qo r n t : Nat) (x : K) (k3 k2 : Value) (hh : Holds w F)
    (c0 : F b 0 = some (.slice (some ⟨L, 0, none⟩) R cap)) (c1 : F b 1 = some (.map (some M))) (c2 : F b 2 = some (.int .i64 t))
    (a0 : F a 0 = some (Value.string x)) (a1 : F a 1 = some (.int .i64 r)) (a2 : F a 2 = some (.pointer (some ⟨pB, po, none⟩))) (a3 : F a 3 = some (.pointer (some ⟨qB, qo, none⟩)))
    (p3 : F pB (po + 3) = some k3) (q2 : F qB (qo + 2) = some k2) (cn : F L (r * 5 + 4) = some (.int .i64 n)) (hr : r < R)
    (h1 : ¬ pB = b) (h2 : ¬ qB = b) (h3 : ¬ pB = a) (h4 : ¬ qB = a) (h5 : ¬ L = b) (h6 : ¬ a = b) (h7 : ¬ L = a) (alp : Al (pB, po)) (alq : Al (qB, qo))
    (hn : 1 ≤ n ∧ n ≤ 4096) (ht : 1 ≤ t ∧ t ≤ 4096) (N1 N2 : List (K × Nat)) (hm : MapOf Try.prog 9 kl w M (N1 ++ (x, a) :: N2)) (hk : ((N1 ++ (x, a) :: N2).map (·.1)).Nodup) (hx : okK x) (hMo : M ≠ b ∧ M ≠ L ∧ M ≠ pB ∧ M ≠ qB)
    (O : List Nat) (hO : b ∈ O ∧ L ∈ O ∧ M ∈ O ∧ pB ∈ O ∧ qB ∈ O) :
    Calls Try.prog 57 #[.pointer (some ⟨b, 0, none⟩), .pointer (some ⟨a, 0, none⟩)] w
      (LeftLow w (upd (upd (laid F (pB, po) (qB, qo) (ptr (qB, qo)) (ptr (pB, po))) L (r * 5 + 4) (.int .i64 (n - 1 : Nat))) b 2 (.int .i64 (t - 1 : Nat))) M (N1 ++ N2) O) := by
  have HM := Lib.hid hm
  have HK := Lib.hid hk
  have HX := Lib.hid hx
  have HO := Lib.hid hO
  obtain ⟨m1, m2, m3, m4⟩ := hMo
  clear hm hk hx hO
  have alp' : po % 5 = 0 := alp
  have alq' : qo % 5 = 0 := alq
  have d0 := hh.cell _ _ _ c0
  have d1 := hh.cell _ _ _ a1
  have d2 := hh.cell _ _ _ a2
  have d3 := hh.cell _ _ _ a3
  have d4 := hh.cell _ _ _ p3
  have d5 := hh.free _ _ _ p3
  have d6 := hh.cell _ _ _ q2
  have d7 := hh.free _ _ _ q2
  have q2' : upd F pB (po + 3) (.pointer (some ⟨qB, qo, none⟩)) qB (qo + 2) = some k2 := by rw [upd_other (by omega)]; exact q2
  have hh1 := hh.set p3 (.pointer (some ⟨qB, qo, none⟩))
  have d8 := hh1.cell _ _ _ q2'
  have hh2 := (hh1.set q2' (.pointer (some ⟨pB, po, none⟩))).drew
  have HH := Lib.hid hh2
  have HM1 := Lib.hid (show MapOf Try.prog 9 kl (((w.setCell ⟨pB, po + 3, none⟩ (.pointer (some ⟨qB, qo, none⟩))).setCell ⟨qB, qo + 2, none⟩ (.pointer (some ⟨pB, po, none⟩))).drew) M (N1 ++ (x, a) :: N2) from
    HM.out.kept ((heap_setCell_other _ _ _ _ m4).trans (heap_setCell_other _ _ _ _ m3)))
  have HK1 := Lib.hid (show Kept O w (((w.setCell ⟨pB, po + 3, none⟩ (.pointer (some ⟨qB, qo, none⟩))).setCell ⟨qB, qo + 2, none⟩ (.pointer (some ⟨pB, po, none⟩))).drew) from
    (((Kept.refl O w).setCell HO.out.2.2.2.1 _).setCell HO.out.2.2.2.2 _).drew)
  clear hh hh1 hh2 q2'
  go_enter Try.func57, Try.ntmps57
  go_wp2
  go_region
  clear d0 d1 d2 d3 d4 d5 d6 d7 d8
  generalize ((w.setCell ⟨pB, po + 3, none⟩ (.pointer (some ⟨qB, qo, none⟩))).setCell ⟨qB, qo + 2, none⟩ (.pointer (some ⟨pB, po, none⟩))).drew = w1 at *
  generalize hF : upd (upd F pB (po + 3) (.pointer (some ⟨qB, qo, none⟩))) qB (qo + 2) (.pointer (some ⟨pB, po, none⟩)) = F1 at *
  have HF := Lib.hid hF
  clear hF
  have far : ∀ {y o : Nat} {v : Value}, F y o = some v → ¬ (y = pB ∧ o = po + 3) → ¬ (y = qB ∧ o = qo + 2) → F1 y o = some v := by
    intro y o v hv e1 e2
    rw [← HF.out, upd_other e2, upd_other e1]
    exact hv
  have b0' := far c0 (by omega) (by omega)
  have b1' := far c1 (by omega) (by omega)
  have b2' := far c2 (by omega) (by omega)
  have a0' := far a0 (by omega) (by omega)
  have a1' := far a1 (by omega) (by omega)
  have n' := far cn (by omega) (by omega)
  have e0 := HH.out.cell _ _ _ b0'
  have e1 := HH.out.cell _ _ _ b1'
  have e2 := HH.out.cell _ _ _ b2'
  have e3 := HH.out.free _ _ _ b2'
  have e4 := HH.out.cell _ _ _ a0'
  have e5 := HH.out.cell _ _ _ a1'
  have e6 := HH.out.cell _ _ _ n'
  have e7 := HH.out.free _ _ _ n'
  have u1 := HH.out.set n' (.int .i64 ((n : Int) - 1))
  have u2 := u1.set (b := b) (o := 2) (u := .int .i64 t) (by rw [upd_other (by omega)]; exact b2') (.int .i64 ((t : Int) - 1))
  have e8 := u1.cell _ _ _ (show upd F1 L (r * 5 + 4) (.int .i64 ((n : Int) - 1)) b 2 = some (.int .i64 t) from (upd_other (by omega)).trans b2')
  have e9 := u2.cell _ _ _ (show upd (upd F1 L (r * 5 + 4) (.int .i64 ((n : Int) - 1))) b 2 (.int .i64 ((t : Int) - 1)) b 1 = some (.map (some M)) from (upd_other (by omega)).trans ((upd_other (by omega)).trans b1'))
  have e10 := u2.cell _ _ _ (show upd (upd F1 L (r * 5 + 4) (.int .i64 ((n : Int) - 1))) b 2 (.int .i64 ((t : Int) - 1)) a 0 = some (Value.string x) from (upd_other (by omega)).trans ((upd_other (by omega)).trans a0'))
  have HU := Lib.hid u2
  have HM2 := Lib.hid (show MapOf Try.prog 9 kl (((w1.setCell ⟨L, r * 5 + 4, none⟩ (.int .i64 ((n : Int) - 1))).setCell ⟨b, 2, none⟩ (.int .i64 ((t : Int) - 1))).drew.drew) M (N1 ++ (x, a) :: N2) from
    HM1.out.kept ((heap_setCell_other _ _ _ _ m1).trans (heap_setCell_other _ _ _ _ m2)))
  have HK2 := Lib.hid ((((HK1.out.setCell (o := r * 5 + 4) HO.out.2.1 (.int .i64 ((n : Int) - 1))).setCell (o := 2) HO.out.1 (.int .i64 ((t : Int) - 1))).drew).drew)
  clear u1 u2
  clear far c0 c1 c2 a0 a1 a2 a3 p3 q2 cn b0' b1' b2' a0' a1' n'
  obtain ⟨w3, hrun, hm3, ht3⟩ := HM2.out.del laws HK.out HX.out 0
  have HM3 := Lib.hid hm3
  have HT3 := Lib.hid ht3
  have hrun' : (Builtin.delete_ #[77, 9] 0 #[.map (some M), Value.string x]).run Try.prog (((w1.setCell ⟨L, r * 5 + 4, none⟩ (.int .i64 ((n : Int) - 1))).setCell ⟨b, 2, none⟩ (.int .i64 ((t : Int) - 1))).drew.drew) = .ok (.tuple #[]) w3 := hrun
  clear hm3 ht3 hrun
  go_wp2
  go_region
  go_wp2
  go_region
  go_wp2
  go_end0
  refine ⟨rfl, ?_, HM3.out, HK2.out.trans (mapTurned_kept HT3.out HO.out.2.2.1)⟩
  have h1 : Holds w3 (upd (upd F1 L (r * 5 + 4) (.int .i64 ((n : Int) - 1))) b 2 (.int .i64 ((t : Int) - 1))) := by
    refine (HU.out.drew.drew).kept fun y o v hv => ?_
    have hg := HT3.out.grown
    have hlt := HU.out.lt hv
    refine hg.block y hlt ?_
    intro e
    cases e
    obtain ⟨cs, T, fr, hc⟩ := (HU.out.drew.drew).cells hv
    obtain ⟨es, cl, hmm⟩ := HM2.out.isMap
    rw [hmm] at hc
    simp at hc
  have e1 : ((n - 1 : Nat) : Int) = (n : Int) - 1 := by omega
  have e2 : ((t - 1 : Nat) : Int) = (t : Int) - 1 := by omega
  rw [e1, e2]
  unfold laid ptr
  rw [HF.out]
  exact h1
end Go.Proofs.Ytnjpdcoahojgbaa.RStr
