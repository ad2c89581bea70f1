/- An act on the document's own memory: what it answers, and what the bytes are behind it: the same as on the program's. -/
import Derived.Test.YtdkfgniajlbifaaRefC
namespace Go.Proofs.Ytdkfgniajlbifaa
open Go.ChangeShapes Go.WideShapes Go.ChangeAt Go.RowKit Go.Deep
open Extern.Stop (cell)
set_option linter.unusedVariables false

section
variable {w0 w : World} {r f n : Nat} {R : List Nat} {L : List UInt8}

theorem rsetByteE (h : RS w0 w r f n R L) (I J : Int) (i j : Nat) (x : Int) (hI : I = i) (hJ : J = j) (hi : i < n) (hj : j < 4096) (hx0 : 0 ≤ x) (hx1 : x < 256) :
    Calls Try.prog 31 #[.pointer (some ⟨r, 0, none⟩), .int .i64 I, .int .i64 J, .int .u8 x] w fun e w' => e = .returned (.bool true) ∧ RS w0 w' r f n R (splice L (i * 4096 + j) [b8 x]) ∧ Kept R w w' := by
  subst hI hJ
  exact rsetByte_ok h i j x hi hj hx0 hx1

theorem rsetWordE (h : RS w0 w r f n R L) (I J V : Int) (i j v : Nat) (hI : I = i) (hJ : J = j) (hV : V = v) (hi : i < n) (hj : j < 512) (hv : v < 18446744073709551616) :
    Calls Try.prog 32 #[.pointer (some ⟨r, 0, none⟩), .int .i64 I, .int .i64 J, .int .u64 V] w fun e w' => e = .returned (.bool true) ∧ RS w0 w' r f n R (splice L (i * 4096 + j * 8) (bytesOf v)) ∧ Kept R w w' := by
  subst hI hJ hV
  exact rsetWord_ok h i j v hi hj

theorem rzeroE (h : RS w0 w r f n R L) (I : Int) (i : Nat) (hI : I = i) (hi : i < n) :
    Calls Try.prog 33 #[.pointer (some ⟨r, 0, none⟩), .int .i64 I] w fun e w' => e = .returned (.bool true) ∧ RS w0 w' r f n R (splice L (i * 4096) zeroPage) ∧ Kept R w w' := by
  subst hI
  exact rzero_ok h i hi

theorem rcopyE (h : RS w0 w r f n R L) (I J : Int) (i j : Nat) (hI : I = i) (hJ : J = j) (hi : i < n) (hj : j < n) :
    Calls Try.prog 34 #[.pointer (some ⟨r, 0, none⟩), .int .i64 I, .int .i64 J] w fun e w' => e = .returned (.bool true) ∧ RS w0 w' r f n R (splice L (i * 4096) (pageOf L j)) ∧ Kept R w w' := by
  subst hI hJ
  exact rcopy_ok h i j hi hj

theorem rfillE (h : RS w0 w r f n R L) (I : Int) (i : Nat) (hI : I = i) (hi : i < n) (s : Option Addr) (l c : Nat) (bs : List UInt8) (hs : Src w s l bs) (hl63 : l ≤ 9223372036854775807) (hsep : l ≠ 0 → ∀ a, s = some a → a.block ∉ R) :
    Calls Try.prog 35 #[.pointer (some ⟨r, 0, none⟩), .int .i64 I, .slice s l c] w fun e w' => e = .returned (.bool true) ∧ RS w0 w' r f n R (splice L (i * 4096) (fillOf bs)) ∧ Kept R w w' := by
  subst hI
  exact rfill_ok h i hi s l c bs hs hl63 hsep
end

set_option maxHeartbeats 1000000 in
theorem like_st {w0 w : World} {r f n : Nat} {R : List Nat} {L : List UInt8} (h : RS w0 w r f n R L) (A : ActV) (k a b : Int) (v : Nat) (s : Option Addr) (l c : Nat) (bs : List UInt8)
    (hk : A.k = k) (ha : A.a = a) (hb : A.b = b) (hv : A.v = v) (hbs : A.bs = bs) (hsrc : Src w s l bs) (hl63 : l ≤ 9223372036854775807) (hsep : l ≠ 0 → ∀ a, s = some a → a.block ∉ R) (hv64 : v < 18446744073709551616) :
    Calls Try.prog 15 #[.pointer (some ⟨r, 0, none⟩), .agg #[.int .i64 k, .int .i64 a, .int .i64 b, .int .u64 v, .slice s l c]] w fun e w' =>
      e = .returned (.bool (actS n A L).1) ∧ RS w0 w' r f n R (actS n A L).2 ∧ Kept R w w' := by
  have HB : Hid (∀ o, RS w0 (w.alloc o) r f n R L) := fun o => h.grow (World.grownBy_alloc w o none)
  have HG : Hid (∀ o w', Kept R (w.alloc o) w' → Kept R w w') := fun o w' g => (Kept.none (World.grownBy_alloc w o none)).trans g (by simp)
  have HR : Hid (∀ o, Kept R w (w.alloc o)) := fun o => Kept.none (World.grownBy_alloc w o none)
  have HS : Hid (∀ o, Src (w.alloc o) s l bs) := fun o => hsrc.kept (World.grownBy_alloc w o none) (by simp)
  have HV := Lib.hid hv64
  have HSEP := Lib.hid hsep
  have HL63 := Lib.hid hl63
  clear hsrc hv64 hsep hl63
  have fin0 : ∀ (e : Ending) (w' : World), actS n A L = (false, L) → e = .returned (.bool false) → (∃ o, w' = w.alloc o) → e = .returned (.bool (actS n A L).1) ∧ RS w0 w' r f n R (actS n A L).2 ∧ Kept R w w' := by
    rintro e w' he rfl ⟨o, rfl⟩
    rw [he]
    exact ⟨rfl, HB.out o, HR.out o⟩
  have fin1 : ∀ (L' : List UInt8) (e : Ending) (w' : World), actS n A L = (true, L') → e = .returned (.bool true) → RS w0 w' r f n R L' → (∃ o, Kept R (w.alloc o) w') → e = .returned (.bool (actS n A L).1) ∧ RS w0 w' r f n R (actS n A L).2 ∧ Kept R w w' := by
    rintro L' e w' he rfl hs ⟨o, g⟩
    rw [he]
    exact ⟨rfl, hs, HG.out o _ g⟩
  have F0 := Lib.hid fin0
  have F1 := Lib.hid fin1
  clear h fin0 fin1 HR HG
  by_cases h0 : k = 0
  · subst h0
    by_cases hin : (0 ≤ a ∧ a < n) ∧ (0 ≤ b ∧ b < 4096)
    · have hs : actS n A L = (true, splice L (a.toNat * 4096 + b.toNat) [b8 ((v : Int) % 256)]) := by unfold actS; rw [if_pos hk, ha, hb, hv, if_pos hin]
      have HE := Lib.hid hs
      have HI := Lib.hid hin
      clear hs hin hk ha hb hv hbs
      go_enter Try.func15, Try.ntmps15
      go_wp2_with fail
      refine (rsetByteE (HB.out _) _ _ a.toNat b.toNat _ (by have := HI.out; omega) (by have := HI.out; omega) (by have := HI.out; omega) (by have := HI.out; omega) (by omega) (by omega)).mono ?_
      rintro e w' ⟨rfl, hw, hg⟩
      have HW := Lib.hid hw
      have HGG := Lib.hid hg
      clear hw hg
      go_wp2_with fail
      go_ret
      exact F1.out _ _ _ HE.out rfl HW.out ⟨_, HGG.out⟩
    · have hs : actS n A L = (false, L) := by unfold actS; rw [if_pos hk, ha, hb, if_neg hin]
      have HE := Lib.hid hs
      have HI := Lib.hid hin
      clear hs hin hk ha hb hv hbs
      go_enter Try.func15, Try.ntmps15
      go_wp2_with fail
      refine (rsetByte_no (HB.out _) _ _ _ HI.out).mono ?_
      rintro e w' ⟨rfl, rfl⟩
      go_wp2_with fail
      go_ret
      exact F0.out _ _ HE.out rfl ⟨_, rfl⟩
  have b0 : (k == 0) = false := by simpa using h0
  by_cases h1 : k = 1
  · subst h1
    by_cases hin : (0 ≤ a ∧ a < n) ∧ (0 ≤ b ∧ b < 512)
    · have hs : actS n A L = (true, splice L (a.toNat * 4096 + b.toNat * 8) (bytesOf v)) := by unfold actS; rw [if_neg (by omega), if_pos hk, ha, hb, hv, if_pos hin]
      have HE := Lib.hid hs
      have HI := Lib.hid hin
      clear hs hin hk ha hb hv hbs
      go_enter Try.func15, Try.ntmps15
      go_wp2_with fail
      refine (rsetWordE (HB.out _) _ _ _ a.toNat b.toNat v (by have := HI.out; omega) (by have := HI.out; omega) rfl (by have := HI.out; omega) (by have := HI.out; omega) HV.out).mono ?_
      rintro e w' ⟨rfl, hw, hg⟩
      have HW := Lib.hid hw
      have HGG := Lib.hid hg
      clear hw hg
      go_wp2_with fail
      go_ret
      exact F1.out _ _ _ HE.out rfl HW.out ⟨_, HGG.out⟩
    · have hs : actS n A L = (false, L) := by unfold actS; rw [if_neg (by omega), if_pos hk, ha, hb, if_neg hin]
      have HE := Lib.hid hs
      have HI := Lib.hid hin
      clear hs hin hk ha hb hv hbs
      go_enter Try.func15, Try.ntmps15
      go_wp2_with fail
      refine (rsetWord_no (HB.out _) _ _ _ HI.out).mono ?_
      rintro e w' ⟨rfl, rfl⟩
      go_wp2_with fail
      go_ret
      exact F0.out _ _ HE.out rfl ⟨_, rfl⟩
  have b1 : (k == 1) = false := by simpa using h1
  by_cases h2 : k = 2
  · subst h2
    by_cases hin : 0 ≤ a ∧ a < n
    · have hs : actS n A L = (true, splice L (a.toNat * 4096) zeroPage) := by unfold actS; rw [if_neg (by omega), if_neg (by omega), if_pos hk, ha, if_pos hin]
      have HE := Lib.hid hs
      have HI := Lib.hid hin
      clear hs hin hk ha hb hv hbs
      go_enter Try.func15, Try.ntmps15
      go_wp2_with fail
      refine (rzeroE (HB.out _) _ a.toNat (by have := HI.out; omega) (by have := HI.out; omega)).mono ?_
      rintro e w' ⟨rfl, hw, hg⟩
      have HW := Lib.hid hw
      have HGG := Lib.hid hg
      clear hw hg
      go_wp2_with fail
      go_ret
      exact F1.out _ _ _ HE.out rfl HW.out ⟨_, HGG.out⟩
    · have hs : actS n A L = (false, L) := by unfold actS; rw [if_neg (by omega), if_neg (by omega), if_pos hk, ha, if_neg hin]
      have HE := Lib.hid hs
      have HI := Lib.hid hin
      clear hs hin hk ha hb hv hbs
      go_enter Try.func15, Try.ntmps15
      go_wp2_with fail
      refine (rzero_no (HB.out _) _ HI.out).mono ?_
      rintro e w' ⟨rfl, rfl⟩
      go_wp2_with fail
      go_ret
      exact F0.out _ _ HE.out rfl ⟨_, rfl⟩
  have b2 : (k == 2) = false := by simpa using h2
  by_cases h3 : k = 3
  · subst h3
    by_cases hin : (0 ≤ a ∧ a < n) ∧ (0 ≤ b ∧ b < n)
    · have hs : actS n A L = (true, splice L (a.toNat * 4096) (pageOf L b.toNat)) := by unfold actS; rw [if_neg (by omega), if_neg (by omega), if_neg (by omega), if_pos hk, ha, hb, if_pos hin]
      have HE := Lib.hid hs
      have HI := Lib.hid hin
      clear hs hin hk ha hb hv hbs
      go_enter Try.func15, Try.ntmps15
      go_wp2_with fail
      refine (rcopyE (HB.out _) _ _ a.toNat b.toNat (by have := HI.out; omega) (by have := HI.out; omega) (by have := HI.out; omega) (by have := HI.out; omega)).mono ?_
      rintro e w' ⟨rfl, hw, hg⟩
      have HW := Lib.hid hw
      have HGG := Lib.hid hg
      clear hw hg
      go_wp2_with fail
      go_ret
      exact F1.out _ _ _ HE.out rfl HW.out ⟨_, HGG.out⟩
    · have hs : actS n A L = (false, L) := by unfold actS; rw [if_neg (by omega), if_neg (by omega), if_neg (by omega), if_pos hk, ha, hb, if_neg hin]
      have HE := Lib.hid hs
      have HI := Lib.hid hin
      clear hs hin hk ha hb hv hbs
      go_enter Try.func15, Try.ntmps15
      go_wp2_with fail
      refine (rcopy_no (HB.out _) _ _ HI.out).mono ?_
      rintro e w' ⟨rfl, rfl⟩
      go_wp2_with fail
      go_ret
      exact F0.out _ _ HE.out rfl ⟨_, rfl⟩
  have b3 : (k == 3) = false := by simpa using h3
  by_cases h4 : k = 4
  · subst h4
    by_cases hin : 0 ≤ a ∧ a < n
    · have hs : actS n A L = (true, splice L (a.toNat * 4096) (fillOf bs)) := by unfold actS; rw [if_neg (by omega), if_neg (by omega), if_neg (by omega), if_neg (by omega), if_pos hk, ha, hbs, if_pos hin]
      have HE := Lib.hid hs
      have HI := Lib.hid hin
      clear hs hin hk ha hb hv hbs
      go_enter Try.func15, Try.ntmps15
      go_wp2_with fail
      refine (rfillE (HB.out _) _ a.toNat (by have := HI.out; omega) (by have := HI.out; omega) s l c bs (HS.out _) HL63.out HSEP.out).mono ?_
      rintro e w' ⟨rfl, hw, hg⟩
      have HW := Lib.hid hw
      have HGG := Lib.hid hg
      clear hw hg
      go_wp2_with fail
      go_ret
      exact F1.out _ _ _ HE.out rfl HW.out ⟨_, HGG.out⟩
    · have hs : actS n A L = (false, L) := by unfold actS; rw [if_neg (by omega), if_neg (by omega), if_neg (by omega), if_neg (by omega), if_pos hk, ha, if_neg hin]
      have HE := Lib.hid hs
      have HI := Lib.hid hin
      clear hs hin hk ha hb hv hbs
      go_enter Try.func15, Try.ntmps15
      go_wp2_with fail
      refine (rfill_no (HB.out _) _ _ _ _ HI.out).mono ?_
      rintro e w' ⟨rfl, rfl⟩
      go_wp2_with fail
      go_ret
      exact F0.out _ _ HE.out rfl ⟨_, rfl⟩
  have b4 : (k == 4) = false := by simpa using h4
  have hs : actS n A L = (false, L) := by unfold actS; rw [if_neg (by omega), if_neg (by omega), if_neg (by omega), if_neg (by omega), if_neg (by omega)]
  have HE := Lib.hid hs
  clear h0 h1 h2 h3 h4 hs hk ha hb hv hbs
  go_enter Try.func15, Try.ntmps15
  go_wp2
  go_ret
  exact F0.out _ _ HE.out rfl ⟨_, rfl⟩

end Go.Proofs.Ytdkfgniajlbifaa
