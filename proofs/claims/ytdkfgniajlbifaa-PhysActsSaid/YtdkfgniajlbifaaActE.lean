/- An act on a memory: what it answers, and what the bytes are behind it. -/
import Derived.Test.YtdkfgniajlbifaaOwn
namespace Go.Proofs.Ytdkfgniajlbifaa
open Go.ChangeShapes Go.WideShapes Go.ChangeAt Go.RowKit
open Extern.Stop (cell)
set_option linter.unusedVariables false

/-- What an act answers, and what it leaves, on n frames whose bytes are L. -/
def actS (n : Nat) (A : ActV) (L : List UInt8) : Bool × List UInt8 :=
  if A.k = 0 then if (0 ≤ A.a ∧ A.a < n) ∧ (0 ≤ A.b ∧ A.b < 4096) then (true, splice L (A.a.toNat * 4096 + A.b.toNat) [b8 ((A.v : Int) % 256)]) else (false, L)
  else if A.k = 1 then if (0 ≤ A.a ∧ A.a < n) ∧ (0 ≤ A.b ∧ A.b < 512) then (true, splice L (A.a.toNat * 4096 + A.b.toNat * 8) (bytesOf A.v)) else (false, L)
  else if A.k = 2 then if 0 ≤ A.a ∧ A.a < n then (true, splice L (A.a.toNat * 4096) zeroPage) else (false, L)
  else if A.k = 3 then if (0 ≤ A.a ∧ A.a < n) ∧ (0 ≤ A.b ∧ A.b < n) then (true, splice L (A.a.toNat * 4096) (pageOf L A.b.toNat)) else (false, L)
  else if A.k = 4 then if 0 ≤ A.a ∧ A.a < n then (true, splice L (A.a.toNat * 4096) (fillOf A.bs)) else (false, L)
  else (false, L)

theorem actS_length {n : Nat} {A : ActV} {L : List UInt8} (h : L.length = n * 4096) : (actS n A L).2.length = n * 4096 := by
  unfold actS
  repeat' split
  all_goals first | exact h | skip
  · rw [length_splice _ _ _ (by simp; omega), h]
  · rw [length_splice _ _ _ (by rw [bytesOf_length]; omega), h]
  · rw [length_splice _ _ _ (by rw [zeroPage_length]; omega), h]
  · rw [length_splice _ _ _ (by rw [pageOf_length h _ (by omega)]; omega), h]
  · rw [length_splice _ _ _ (by rw [fillOf_length]; omega), h]

/-- What is done to a frame is seen in no other one. -/
theorem actS_apart {n : Nat} {A : ActV} {L : List UInt8} (h : L.length = n * 4096) (j : Nat) (hj : j < n) (hne : (j : Int) ≠ A.a) : pageOf (actS n A L).2 j = pageOf L j := by
  unfold actS
  repeat' split
  all_goals first | rfl | skip
  · exact pageOf_splice_other h (by omega) hj (by omega) (by simp; omega)
  · exact pageOf_splice_other h (by omega) hj (by omega) (by rw [bytesOf_length]; omega)
  · exact pageOf_whole_other h (by omega) hj (by omega) zeroPage_length
  · exact pageOf_whole_other h (by omega) hj (by omega) (pageOf_length h _ (by omega))
  · exact pageOf_whole_other h (by omega) hj (by omega) (fillOf_length _)

theorem St.noFrame {w0 w : World} {m d n : Nat} {L : List UInt8} (h : St w0 w m d n L) (i : Int) (hi : ¬ (0 ≤ i ∧ i < n)) : NoFrame w (some ⟨m, 0, none⟩) i := find_out h.mem i hi

theorem St.finds {w0 w : World} {m d n : Nat} {L : List UInt8} (h : St w0 w m d n L) (i : Int) : ∃ x, Finds w (some ⟨m, 0, none⟩) i x ∧ (¬ (0 ≤ i ∧ i < n) → x = none) := by
  by_cases hi : 0 ≤ i ∧ i < n
  · obtain ⟨a, rfl⟩ := Int.eq_ofNat_of_zero_le hi.1
    exact ⟨_, find_ok h.mem a (by omega), fun h => absurd hi h⟩
  · exact ⟨none, find_out h.mem i hi, fun _ => rfl⟩

theorem St.noWord {w0 w : World} {m d n : Nat} {L : List UInt8} (h : St w0 w m d n L) (i j : Int) (hi : ¬ ((0 ≤ i ∧ i < n) ∧ (0 ≤ j ∧ j < 512))) : NoWord w (some ⟨m, 0, none⟩) i j := by
  by_cases h1 : 0 ≤ i ∧ i < n
  · obtain ⟨a, rfl⟩ := Int.eq_ofNat_of_zero_le h1.1
    exact findWord_out h.mem a j (by omega) (by omega)
  · exact findWord_no _ i j _ (find_out h.mem i h1)

theorem St.setByteFails {w0 w : World} {m d n : Nat} {L : List UInt8} (h : St w0 w m d n L) (i j x : Int) (hi : ¬ ((0 ≤ i ∧ i < n) ∧ (0 ≤ j ∧ j < 4096))) :
    Calls Try.prog 27 #[.pointer (some ⟨m, 0, none⟩), .int .i64 i, .int .i64 j, .int .u8 x] w fun e w' => e = .returned (.bool false) ∧ w = w' := by
  by_cases h1 : 0 ≤ i ∧ i < n
  · obtain ⟨a, rfl⟩ := Int.eq_ofNat_of_zero_le h1.1
    exact setByte_out h.mem a j x (by omega) (by omega)
  · exact setByte_no _ _ _ _ _ (find_out h.mem i h1)

set_option maxHeartbeats 1000000 in
theorem act_st {w0 w : World} {m d n : Nat} {L : List UInt8} (h : St w0 w m d n L) (A : ActV) (k a b : Int) (v : Nat) (s : Option Addr) (l c : Nat) (bs : List UInt8)
    (hk : A.k = k) (ha : A.a = a) (hb : A.b = b) (hv : A.v = v) (hbs : A.bs = bs) (hsrc : Src w s l bs) (hv64 : v < 18446744073709551616) :
    Calls Try.prog 14 #[.pointer (some ⟨m, 0, none⟩), .agg #[.int .i64 k, .int .i64 a, .int .i64 b, .int .u64 v, .slice s l c]] w fun e w' =>
      e = .returned (.bool (actS n A L).1) ∧ St w0 w' m d n (actS n A L).2 ∧ w.grownBy w' (some d) := by
  have HB : Hid (∀ o, St w0 (w.alloc o) m d n L) := fun o => h.grow (World.grownBy_alloc w o none)
  have HG : Hid (∀ o w', (w.alloc o).grownBy w' (some d) → w.grownBy w' (some d)) := fun o w' g => grown_trans (grown_none (World.grownBy_alloc w o none)) g
  have HR : Hid (∀ o, w.grownBy (w.alloc o) (some d)) := fun o => World.grownBy_alloc w o _
  have HS : Hid (∀ o, Src (w.alloc o) s l bs) := fun o => hsrc.kept (World.grownBy_alloc w o none) (by simp)
  have HV := Lib.hid hv64
  clear hsrc hv64
  have fin0 : ∀ (e : Ending) (w' : World), actS n A L = (false, L) → e = .returned (.bool false) → (∃ o, w' = w.alloc o) → e = .returned (.bool (actS n A L).1) ∧ St w0 w' m d n (actS n A L).2 ∧ w.grownBy w' (some d) := by
    rintro e w' he rfl ⟨o, rfl⟩
    rw [he]
    exact ⟨rfl, HB.out o, HR.out o⟩
  have fin1 : ∀ (L' : List UInt8) (e : Ending) (w' : World), actS n A L = (true, L') → e = .returned (.bool true) → St w0 w' m d n L' → (∃ o, (w.alloc o).grownBy w' (some d)) → e = .returned (.bool (actS n A L).1) ∧ St w0 w' m d n (actS n A L).2 ∧ w.grownBy w' (some d) := by
    rintro L' e w' he rfl hs ⟨o, g⟩
    rw [he]
    exact ⟨rfl, hs, HG.out o _ g⟩
  have F0 := Lib.hid fin0
  have F1 := Lib.hid fin1
  clear h fin0 fin1 HR HG
  by_cases h0 : k = 0
  · subst h0
    by_cases hin : (0 ≤ a ∧ a < n) ∧ (0 ≤ b ∧ b < 4096)
    · have hs : actS n A L = (true, splice L (a.toNat * 4096 + b.toNat) [b8 ((v : Int) % 256)]) := by unfold actS; rw [if_pos hk, ha, hb, hv, if_pos hin]
      have HE := Lib.hid hs
      have HI := Lib.hid hin
      clear hs hin hk ha hb hv hbs
      go_enter Try.func14, Try.ntmps14
      go_wp2_with fail
      refine (setByteE (HB.out _) _ _ a.toNat b.toNat _ (by have := HI.out; omega) (by have := HI.out; omega) (by have := HI.out; omega) (by have := HI.out; omega) (by omega) (by omega)).mono ?_
      rintro e w' ⟨rfl, hw, hg⟩
      have HW := Lib.hid hw
      have HGG := Lib.hid hg
      clear hw hg
      go_wp2_with fail
      go_ret
      exact F1.out _ _ _ HE.out rfl HW.out ⟨_, HGG.out⟩
    · have hs : actS n A L = (false, L) := by unfold actS; rw [if_pos hk, ha, hb, if_neg hin]
      have HE := Lib.hid hs
      have HI := Lib.hid hin
      clear hs hin hk ha hb hv hbs
      go_enter Try.func14, Try.ntmps14
      go_wp2_with fail
      refine ((HB.out _).setByteFails _ _ _ HI.out).mono ?_
      rintro e w' ⟨rfl, rfl⟩
      go_wp2_with fail
      go_ret
      exact F0.out _ _ HE.out rfl ⟨_, rfl⟩
  have b0 : (k == 0) = false := by simpa using h0
  by_cases h1 : k = 1
  · subst h1
    by_cases hin : (0 ≤ a ∧ a < n) ∧ (0 ≤ b ∧ b < 512)
    · have hs : actS n A L = (true, splice L (a.toNat * 4096 + b.toNat * 8) (bytesOf v)) := by unfold actS; rw [if_neg (by omega), if_pos hk, ha, hb, hv, if_pos hin]
      have HE := Lib.hid hs
      have HI := Lib.hid hin
      clear hs hin hk ha hb hv hbs
      go_enter Try.func14, Try.ntmps14
      go_wp2_with fail
      refine (setWordE (HB.out _) _ _ _ a.toNat b.toNat v (by have := HI.out; omega) (by have := HI.out; omega) rfl (by have := HI.out; omega) (by have := HI.out; omega) HV.out).mono ?_
      rintro e w' ⟨rfl, hw, hg⟩
      have HW := Lib.hid hw
      have HGG := Lib.hid hg
      clear hw hg
      go_wp2_with fail
      go_ret
      exact F1.out _ _ _ HE.out rfl HW.out ⟨_, HGG.out⟩
    · have hs : actS n A L = (false, L) := by unfold actS; rw [if_neg (by omega), if_pos hk, ha, hb, if_neg hin]
      have HE := Lib.hid hs
      have HI := Lib.hid hin
      clear hs hin hk ha hb hv hbs
      go_enter Try.func14, Try.ntmps14
      go_wp2_with fail
      refine (setWord_no _ _ _ _ _ ((HB.out _).noWord _ _ HI.out)).mono ?_
      rintro e w' ⟨rfl, rfl⟩
      go_wp2_with fail
      go_ret
      exact F0.out _ _ HE.out rfl ⟨_, rfl⟩
  have b1 : (k == 1) = false := by simpa using h1
  by_cases h2 : k = 2
  · subst h2
    by_cases hin : 0 ≤ a ∧ a < n
    · have hs : actS n A L = (true, splice L (a.toNat * 4096) zeroPage) := by unfold actS; rw [if_neg (by omega), if_neg (by omega), if_pos hk, ha, if_pos hin]
      have HE := Lib.hid hs
      have HI := Lib.hid hin
      clear hs hin hk ha hb hv hbs
      go_enter Try.func14, Try.ntmps14
      go_wp2_with fail
      refine (zeroE (HB.out _) _ a.toNat (by have := HI.out; omega) (by have := HI.out; omega)).mono ?_
      rintro e w' ⟨rfl, hw, hg⟩
      have HW := Lib.hid hw
      have HGG := Lib.hid hg
      clear hw hg
      go_wp2_with fail
      go_ret
      exact F1.out _ _ _ HE.out rfl HW.out ⟨_, HGG.out⟩
    · have hs : actS n A L = (false, L) := by unfold actS; rw [if_neg (by omega), if_neg (by omega), if_pos hk, ha, if_neg hin]
      have HE := Lib.hid hs
      have HI := Lib.hid hin
      clear hs hin hk ha hb hv hbs
      go_enter Try.func14, Try.ntmps14
      go_wp2_with fail
      refine (zero_no _ _ _ ((HB.out _).noFrame _ HI.out)).mono ?_
      rintro e w' ⟨rfl, rfl⟩
      go_wp2_with fail
      go_ret
      exact F0.out _ _ HE.out rfl ⟨_, rfl⟩
  have b2 : (k == 2) = false := by simpa using h2
  by_cases h3 : k = 3
  · subst h3
    by_cases hin : (0 ≤ a ∧ a < n) ∧ (0 ≤ b ∧ b < n)
    · have hs : actS n A L = (true, splice L (a.toNat * 4096) (pageOf L b.toNat)) := by unfold actS; rw [if_neg (by omega), if_neg (by omega), if_neg (by omega), if_pos hk, ha, hb, if_pos hin]
      have HE := Lib.hid hs
      have HI := Lib.hid hin
      clear hs hin hk ha hb hv hbs
      go_enter Try.func14, Try.ntmps14
      go_wp2_with fail
      refine (copyE (HB.out _) _ _ a.toNat b.toNat (by have := HI.out; omega) (by have := HI.out; omega) (by have := HI.out; omega) (by have := HI.out; omega)).mono ?_
      rintro e w' ⟨rfl, hw, hg⟩
      have HW := Lib.hid hw
      have HGG := Lib.hid hg
      clear hw hg
      go_wp2_with fail
      go_ret
      exact F1.out _ _ _ HE.out rfl HW.out ⟨_, HGG.out⟩
    · have hs : actS n A L = (false, L) := by unfold actS; rw [if_neg (by omega), if_neg (by omega), if_neg (by omega), if_pos hk, ha, hb, if_neg hin]
      have HE := Lib.hid hs
      have HI := Lib.hid hin
      have HC : Hid (∀ o, Calls Try.prog 29 #[.pointer (some ⟨m, 0, none⟩), .int .i64 a, .int .i64 b] (w.alloc o) fun e w' => e = .returned (.bool false) ∧ w.alloc o = w') := by
        intro o
        obtain ⟨x, hx, hx0⟩ := (HB.out o).finds a
        obtain ⟨y, hy, hy0⟩ := (HB.out o).finds b
        exact copy_no _ x y a b _ hx hy (by
          by_cases h : 0 ≤ a ∧ a < n
          · exact .inr (hy0 fun hb => HI.out ⟨h, hb⟩)
          · exact .inl (hx0 h))
      clear hs hin hk ha hb hv hbs
      go_enter Try.func14, Try.ntmps14
      go_wp2_with fail
      refine (HC.out _).mono ?_
      rintro e w' ⟨rfl, rfl⟩
      go_wp2_with fail
      go_ret
      exact F0.out _ _ HE.out rfl ⟨_, rfl⟩
  have b3 : (k == 3) = false := by simpa using h3
  by_cases h4 : k = 4
  · subst h4
    by_cases hin : 0 ≤ a ∧ a < n
    · have hs : actS n A L = (true, splice L (a.toNat * 4096) (fillOf bs)) := by unfold actS; rw [if_neg (by omega), if_neg (by omega), if_neg (by omega), if_neg (by omega), if_pos hk, ha, hbs, if_pos hin]
      have HE := Lib.hid hs
      have HI := Lib.hid hin
      clear hs hin hk ha hb hv hbs
      go_enter Try.func14, Try.ntmps14
      go_wp2_with fail
      refine (fillE (HB.out _) _ a.toNat (by have := HI.out; omega) (by have := HI.out; omega) s l c bs (HS.out _)).mono ?_
      rintro e w' ⟨rfl, hw, hg⟩
      have HW := Lib.hid hw
      have HGG := Lib.hid hg
      clear hw hg
      go_wp2_with fail
      go_ret
      exact F1.out _ _ _ HE.out rfl HW.out ⟨_, HGG.out⟩
    · have hs : actS n A L = (false, L) := by unfold actS; rw [if_neg (by omega), if_neg (by omega), if_neg (by omega), if_neg (by omega), if_pos hk, ha, if_neg hin]
      have HE := Lib.hid hs
      have HI := Lib.hid hin
      clear hs hin hk ha hb hv hbs
      go_enter Try.func14, Try.ntmps14
      go_wp2_with fail
      refine (fill_no _ _ _ _ _ _ ((HB.out _).noFrame _ HI.out)).mono ?_
      rintro e w' ⟨rfl, rfl⟩
      go_wp2_with fail
      go_ret
      exact F0.out _ _ HE.out rfl ⟨_, rfl⟩
  have b4 : (k == 4) = false := by simpa using h4
  have hs : actS n A L = (false, L) := by unfold actS; rw [if_neg (by omega), if_neg (by omega), if_neg (by omega), if_neg (by omega), if_neg (by omega)]
  have HE := Lib.hid hs
  clear h0 h1 h2 h3 h4 hs hk ha hb hv hbs
  go_enter Try.func14, Try.ntmps14
  go_wp2
  go_ret
  exact F0.out _ _ HE.out rfl ⟨_, rfl⟩

/-- An act, met with its five cells. -/
theorem actE {w0 w : World} {m d n : Nat} {L : List UInt8} (h : St w0 w m d n L) (A : ActV) (hA : ActIs w A [.int .i64 A.k, .int .i64 A.a, .int .i64 A.b, .int .u64 A.v, .slice A.s A.l A.c]) :
    Calls Try.prog 14 #[.pointer (some ⟨m, 0, none⟩), .agg #[.int .i64 A.k, .int .i64 A.a, .int .i64 A.b, .int .u64 A.v, .slice A.s A.l A.c]] w fun e w' =>
      e = .returned (.bool (actS n A L).1) ∧ St w0 w' m d n (actS n A L).2 ∧ w.grownBy w' (some d) :=
  act_st h A _ _ _ _ _ _ _ _ rfl rfl rfl rfl rfl hA.src hA.v
end Go.Proofs.Ytdkfgniajlbifaa
