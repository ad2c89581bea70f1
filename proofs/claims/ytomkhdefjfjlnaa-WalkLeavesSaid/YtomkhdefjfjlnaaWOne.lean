/- Layer 4's laws: one, loops; words of a memory behind a store. -/
import Derived.Test.YtomkhdefjfjlnaaWMade
namespace Go.Proofs.Ytomkhdefjfjlnaa
open Go.ChangeShapes Go.WideShapes Go.ChangeAt Go.RowKit Go.Deep
open Extern.Stop (cell)
set_option linter.unusedVariables false

def oneW (i fl fr : Int) : List WordV := [⟨0, 0, 1, 1⟩, ⟨1, 0, 1, 2⟩, ⟨2, i, fl, fr⟩]

theorem words_new (w : World) (Ws : List WordV) (t : TypeId) : WordsAre (w.alloc (.cells (Ws.flatMap fun A => [Value.int .i64 A.fr, .int .i64 A.ix, .int .i64 A.fl, .int .i64 A.pp]).toArray t)) (some ⟨w.heap.size, 0, none⟩) Ws.length Ws := by
  refine ⟨rfl, .inr ⟨_, _, rfl, fun i A hi => ?_⟩⟩
  have key : ∀ (Ws : List WordV) (i j : Nat) (A : WordV), Ws[i]? = some A → j < 4 → (Ws.flatMap fun A => [Value.int .i64 A.fr, .int .i64 A.ix, .int .i64 A.fl, .int .i64 A.pp])[i * 4 + j]? = [Value.int .i64 A.fr, .int .i64 A.ix, .int .i64 A.fl, .int .i64 A.pp][j]? := by
    intro Ws
    induction Ws with
    | nil => intro i j A h; simp at h
    | cons B Ws ih =>
      intro i j A h hj
      rw [List.flatMap_cons]
      cases i with
      | zero =>
        simp at h
        subst h
        rw [List.getElem?_append_left (by simp; omega)]
        simp
      | succ i =>
        rw [List.getElem?_append_right (by simp; omega)]
        have e : (i + 1) * 4 + j - [Value.int .i64 B.fr, .int .i64 B.ix, .int .i64 B.fl, .int .i64 B.pp].length = i * 4 + j := by simp; omega
        rw [e]
        exact ih i j A (by simpa using h) hj
  have at' : ∀ j, j < 4 → (w.alloc (.cells (Ws.flatMap fun A => [Value.int .i64 A.fr, .int .i64 A.ix, .int .i64 A.fl, .int .i64 A.pp]).toArray t)).cell? ⟨w.heap.size, 0 + i * 4 + j, none⟩ = [Value.int .i64 A.fr, .int .i64 A.ix, .int .i64 A.fl, .int .i64 A.pp][j]? := fun j hj => by
    rw [cell_of_row _ w.heap.size (0 + i * 4 + j) _ t (0, 0) (heap_alloc_new w _), ← key Ws i j A hi hj]
    simp
  exact ⟨at' 0 (by omega), at' 1 (by omega), at' 2 (by omega), at' 3 (by omega)⟩

theorem one_ok (w : World) (i fl fr : Int) :
    Calls Try.prog 20 #[.int .i64 i, .int .i64 fl, .int .i64 fr] w fun e w' => e = .returned (.slice (some ⟨w.heap.size, 0, none⟩) 3 3) ∧ WordsAre w' (some ⟨w.heap.size, 0, none⟩) 3 (oneW i fl fr) ∧ w.grownBy w' none := by
  have HN := Lib.hid (words_new w (oneW i fl fr) 66)
  have HG := Lib.hid (fun o => World.grownBy_alloc w o none)
  go_enter Try.func20, Try.ntmps20
  go_wp2_with fail
  go_ret
  exact ⟨rfl, HN.out, HG.out _⟩

set_option maxHeartbeats 1000000 in
theorem loops_any (w : World) (s : Option Addr) (l c : Nat) (Ws : List WordV) (hW : WordsAre w s l Ws) (hl : l ≤ 1000) :
    Calls Try.prog 17 #[.slice s l c] w fun e w' => (∃ b, e = .returned (.bool b)) ∧ w.grownBy w' none := by
  have HW := Lib.hid hW
  clear hW
  go_enter Try.func17, Try.ntmps17
  go_wp2_with fail
  go_loopw [3, 8] (fun nv k wr => ∃ q t : Nat, q ≤ l ∧ k = .int .i64 q ∧ nv = .int .i64 t ∧ t ≤ q ∧ Hid (w.grownBy wr none)) (fun _ k _ => l - (intOf k).toNat)
  case atStart => exact ⟨0, 0, by omega, rfl, rfl, by omega, grown_refl _ _⟩
  case round =>
    obtain ⟨q, t, hq, rfl, rfl, ht, HG⟩ := hrel
    by_cases hlt : q < l
    · obtain ⟨A, g, o, hA, rfl, hat⟩ := HW.out.get q hlt
      obtain ⟨c0, c1, c2, c3⟩ := hat.below (below_of_grown HG.out (Nat.le_refl _) (by simp))
      have HG2 := Lib.hid (grown_trans HG.out (World.grownBy_alloc wr (.cells #[.int .i64 A.fr, .int .i64 A.ix, .int .i64 A.fl, .int .i64 A.pp] 66) none))
      have HY := Lib.hid (show WordB (wr.alloc (.cells #[.int .i64 A.fr, .int .i64 A.ix, .int .i64 A.fl, .int .i64 A.pp] 66)) wr.heap.size A from heap_alloc_new wr _)
      have hk := HY.out.at
      obtain ⟨k0, k1, k2, k3⟩ := hk
      have HK := Lib.hid (ref_kind_ok A.fl A.pp)
      clear hA hat
      by_cases hkk : kindOf A.fl = 1
      · have e0 : (kindOf A.fl == 1) = true := by simp [hkk]
        clear hkk
        generalize kindOf A.fl = kd at *
        go_wp2_with fail
        refine (HK.out _).mono ?_
        rintro e w3 ⟨rfl, h3⟩
        have HG3 := Lib.hid (grown_trans HG2.out (grown_of_below' h3))
        clear h3
        go_wp2_with fail
        go_roundw
        case rel => exact ⟨q + 1, t + 1, by omega, by go_num, by go_num, by omega, HG3.out⟩
        case measure => simp [intOf]; omega
      · have e0 : (kindOf A.fl == 1) = false := by simp [hkk]
        clear hkk
        generalize kindOf A.fl = kd at *
        go_wp2_with fail
        refine (HK.out _).mono ?_
        rintro e w3 ⟨rfl, h3⟩
        have HG3 := Lib.hid (grown_trans HG2.out (grown_of_below' h3))
        clear h3
        go_wp2_with fail
        go_roundw
        case rel => exact ⟨q + 1, t, by omega, by go_num, rfl, by omega, HG3.out⟩
        case measure => simp [intOf]; omega
    · obtain rfl : q = l := by omega
      go_wp2_with fail
      go_ret
      exact ⟨⟨_, rfl⟩, HG.out⟩

/-! Words behind a store. -/
theorem setL_length (n : Nat) (L : List UInt8) (f i v : Int) (hl : L.length = n * 4096) : (setL n L f i v).length = n * 4096 := by
  unfold setL
  split
  · rw [length_splice _ _ _ (by rw [bytesOf_length]; omega), hl]
  · exact hl

theorem word_splice_same {L : List UInt8} {o v : Nat} (h : o + 8 ≤ L.length) (hv : v < 18446744073709551616) : wordOf (((splice L o (bytesOf v)).drop o).take 8) = v := by
  have e := take_splice (L := L) (xs := bytesOf v) (o := o) (by rw [bytesOf_length]; exact h)
  rw [bytesOf_length] at e
  rw [e, wordOf_bytesOf v hv]
theorem word_splice_other {L xs : List UInt8} {o p : Nat} (h : o + xs.length ≤ L.length) (hx : xs.length = 8) (hp : p + 8 ≤ L.length) (hd : p + 8 ≤ o ∨ o + 8 ≤ p) : ((splice L o xs).drop p).take 8 = (L.drop p).take 8 := by
  apply List.ext_getElem?
  intro k
  rw [List.getElem?_take, List.getElem?_take]
  split
  · rw [List.getElem?_drop, List.getElem?_drop, get_splice _ _ _ h]
    split
    · rfl
    · rw [if_neg (by omega)]
  · rfl

theorem wordI_set {n : Nat} {L : List UInt8} {f i v : Int} (hl : L.length = n * 4096) (hf : 0 ≤ f ∧ f < n) (hi : 0 ≤ i ∧ i < 512) (hv : okU v) (g j : Int) :
    wordI n (setL n L f i v) g j = if g = f ∧ j = i then v else wordI n L g j := by
  have hs : setL n L f i v = splice L (f.toNat * 4096 + i.toNat * 8) (bytesOf v.toNat) := by unfold setL; rw [if_pos ⟨hf, hi⟩]
  rw [hs]
  have hv0 := hv.1
  have hv1 := hv.2
  unfold wordI wordV
  by_cases hr : (0 ≤ g ∧ g < n) ∧ (0 ≤ j ∧ j < 512)
  · rw [if_pos hr, if_pos hr]
    by_cases he : g = f ∧ j = i
    · rw [if_pos he]
      obtain ⟨rfl, rfl⟩ := he
      have := word_splice_same (L := L) (o := g.toNat * 4096 + j.toNat * 8) (v := v.toNat) (by omega) (by omega)
      show ((wordOf (((splice L (g.toNat * 4096 + j.toNat * 8) (bytesOf v.toNat)).drop (g.toNat * 4096 + j.toNat * 8)).take 8) : Nat) : Int) = v
      rw [this]
      omega
    · rw [if_neg he]
      have := word_splice_other (L := L) (xs := bytesOf v.toNat) (o := f.toNat * 4096 + i.toNat * 8) (p := g.toNat * 4096 + j.toNat * 8) (by rw [bytesOf_length]; omega) (bytesOf_length _) (by omega) (by omega)
      show ((wordOf (((splice L (f.toNat * 4096 + i.toNat * 8) (bytesOf v.toNat)).drop (g.toNat * 4096 + j.toNat * 8)).take 8) : Nat) : Int) = _
      rw [this]
  · rw [if_neg hr, if_neg hr, if_neg (by rintro ⟨rfl, rfl⟩; exact hr ⟨hf, hi⟩)]

theorem noL_length : noL.length = 8 * 4096 := List.length_replicate
theorem wordOf_noughts : ∀ k : Nat, wordOf (List.replicate k (0 : UInt8)) = 0
  | 0 => rfl
  | k + 1 => by rw [List.replicate_succ]; show (0 : UInt8).toNat + 256 * wordOf (List.replicate k 0) = 0; rw [wordOf_noughts k]; rfl
theorem wordI_noL (g j : Int) : wordI 8 noL g j = 0 := by
  unfold wordI wordV
  split
  · show ((wordOf ((noL.drop (g.toNat * 4096 + j.toNat * 8)).take 8) : Nat) : Int) = 0
    rw [noL, List.drop_replicate, List.take_replicate, wordOf_noughts]
    rfl
  · rfl
end Go.Proofs.Ytomkhdefjfjlnaa
