/- without, with, and Ints: numbers without one, with one more, and two slices held against each other. -/
import Derived.Test.YtnjpdcoahojgbaaRBare
import Derived.Test.YtnjpdcoahojgbaaROrder
namespace Go.Proofs.Ytnjpdcoahojgbaa.RInt
open Go.ChangeShapes Go.WideShapes Go.ChangeAt Go.RowKit
set_option linter.unusedVariables false

theorem without_of (w : World) (s : Option Addr) (l c : Nat) (xs : List Int) (hl : l ≤ 5000) (h : Ints w s l xs) (n : Int) :
    Calls Try.prog 34 #[.slice s l c, .int .i64 n] w (Listed w (sieve n xs)) := by
  have HI := Lib.hid h
  have HLEN := Lib.hid h.len
  clear h
  go_enter Try.func34, Try.ntmps34
  go_wp2_with fail
  go_loopw [10, 5] (fun i v wr => ∃ q : Nat, q ≤ l ∧ i = .int .i64 q ∧ Hid (Nums wr w.heap.size v (sieve n (xs.take q))) ∧ Hid (Below w.heap.size w wr)) (fun i _ _ => l - (intOf i).toNat)
  case atStart => exact ⟨0, by omega, rfl, Nums.nil _ _, Below.refl _ _⟩
  case round =>
    obtain ⟨q, hq, rfl, HV, HB⟩ := hrel
    obtain ⟨a7, c7, rfl⟩ := HV.out.form
    by_cases hlq : q < l
    · obtain ⟨y, hy⟩ : ∃ y, xs[q]? = some y := ⟨_, List.getElem?_eq_getElem (by rw [HLEN.out]; exact hlq)⟩
      have htk : xs.take (q + 1) = xs.take q ++ [y] := by rw [List.take_add_one, hy]; rfl
      have hsl := sieve_len n (xs.take q)
      have hsl2 : (xs.take q).length ≤ q := List.length_take_le _ _
      obtain ⟨g4, o4, rfl, hc4⟩ : ∃ g4 o4, s = some ⟨g4, o4, none⟩ ∧ wr.cell? ⟨g4, o4 + q, none⟩ = some (.int .i64 y) := by
        rcases (HI.out.below HB.out).cells with h0 | ⟨g4, o4, hs, hc⟩
        · omega
        · exact ⟨g4, o4, hs, hc q y hy⟩
      have HT := Lib.hid htk
      clear hy htk
      by_cases hyn : y = n
      · have hne : (y != n) = false := by simp [hyn]
        have HY := Lib.hid hyn
        clear hyn
        go_wp2
        go_roundw
        case rel => exact ⟨q + 1, by omega, by go_num, by show Nums _ _ _ _; rw [HT.out, sieve_snoc, if_pos HY.out]; exact HV.out, HB⟩
        case measure => simp [intOf]; omega
      · have hne : (y != n) = true := by simp [hyn]
        have HY := Lib.hid hyn
        clear hyn
        go_wp2_with (at_builtin; refine wpList_num _ rfl _ _ rfl w.heap.size _ _ y (by rfl) HV.out wr.heap.size _ (by rfl) rfl (by omega) HB.out.size ?_; intro g7 cap7 w7 hown7 hk7 hat7 hlt7)
        have h7 := Lib.hid hown7
        have k7 := Lib.hid hk7
        clear hown7 hk7
        go_wp2
        go_roundw
        case rel =>
          refine ⟨q + 1, by omega, by go_num, ?_, ?_⟩
          · show Nums _ _ _ _
            rw [HT.out, sieve_snoc, if_neg HY.out]
            exact h7.out
          · exact HB.out.trans (k7.out.below _ HB.out.size fun g hg => (HV.out.lt (by simpa using hg)).1)
        case measure => simp [intOf]; omega
    · obtain rfl : q = l := by omega
      have hall : xs.take q = xs := List.take_of_length_le (by rw [HLEN.out]; exact Nat.le_refl _)
      have HALL := Lib.hid hall
      clear hq hlq hall
      go_wp2
      go_ret
      refine ⟨_, rfl, ?_, HB.out⟩
      rw [HALL.out] at HV ⊢
      exact HV.out

theorem with_of (w : World) (s : Option Addr) (l c : Nat) (xs : List Int) (hl : l ≤ 5000) (h : Ints w s l xs) (n : Int) :
    Calls Try.prog 33 #[.slice s l c, .int .i64 n] w (Listed w (sieve n xs ++ [n])) := by
  have HO := Lib.hid (without_of w s l c xs hl h n)
  have hlen : (sieve n xs).length ≤ 5000 := by have := sieve_len n xs; have := h.len; omega
  clear h
  go_enter Try.func33, Try.ntmps33
  go_wp2_with fail
  refine HO.out.mono ?_
  rintro e w1 ⟨v, rfl, hn, hb⟩
  obtain ⟨a7, c7, rfl⟩ := hn.form
  have HV := Lib.hid hn
  have HB := Lib.hid hb
  clear hn hb
  go_wp2_with (at_builtin; refine wpList_num _ rfl _ _ rfl w.heap.size _ _ n (by rfl) HV.out w1.heap.size _ (by rfl) rfl (by omega) HB.out.size ?_; intro g7 cap7 w7 hown7 hk7 hat7 hlt7)
  have h7 := Lib.hid hown7
  have k7 := Lib.hid hk7
  clear hown7 hk7
  go_wp2
  go_ret
  exact ⟨_, rfl, h7.out, HB.out.trans (k7.out.below _ HB.out.size fun g hg => (HV.out.lt (by simpa using hg)).1)⟩

/-- Two slices of numbers held against each other. -/
theorem ints_of (w : World) (s t : Option Addr) (l m c d : Nat) (xs ys : List Int) (hl : l ≤ 5000) (hm : m ≤ 5000) (hx : Ints w s l xs) (hy : Ints w t m ys) :
    Calls Try.prog 29 #[.slice s l c, .slice t m d] w fun e w' => e = .returned (.bool (decide (xs = ys))) ∧ Below w.heap.size w w' := by
  have HX := Lib.hid hx
  have HY := Lib.hid hy
  by_cases hlm : l = m
  · subst hlm
    have hne : ((l : Int) != (l : Int)) = false := by simp
    clear hx hy
    go_enter Try.func29, Try.ntmps29
    go_wp2_with fail
    go_loopw [13] (fun i wr => ∃ q : Nat, q ≤ l ∧ i = .int .i64 q ∧ Hid (xs.take q = ys.take q) ∧ Hid (Below w.heap.size w wr)) (fun i _ => l - (intOf i).toNat)
    case atStart => exact ⟨0, by omega, rfl, rfl, Below.refl _ _⟩
    case round =>
      obtain ⟨q, hq, rfl, HE, HB⟩ := hrel
      by_cases hlt : q < l
      · obtain ⟨x, hx⟩ : ∃ x, xs[q]? = some x := ⟨_, List.getElem?_eq_getElem (by rw [HX.out.len]; exact hlt)⟩
        obtain ⟨y, hy⟩ : ∃ y, ys[q]? = some y := ⟨_, List.getElem?_eq_getElem (by rw [HY.out.len]; exact hlt)⟩
        obtain ⟨g, o, rfl, hc⟩ : ∃ g o, s = some ⟨g, o, none⟩ ∧ wr.cell? ⟨g, o + q, none⟩ = some (.int .i64 x) := by
          rcases (HX.out.below HB.out).cells with h0 | ⟨g4, o4, hs, hc⟩
          · omega
          · exact ⟨g4, o4, hs, hc q x hx⟩
        obtain ⟨g2, o2, rfl, hc2⟩ : ∃ g o, t = some ⟨g, o, none⟩ ∧ wr.cell? ⟨g, o + q, none⟩ = some (.int .i64 y) := by
          rcases (HY.out.below HB.out).cells with h0 | ⟨g4, o4, hs, hc⟩
          · omega
          · exact ⟨g4, o4, hs, hc q y hy⟩
        have e1 : xs.take (q + 1) = xs.take q ++ [x] := by rw [List.take_add_one, hx]; rfl
        have e2 : ys.take (q + 1) = ys.take q ++ [y] := by rw [List.take_add_one, hy]; rfl
        have h0q : (0 : Int) ≤ (q : Int) := by omega
        have hql : (q : Int) < (l : Int) := by omega
        by_cases hxy : x = y
        · have hb : (x != y) = false := by simp [hxy]
          have HS := Lib.hid (show xs.take (q + 1) = ys.take (q + 1) by rw [e1, e2, HE.out, hxy])
          clear hx hy e1 e2 hxy
          go_wp2_with fail
          go_quiet (fail)
          go_wp2
          go_roundw
          case rel => exact ⟨q + 1, by omega, by go_num, HS, (HB.out.trans (by first | exact ⟨rfl, rfl, rfl, Nat.le_refl _, fun _ _ => rfl⟩))⟩
          case measure => simp [intOf]; omega
        · have hb : (x != y) = true := by simp [hxy]
          have hne2 : xs ≠ ys := fun e => hxy (by rw [e] at hx; rw [hx] at hy; cases hy; rfl)
          have hd : decide (xs = ys) = false := by simp [hne2]
          have HD := Lib.hid hd
          clear hx hy e1 e2 hxy hne2 hd
          go_wp2_with fail
          go_quiet (fail)
          go_wp2
          go_ret
          exact ⟨by rw [HD.out]; rfl, HB.out.trans ⟨rfl, rfl, rfl, Nat.le_refl _, fun _ _ => rfl⟩⟩
      · obtain rfl : l = q := by omega
        have hd : decide (xs = ys) = true := by
          have h1 : xs.take l = xs := List.take_of_length_le (by rw [HX.out.len]; exact Nat.le_refl _)
          have h2 : ys.take l = ys := List.take_of_length_le (by rw [HY.out.len]; exact Nat.le_refl _)
          have := HE.out
          rw [h1, h2] at this
          simp [this]
        have HD := Lib.hid hd
        clear hd hq hlt
        go_wp2
        go_ret
        exact ⟨by rw [HD.out]; rfl, HB.out⟩
  · have hb : ((l : Int) != (m : Int)) = true := by simp; omega
    have hne2 : xs ≠ ys := fun e => hlm (by rw [← hx.len, ← hy.len, e])
    have HD := Lib.hid (show decide (xs = ys) = false by simp [hne2])
    clear hx hy hlm hne2
    go_enter Try.func29, Try.ntmps29
    go_wp2
    go_ret
    exact ⟨by rw [HD.out]; rfl, Below.refl _ _⟩
end Go.Proofs.Ytnjpdcoahojgbaa.RInt
