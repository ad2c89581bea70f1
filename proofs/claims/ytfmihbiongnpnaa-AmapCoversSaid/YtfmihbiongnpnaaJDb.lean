/- Package spread (landed): sort.Search, find, At. -/
import Derived.Test.YtfmihbiongnpnaaJDa
namespace Go.Proofs.Ytfmihbiongnpnaa
open Go.ChangeShapes Go.WideShapes Go.ChangeAt Go.RowKit Go.Deep
set_option linter.unusedVariables false

set_option maxHeartbeats 1000000 in
theorem search_ok (w : World) (cap : Array Value) (n : Nat) (hn : n ≤ 1000000) (q : Nat → Bool) (hq : ∀ i j, i ≤ j → j < n → q i = true → q j = true)
    (HC : ∀ (i : Nat) (W : World), i < n → w.grownBy W none → Calls Try.prog 62 (#[.int .i64 i] ++ cap) W fun e W' => e = .returned (.bool (q i)) ∧ W.grownBy W' none) :
    Calls Try.prog 61 #[.int .i64 n, .func (.func 62) #[] cap] w fun e w' => ∃ k : Nat, k ≤ n ∧ e = .returned (.int .i64 k) ∧ (∀ i, i < k → q i = false) ∧ (∀ i, k ≤ i → i < n → q i = true) ∧ w.grownBy w' none := by
  have HH := Lib.hid HC
  have HQ := Lib.hid hq
  clear HC hq
  go_enter Try.func61, Try.ntmps61
  go_wp2_with fail
  go_loopw [5, 6, 7] (fun iv jv _ wr => ∃ i j : Nat, i ≤ j ∧ j ≤ n ∧ iv = .int .i64 i ∧ jv = .int .i64 j ∧ Hid (∀ t, t < i → q t = false) ∧ Hid (∀ t, j ≤ t → t < n → q t = true) ∧ Hid (w.grownBy wr none)) (fun iv jv _ _ => (intOf jv).toNat - (intOf iv).toNat)
  case atStart => exact ⟨0, n, by omega, by omega, rfl, rfl, fun t ht => by omega, fun t h1 h2 => by omega, grown_refl _ _⟩
  case round =>
    obtain ⟨i, j, hij, hjn, rfl, rfl, HI, HJ, HG⟩ := hrel
    by_cases hlt : i < j
    · obtain ⟨h, hh, hih, hhj⟩ : ∃ h : Nat, ((i : Int) + (j : Int)) / 2 = (h : Int) ∧ i ≤ h ∧ h < j := ⟨(i + j) / 2, by omega, by omega, by omega⟩
      have HF := Lib.hid (HH.out h wr (by omega) HG.out)
      go_wp2_with fail
      refine HF.out.mono ?_
      rintro e w2 ⟨rfl, g2⟩
      have HG2 := Lib.hid (grown_trans HG.out g2)
      clear g2 HF
      cases hqh : q h with
      | false =>
        have HN := Lib.hid (show ∀ t, t < h + 1 → q t = false from fun t ht => by
          cases e : q t with
          | false => rfl
          | true => rw [HQ.out t h (by omega) (by omega) e] at hqh; cases hqh)
        clear hqh
        go_wp2_with fail
        go_roundw
        case rel => exact ⟨h + 1, j, by omega, by omega, by go_num, rfl, HN, HJ, HG2⟩
        case measure => simp [intOf]; omega
      | true =>
        have HN := Lib.hid (show ∀ t, h ≤ t → t < n → q t = true from fun t h1 h2 => HQ.out h t h1 h2 hqh)
        clear hqh
        go_wp2_with fail
        go_roundw
        case rel => exact ⟨i, h, by omega, by omega, rfl, by go_num, HI, HN, HG2⟩
        case measure => simp [intOf]; omega
    · obtain rfl : i = j := by omega
      go_wp2_with fail
      go_ret
      exact ⟨i, hjn, rfl, HI.out, HJ.out, HG.out⟩

/-- Does the run end above the item? -/
def endsAbove (R : List JR) (item : Int) (i : Nat) : Bool := match R[i]? with | some r => decide (item < r.hi) | none => true
theorem endsAbove_at {R : List JR} {item : Int} {i : Nat} {r : JR} (h : R[i]? = some r) : endsAbove R item i = decide (item < r.hi) := by unfold endsAbove; rw [h]
theorem find1_ok {w : World} {u : Value} {R : List JR} (h : RunsC w u R) (item : Int) (b1 b2 : Nat) (c1 : w.cell? ⟨b1, 0, none⟩ = some (.int .i64 item)) (c2 : w.cell? ⟨b2, 0, none⟩ = some u) (i : Nat) (hi : i < R.length) (hl : R.length ≤ 1000000) :
    Calls Try.prog 62 #[.int .i64 i, .pointer (some ⟨b1, 0, none⟩), .pointer (some ⟨b2, 0, none⟩)] w fun e w' => e = .returned (.bool (endsAbove R item i)) ∧ w.grownBy w' none := by
  obtain ⟨r, hr⟩ : ∃ r, R[i]? = some r := ⟨_, List.getElem?_eq_getElem hi⟩
  obtain ⟨g, o, c, rfl, k0, k1, k2⟩ := h.at hr
  rw [endsAbove_at hr]
  have h0 : (0 : Int) ≤ (i : Int) := by omega
  have h1 : (i : Int) < (R.length : Int) := by omega
  clear h hr k0 k2
  go_enter Try.func62, Try.ntmps62
  go_wp2_with fail
  go_quiet (fail)
  go_wp2_with fail
  go_ret
  exact ⟨rfl, grown_draws _ _⟩
theorem find_ok {w : World} {u : Value} {L : List Int} {R : List JR} {a b : Int} (h : RunsC w u R) (hs : Loose L a R b) (hl : R.length ≤ 4096) (item : Int) :
    Calls Try.prog 49 #[u, .int .i64 item] w fun e w' => ∃ k : Nat, e = .returned (.int .i64 k) ∧ Found R item k ∧ w.grownBy w' none := by
  have g1 := World.grownBy_alloc w (.cells #[u] 96) none
  have g2 := grown_trans g1 (World.grownBy_alloc (w.alloc (.cells #[u] 96)) (.cells #[.int .i64 item] 3) none)
  have c2 : ((w.alloc (.cells #[u] 96)).alloc (.cells #[.int .i64 item] 3)).cell? ⟨w.heap.size, 0, none⟩ = some u := by
    have := ((World.grownBy_alloc (w.alloc (.cells #[u] 96)) (.cells #[.int .i64 item] 3) none).block w.heap.size (by simp) (by simp)).trans (heap_alloc_new w _)
    rw [cell_of_row _ _ _ _ _ _ this]; rfl
  have c1 : ((w.alloc (.cells #[u] 96)).alloc (.cells #[.int .i64 item] 3)).cell? ⟨w.heap.size + 1, 0, none⟩ = some (.int .i64 item) := by
    have := heap_alloc_new (w.alloc (.cells #[u] 96)) (.cells #[.int .i64 item] 3)
    rw [World.size_alloc] at this
    rw [cell_of_row _ _ _ _ _ _ this]; rfl
  have HS := Lib.hid (search_ok ((w.alloc (.cells #[u] 96)).alloc (.cells #[.int .i64 item] 3)) #[.pointer (some ⟨w.heap.size + 1, 0, none⟩), .pointer (some ⟨w.heap.size, 0, none⟩)] R.length (by omega) (endsAbove R item)
    (fun i j hij hj hi => by
      obtain ⟨r, hr⟩ : ∃ r, R[i]? = some r := ⟨_, List.getElem?_eq_getElem (by omega)⟩
      obtain ⟨s, hs2⟩ : ∃ s, R[j]? = some s := ⟨_, List.getElem?_eq_getElem hj⟩
      rw [endsAbove_at hr] at hi
      rw [endsAbove_at hs2]
      have h1 := of_decide_eq_true hi
      rcases Nat.lt_or_ge i j with h2 | h2
      · have := hs.mono h2 hr hs2
        exact decide_eq_true (by omega)
      · obtain rfl : i = j := by omega
        rw [hr] at hs2; cases hs2
        exact hi)
    (fun i W hi gW => by
      have k1 := gW.cell c1 (by simp)
      have k2 := gW.cell c2 (by simp)
      exact find1_ok (h.grow (grown_trans g2 gW)) item _ _ k1 k2 i hi (by omega)))
  have hmf : ∀ (fn : Fn) (first cap : Array Value) (w : World), (Instr.makeFunc fn first cap).run Try.prog w = .ok (.func fn first cap) w := fun _ _ _ _ => rfl
  obtain ⟨sa, sc, hv, -⟩ := h.slice
  have HG := Lib.hid g2
  subst hv
  clear h hs g1 g2 c1
  go_enter Try.func49, Try.ntmps49
  go_wp2_with fail
  refine HS.out.mono ?_
  rintro e w2 ⟨k, hk, rfl, hk0, hk1, g3⟩
  have HF := Lib.hid (show Found R item k from ⟨hk, fun i r hi hr => by
      have := hk0 i hi
      rw [endsAbove_at hr] at this
      have := of_decide_eq_false this
      omega, fun i r hi hr => by
      have := hk1 i hi (List.getElem?_eq_some_iff.1 hr).1
      rw [endsAbove_at hr] at this
      exact of_decide_eq_true this⟩)
  have HG3 := Lib.hid (grown_trans HG.out g3)
  clear hk0 hk1 g3
  go_wp2_with fail
  go_ret
  exact ⟨k, rfl, HF.out, HG3.out⟩
theorem find_at {w : World} {u : Value} {L : List Int} {R : List JR} {a b : Int} (h : RunsC w u R) (hs : Loose L a R b) (hl : R.length ≤ 4096) {item : Int} {k : Nat} (hf : Found R item k) :
    Calls Try.prog 49 #[u, .int .i64 item] w fun e w' => e = .returned (.int .i64 k) ∧ w.grownBy w' none :=
  (find_ok h hs hl item).mono fun e w' ⟨m, he, hm, g⟩ => ⟨by rw [he, hf.one hm], g⟩
end Go.Proofs.Ytfmihbiongnpnaa
