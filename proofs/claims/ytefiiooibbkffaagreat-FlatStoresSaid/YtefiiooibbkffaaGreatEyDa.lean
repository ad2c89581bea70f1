/- Package entry (landed): sort.Search, Find, gap, Space. -/
import Derived.Test.YtefiiooibbkffaaGreatEyRefC
namespace Go.Proofs.YtefiiooibbkffaaGreat
open Go.ChangeShapes Go.WideShapes Go.ChangeAt Go.RowKit Go.Deep
set_option linter.unusedVariables false

set_option maxHeartbeats 1000000 in
theorem search_ok (w : World) (cap : Array Value) (n : Nat) (hn : n ≤ 1000000) (q : Nat → Bool) (hq : ∀ i j, i ≤ j → j < n → q i = true → q j = true)
    (HC : ∀ (i : Nat) (W : World), i < n → w.grownBy W none → Calls Tryz.prog 180 (#[.int .i64 i] ++ cap) W fun e W' => e = .returned (.bool (q i)) ∧ W.grownBy W' none) :
    Calls Tryz.prog 179 #[.int .i64 n, .func (.func 180) #[] cap] w fun e w' => ∃ k : Nat, k ≤ n ∧ e = .returned (.int .i64 k) ∧ (∀ i, i < k → q i = false) ∧ (∀ i, k ≤ i → i < n → q i = true) ∧ w.grownBy w' none := by
  have HH := Lib.hid HC
  have HQ := Lib.hid hq
  clear HC hq
  go_enter Tryz.func179, Tryz.ntmps179
  go_wp2_with fail
  go_loopw [5, 6, 7] (fun iv jv _ wr => ∃ i j : Nat, i ≤ j ∧ j ≤ n ∧ iv = .int .i64 i ∧ jv = .int .i64 j ∧ Hid (∀ t, t < i → q t = false) ∧ Hid (∀ t, j ≤ t → t < n → q t = true) ∧ Hid (w.grownBy wr none)) (fun iv jv _ _ => (intOf jv).toNat - (intOf iv).toNat)
  case atStart => exact ⟨0, n, by omega, by omega, rfl, rfl, fun t ht => by omega, fun t h1 h2 => by omega, grown_refl _ _⟩
  case round =>
    obtain ⟨i, j, hij, hjn, rfl, rfl, HI, HJ, HG⟩ := hrel
    by_cases hlt : i < j
    · obtain ⟨h, hh, hih, hhj⟩ : ∃ h : Nat, ((i : Int) + (j : Int)) / 2 = (h : Int) ∧ i ≤ h ∧ h < j := ⟨(i + j) / 2, by omega, by omega, by omega⟩
      have HF := Lib.hid (HH.out h wr (by omega) HG.out)
      go_wp2_with fail
      refine HF.out.mono ?_
      rintro e w2 ⟨rfl, g2⟩
      have HG2 := Lib.hid (grown_trans HG.out g2)
      clear g2 HF
      cases hqh : q h with
      | false =>
        have HN := Lib.hid (show ∀ t, t < h + 1 → q t = false from fun t ht => by
          cases e : q t with
          | false => rfl
          | true => rw [HQ.out t h (by omega) (by omega) e] at hqh; cases hqh)
        clear hqh
        go_wp2_with fail
        go_roundw
        case rel => exact ⟨h + 1, j, by omega, by omega, by go_num, rfl, HN, HJ, HG2⟩
        case measure => simp [intOf]; omega
      | true =>
        have HN := Lib.hid (show ∀ t, h ≤ t → t < n → q t = true from fun t h1 h2 => HQ.out h t h1 h2 hqh)
        clear hqh
        go_wp2_with fail
        go_roundw
        case rel => exact ⟨i, h, by omega, by omega, rfl, by go_num, HI, HN, HG2⟩
        case measure => simp [intOf]; omega
    · obtain rfl : i = j := by omega
      go_wp2_with fail
      go_ret
      exact ⟨i, hjn, rfl, HI.out, HJ.out, HG.out⟩

/-- Does the entry end above the page? -/
def endsE (L : List En) (pg : Int) (i : Nat) : Bool := match L[i]? with | some x => decide (pg < x.e) | none => true
theorem endsE_at {L : List En} {pg : Int} {i : Nat} {x : En} (h : L[i]? = some x) : endsE L pg i = decide (pg < x.e) := by unfold endsE; rw [h]
theorem find1_ok {w : World} {s : Option Addr} {c : Nat} {L : List En} (h : ERow w (.slice s L.length c) L) (pg : Int) (b1 b2 : Nat) (c1 : w.cell? ⟨b1, 0, none⟩ = some (.int .i64 pg)) (c2 : w.cell? ⟨b2, 0, none⟩ = some (.slice s L.length c)) (i : Nat) (hi : i < L.length) (hl : L.length ≤ 1000000) :
    Calls Tryz.prog 180 #[.int .i64 i, .pointer (some ⟨b1, 0, none⟩), .pointer (some ⟨b2, 0, none⟩)] w fun e w' => e = .returned (.bool (endsE L pg i)) ∧ w.grownBy w' none := by
  obtain ⟨x, hx⟩ : ∃ x, L[i]? = some x := ⟨_, List.getElem?_eq_getElem hi⟩
  obtain ⟨g, o, c3, hv, hat⟩ := en_cells h hx
  injection hv with e1 e2 e3
  subst e1 e3
  rw [endsE_at hx]
  have k1 := hat.c1
  have h0 : (0 : Int) ≤ (i : Int) := by omega
  have h1 : (i : Int) < (L.length : Int) := by omega
  clear h hx hat
  go_enter Tryz.func180, Tryz.ntmps180
  go_wp2_with fail
  go_quiet (fail)
  go_wp2_with fail
  go_ret
  exact ⟨rfl, grown_draws _ _⟩
set_option maxHeartbeats 1000000 in
theorem find_ok {w : World} {s : Option Addr} {L : List En} (c : Nat) (h : ERow w (.slice s L.length c) L) (hr : RF 0 L) (hl : L.length ≤ 1000000) (pg : Int) (k : Nat) (hk : findK L pg = k) (d : Bool) (hd : hasB L pg = d) :
    Calls Tryz.prog 147 #[.slice s L.length c, .int .i64 pg] w fun e w' => e = .returned (.tuple #[.int .i64 k, .bool d]) ∧ w.grownBy w' none := by
  have g1 := World.grownBy_alloc w (.cells #[.slice s L.length c] 47) none
  have g2 := grown_trans g1 (World.grownBy_alloc (w.alloc (.cells #[.slice s L.length c] 47)) (.cells #[.int .i64 pg] 3) none)
  have c2 : ((w.alloc (.cells #[.slice s L.length c] 47)).alloc (.cells #[.int .i64 pg] 3)).cell? ⟨w.heap.size, 0, none⟩ = some (.slice s L.length c) := by
    have := ((World.grownBy_alloc (w.alloc (.cells #[.slice s L.length c] 47)) (.cells #[.int .i64 pg] 3) none).block w.heap.size (by simp) (by simp)).trans (heap_alloc_new w _)
    rw [cell_of_row _ _ _ _ _ _ this]; rfl
  have c1 : ((w.alloc (.cells #[.slice s L.length c] 47)).alloc (.cells #[.int .i64 pg] 3)).cell? ⟨w.heap.size + 1, 0, none⟩ = some (.int .i64 pg) := by
    have := heap_alloc_new (w.alloc (.cells #[.slice s L.length c] 47)) (.cells #[.int .i64 pg] 3)
    rw [World.size_alloc] at this
    rw [cell_of_row _ _ _ _ _ _ this]; rfl
  have HS := Lib.hid (search_ok ((w.alloc (.cells #[.slice s L.length c] 47)).alloc (.cells #[.int .i64 pg] 3)) #[.pointer (some ⟨w.heap.size + 1, 0, none⟩), .pointer (some ⟨w.heap.size, 0, none⟩)] L.length (by omega) (endsE L pg)
    (fun i j hij hj hi => by
      obtain ⟨r, hr0⟩ : ∃ r, L[i]? = some r := ⟨_, List.getElem?_eq_getElem (by omega)⟩
      obtain ⟨t, hs2⟩ : ∃ t, L[j]? = some t := ⟨_, List.getElem?_eq_getElem hj⟩
      rw [endsE_at hr0] at hi
      rw [endsE_at hs2]
      have h1 := of_decide_eq_true hi
      rcases Nat.lt_or_ge i j with h2 | h2
      · have := rf_two hr h2 hr0 hs2
        have := (rf_at hr hs2).lt
        exact decide_eq_true (by omega)
      · obtain rfl : i = j := by omega
        rw [hr0] at hs2; cases hs2
        exact hi)
    (fun i W hi gW => by
      have k1 := gW.cell c1 (by simp)
      have k2 := gW.cell c2 (by simp)
      exact find1_ok (erow_grow h (grown_trans g2 gW)) pg _ _ k1 k2 i hi (by omega)))
  have hmf : ∀ (fn : Fn) (first cap : Array Value) (w : World), (Instr.makeFunc fn first cap).run Tryz.prog w = .ok (.func fn first cap) w := fun _ _ _ _ => rfl
  have HG := Lib.hid g2
  have HX := Lib.hid h
  have HK := Lib.hid hk
  have HD := Lib.hid hd
  have HC1 := Lib.hid c1
  have HC2 := Lib.hid c2
  clear h hr g1 g2 c1 hk hd
  go_enter Tryz.func147, Tryz.ntmps147
  go_wp2_with fail
  refine HS.out.mono ?_
  rintro e w2 ⟨k2, hk2, rfl, hk0, hk1, g3⟩
  have ek : findK L pg = k2 := findK_one hk2 (fun i x hi hx => by
      have := hk0 i hi
      rw [endsE_at hx] at this
      have := of_decide_eq_false this
      omega) (fun i x hi hx => by
      have := hk1 i hi (List.getElem?_eq_some_iff.1 hx).1
      rw [endsE_at hx] at this
      exact of_decide_eq_true this)
  obtain rfl : k2 = k := ek.symm.trans HK.out
  have HG3 := Lib.hid (grown_trans HG.out g3)
  have k1 := g3.cell HC1.out (by simp)
  have k2c := g3.cell HC2.out (by simp)
  clear hk0 hk1 c2
  by_cases hlt : k2 < L.length
  · obtain ⟨x, hx⟩ : ∃ x, L[k2]? = some x := ⟨_, List.getElem?_eq_getElem hlt⟩
    obtain ⟨g, o, c3, hv, hat⟩ := en_cells (erow_grow HX.out HG3.out) hx
    injection hv with e1 e2 e3
    subst e1 e3
    have k0 := hat.c0
    have hb1 : decide ((k2 : Int) < (L.length : Int)) = true := decide_eq_true (by omega)
    have hb2 : decide (x.s ≤ pg) = d := by rw [← HD.out]; rw [← ek] at hx; exact (hasB_at hx).symm
    have h0 : (0 : Int) ≤ (k2 : Int) := by omega
    have h1 : (k2 : Int) < (L.length : Int) := by omega
    clear hx hat ek g3
    go_wp2_with fail
    go_quiet (fail)
    go_wp2_with fail
    go_ret2
    exact ⟨rfl, grown_trans HG3.out (grown_draws _ _)⟩
  · have hb1 : decide ((k2 : Int) < (L.length : Int)) = false := decide_eq_false (by omega)
    obtain rfl : d = false := by rw [← HD.out]; exact hasB_end (by omega)
    clear ek g3
    go_wp2_with fail
    go_quiet (fail)
    go_wp2_with fail
    go_ret2
    exact ⟨rfl, grown_trans HG3.out (grown_draws _ _)⟩

/-- What gap tells. -/
def gapV (L : List En) (a n : Int) : Value := match gapE L a n with | some a => .tuple #[.int .i64 a, .bool true] | none => .tuple #[.int .i64 0, .bool false]
end Go.Proofs.YtefiiooibbkffaaGreat
