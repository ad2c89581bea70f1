/- Package slots: what places are; New, State, Give, Spoil, Count, Words. -/
import Derived.Test.YthpjggghdaelbaaSBit
import Derived.Test.YthpjggghdaelbaaSList
namespace Go.Proofs.Ythpjggghdaelbaa
open Go.ChangeShapes Go.WideShapes Go.ChangeAt Go.RowKit Go.Deep
set_option linter.unusedVariables false

/-- Places: block r, the words of those used in block gu, of those spoilt in gs. -/
structure SP (w : World) (r : Nat) (L : List Int) (gu gs : Nat) : Prop where
  head : w.heap[r]? = some (.cells #[.int .i64 (L.length : Int), .slice (some ⟨gu, 0, none⟩) (mOf L) (mOf L), .slice (some ⟨gs, 0, none⟩) (mOf L) (mOf L)] 46 (0, 0))
  used : ∃ us, WRow w gu us ∧ WordsAre (usedB L) (mOf L) us
  spoilt : ∃ vs, WRow w gs vs ∧ WordsAre (badB L) (mOf L) vs
  good : GoodL L
  ne : gu ≠ gs

section
variable {w w' : World} {r gu gs : Nat} {L : List Int}
theorem SP.rlt (h : SP w r L gu gs) : r < w.heap.size := (Array.getElem?_eq_some_iff.1 h.head).1
theorem SP.ult (h : SP w r L gu gs) : gu < w.heap.size := by obtain ⟨us, h1, _⟩ := h.used; exact h1.lt
theorem SP.slt (h : SP w r L gu gs) : gs < w.heap.size := by obtain ⟨us, h1, _⟩ := h.spoilt; exact h1.lt
theorem SP.neU (h : SP w r L gu gs) : r ≠ gu := fun e => by
  obtain ⟨us, h1, _⟩ := h.used
  have := h.head.symm.trans (e ▸ h1)
  simp at this
theorem SP.neS (h : SP w r L gu gs) : r ≠ gs := fun e => by
  obtain ⟨us, h1, _⟩ := h.spoilt
  have := h.head.symm.trans (e ▸ h1)
  simp at this
theorem SP.kept (h : SP w r L gu gs) (hb : ∀ b, b ∈ [r, gu, gs] → w'.heap[b]? = w.heap[b]?) : SP w' r L gu gs := by
  obtain ⟨us, u1, u2⟩ := h.used
  obtain ⟨vs, v1, v2⟩ := h.spoilt
  exact ⟨(hb r (by simp)).trans h.head, ⟨us, u1.kept (hb gu (by simp)), u2⟩, ⟨vs, v1.kept (hb gs (by simp)), v2⟩, h.good, h.ne⟩
theorem SP.lt (h : SP w r L gu gs) : ∀ b, b ∈ [r, gu, gs] → b < w.heap.size := by
  intro b hb
  simp at hb
  rcases hb with rfl | rfl | rfl
  · exact h.rlt
  · exact h.ult
  · exact h.slt
theorem SP.grow (h : SP w r L gu gs) (k : w.grownBy w' none) : SP w' r L gu gs := h.kept fun b hb => k.block b (h.lt b hb) (by simp)
theorem SP.turn {O : List Nat} (h : SP w r L gu gs) (k : Turn O w w') (ho : ∀ b, b ∈ [r, gu, gs] → b ∉ O) : SP w' r L gu gs := h.kept fun b hb => k.block b (h.lt b hb) (ho b hb)
theorem SP.at (h : SP w r L gu gs) : w.cell? ⟨r, 0, none⟩ = some (.int .i64 (L.length : Int)) ∧ w.cell? ⟨r, 1, none⟩ = some (.slice (some ⟨gu, 0, none⟩) (mOf L) (mOf L)) ∧ w.cell? ⟨r, 2, none⟩ = some (.slice (some ⟨gs, 0, none⟩) (mOf L) (mOf L)) :=
  ⟨by rw [cell_of_row _ _ _ _ _ _ h.head]; rfl, by rw [cell_of_row _ _ _ _ _ _ h.head]; rfl, by rw [cell_of_row _ _ _ _ _ _ h.head]; rfl⟩

theorem eql_slots_nil (w : World) (a : Addr) : (binOp .eql 23 (.pointer (some a)) (.pointer none)).run Try.prog w = .ok (.bool false) w := by
  have h1 : ∀ d : Nat, (Op.equalIn (d + 1) 23 (.pointer (some a)) (.pointer none)).run Try.prog w = .ok false w := fun d => by
    simp [Op.equalIn, run_underlying Try.underlying23]
  simp only [binOp]
  simp [Op.equal, Op.maxDepth, h1 9999]
theorem eql_slots_nil2 (w : World) : (binOp .eql 23 (.pointer none) (.pointer none)).run Try.prog w = .ok (.bool true) w := by kernel_rfl

theorem used_ok (h : SP w r L gu gs) (i : Nat) (hi : i < L.length) : Calls Try.prog 30 #[.slice (some ⟨gu, 0, none⟩) (mOf L) (mOf L), .int .i64 (i : Int)] w fun e w' => e = .returned (.bool (usedB L i)) ∧ w' = w := by
  obtain ⟨us, u1, u2⟩ := h.used
  exact hasBit_ok u1 u2 (mOf_le h.good) i (lt_mOf hi)
theorem bad_ok (h : SP w r L gu gs) (i : Nat) (hi : i < L.length) : Calls Try.prog 30 #[.slice (some ⟨gs, 0, none⟩) (mOf L) (mOf L), .int .i64 (i : Int)] w fun e w' => e = .returned (.bool (badB L i)) ∧ w' = w := by
  obtain ⟨us, u1, u2⟩ := h.spoilt
  exact hasBit_ok u1 u2 (mOf_le h.good) i (lt_mOf hi)

theorem sl_state (h : SP w r L gu gs) (i : Int) : Calls Try.prog 19 #[.pointer (some ⟨r, 0, none⟩), .int .i64 i] w fun e w' => e = .returned (.int .i64 (stL L i)) ∧ w' = w := by
  obtain ⟨c0, c1, c2⟩ := h.at
  have hq := eql_slots_nil
  by_cases h0 : i < 0
  · rw [stL_out (by omega)]
    have d0 : decide (i < 0) = true := decide_eq_true h0
    clear h h0
    go_enter Try.func19, Try.ntmps19
    go_wp2_with fail
    go_ret
    exact ⟨rfl, rfl⟩
  · have d0 : decide (i < 0) = false := decide_eq_false h0
    by_cases h1 : i ≥ (L.length : Int)
    · rw [stL_out (by omega)]
      have d1 : decide (i ≥ (L.length : Int)) = true := decide_eq_true h1
      clear h h0 h1
      go_enter Try.func19, Try.ntmps19
      go_wp2_with fail
      go_ret
      exact ⟨rfl, rfl⟩
    · obtain ⟨k, rfl⟩ := Int.eq_ofNat_of_zero_le (show 0 ≤ i by omega)
      have hk : k < L.length := by omega
      have d1 : decide ((k : Int) ≥ (L.length : Int)) = false := decide_eq_false h1
      have d2 : decide (L.length ≤ k) = false := decide_eq_false (by omega)
      have HU := Lib.hid (used_ok h k hk)
      have HB := Lib.hid (bad_ok h k hk)
      rw [stL_in hk]
      unfold usedB at HU
      unfold badB at HB
      have hg := h.good.at k
      clear h h0 h1 hk
      generalize L.getD k 0 = x at *
      rcases hg with rfl | rfl | rfl
      all_goals
        go_enter Try.func19, Try.ntmps19
        go_wp2_with fail
        refine HB.out.mono ?_
        rintro e w2 ⟨rfl, e2⟩
        subst w2
        go_wp2_with fail
        try (refine HU.out.mono ?_; rintro e w2 ⟨rfl, e2⟩; subst w2; go_wp2_with fail)
        go_ret
        exact ⟨rfl, rfl⟩

theorem SP.set (h : SP w r L gu gs) {us vs : List Nat} {L' : List Int} (hu : WRow w' gu us) (hv : WRow w' gs vs) (pu : WordsAre (usedB L') (mOf L) us) (pv : WordsAre (badB L') (mOf L) vs) (hr : w'.heap[r]? = w.heap[r]?) (hl : L'.length = L.length) (hg : GoodL L') : SP w' r L' gu gs := by
  have hm : mOf L' = mOf L := by unfold mOf; rw [hl]
  refine ⟨?_, ⟨us, hu, by rw [hm]; exact pu⟩, ⟨vs, hv, by rw [hm]; exact pv⟩, hg, h.ne⟩
  rw [hr, hl, hm]
  exact h.head
/-- Behind a call: what has been done. -/
def SLeft (w w' : World) (r : Nat) (L' : List Int) (gu gs : Nat) : Prop := SP w' r L' gu gs ∧ Turn [gu, gs] w w'
theorem SLeft.trans {w2 : World} {L1 L2 : List Int} (h : SLeft w w' r L1 gu gs) (k : SLeft w' w2 r L2 gu gs) : SLeft w w2 r L2 gu gs := ⟨k.1, h.2.trans' k.2⟩

/-- A used place's bit. -/
theorem set_used (h : SP w r L gu gs) (i : Nat) (hi : i < L.length) (x : Int) (hx : x = 0 ∨ x = 1 ∨ x = 2) (h0 : x ≠ 0) (h2 : x = 2 ↔ L.getD i 0 = 2) :
    Calls Try.prog 27 #[.slice (some ⟨gu, 0, none⟩) (mOf L) (mOf L), .int .i64 (i : Int)] w fun e w' => e = .returned (.tuple #[]) ∧ SLeft w w' r (L.set i x) gu gs := by
  obtain ⟨us, u1, u2⟩ := h.used
  obtain ⟨vs, v1, v2⟩ := h.spoilt
  refine (setBit_ok u1 u2 (mOf_le h.good) i (lt_mOf hi)).mono ?_
  rintro e w' ⟨rfl, us', k1, k2, k3⟩
  refine ⟨rfl, h.set k1 (v1.kept (k3.block gs h.slt (by simp; exact h.ne.symm))) (k2.congr fun j hj => ?_) (v2.congr fun j hj => ?_) (k3.block r h.rlt (by simp; exact h.neU)) (by rw [List.length_set]) (h.good.set i hx), Turn.one k3 (by simp)⟩
  · unfold usedB
    rw [getD_set _ _ _ hi]
    by_cases e : j = i
    · simp [e, h0]
    · simp [e]
  · unfold badB
    rw [getD_set _ _ _ hi]
    by_cases e : j = i
    · subst e; simp [h2]
    · simp [e]

set_option maxHeartbeats 1000000 in
theorem sl_give (h : SP w r L gu gs) (i : Int) : Calls Try.prog 15 #[.pointer (some ⟨r, 0, none⟩), .int .i64 i] w fun e w' => e = .returned (.bool (giveL L i).b) ∧ SLeft w w' r (giveL L i).L gu gs := by
  obtain ⟨c0, c1, c2⟩ := h.at
  have HS := Lib.hid (sl_state h i)
  have H := Lib.hid h
  by_cases h1 : stL L i = 1
  · obtain ⟨k, rfl, hk, hst⟩ := stL_lives (show stL L i ≠ -1 by omega)
    have hx : L.getD k 0 = 1 := hst.symm.trans h1
    unfold giveL
    rw [if_pos h1]
    simp only [Int.toNat_natCast]
    rw [h1] at HS
    have HC := Lib.hid (show Calls Try.prog 29 #[.slice (some ⟨gu, 0, none⟩) (mOf L) (mOf L), .int .i64 (k : Int)] w fun e w' => e = .returned (.tuple #[]) ∧ SLeft w w' r (L.set k 0) gu gs by
      obtain ⟨us, u1, u2⟩ := h.used
      obtain ⟨vs, v1, v2⟩ := h.spoilt
      refine (clearBit_ok u1 u2 (mOf_le h.good) k (lt_mOf hk)).mono ?_
      rintro e w' ⟨rfl, us', k1, k2, k3⟩
      refine ⟨rfl, h.set k1 (v1.kept (k3.block gs h.slt (by simp; exact h.ne.symm))) (k2.congr fun j hj => ?_) (v2.congr fun j hj => ?_) (k3.block r h.rlt (by simp; exact h.neU)) (by rw [List.length_set]) (h.good.set k (.inl rfl)), Turn.one k3 (by simp)⟩
      · unfold usedB
        rw [getD_set _ _ _ hk]
        by_cases e : j = k
        · simp [e]
        · simp [e]
      · unfold badB
        rw [getD_set _ _ _ hk]
        by_cases e : j = k
        · subst e; rw [if_pos rfl, hx]; rfl
        · simp [e])
    clear h h1 hst hx hk
    go_enter Try.func15, Try.ntmps15
    go_wp2_with fail
    refine HS.out.mono ?_
    rintro e w2 ⟨rfl, e2⟩
    subst w2
    go_wp2_with fail
    refine HC.out.mono ?_
    rintro e w2 ⟨rfl, h2⟩
    have H2 := Lib.hid h2
    clear h2
    go_wp2_with fail
    go_ret
    exact ⟨rfl, H2.out⟩
  · unfold giveL
    rw [if_neg h1]
    have d : (stL L i == 1) = false := beq_eq_false_iff_ne.2 h1
    simp only
    clear h h1
    generalize stL L i = x at *
    go_enter Try.func15, Try.ntmps15
    go_wp2_with fail
    refine HS.out.mono ?_
    rintro e w2 ⟨rfl, e2⟩
    subst w2
    go_wp2_with fail
    go_ret
    exact ⟨rfl, H.out, Turn.refl _ _⟩

set_option maxHeartbeats 1000000 in
theorem sl_spoil (h : SP w r L gu gs) (i : Int) : Calls Try.prog 17 #[.pointer (some ⟨r, 0, none⟩), .int .i64 i] w fun e w' => e = .returned (.bool (spoilL L i).b) ∧ SLeft w w' r (spoilL L i).L gu gs := by
  obtain ⟨c0, c1, c2⟩ := h.at
  have HS := Lib.hid (sl_state h i)
  have H := Lib.hid h
  have hge := stL_ge h.good i
  by_cases h1 : stL L i = 0 ∨ stL L i = 1
  · obtain ⟨k, rfl, hk, hst⟩ := stL_lives (show stL L i ≠ -1 by omega)
    unfold spoilL
    rw [if_pos h1]
    simp only [Int.toNat_natCast]
    have d1 : (stL L k == -1) = false := beq_eq_false_iff_ne.2 (by omega)
    have d2 : (stL L k == 2) = false := beq_eq_false_iff_ne.2 (by omega)
    obtain ⟨us, u1, u2⟩ := h.used
    obtain ⟨vs, v1, v2⟩ := h.spoilt
    have HC := Lib.hid (setBit_ok u1 u2 (mOf_le h.good) k (lt_mOf hk))
    have HW := Lib.hid (show ∀ w2 us', WRow w2 gu us' → w.grownBy w2 (some gu) → WRow w2 gs vs ∧ w2.cell? ⟨r, 2, none⟩ = some (.slice (some ⟨gs, 0, none⟩) (mOf L) (mOf L)) from fun w2 us' k1 k3 => by
      have hr : w2.heap[r]? = w.heap[r]? := k3.block r h.rlt (by simp; exact h.neU)
      refine ⟨v1.kept (k3.block gs h.slt (by simp; exact h.ne.symm)), ?_⟩
      rw [cell_of_row _ _ _ _ _ _ (hr.trans h.head)]
      rfl)
    have HV := Lib.hid (show ∀ w2, WRow w2 gs vs → Calls Try.prog 27 #[.slice (some ⟨gs, 0, none⟩) (mOf L) (mOf L), .int .i64 (k : Int)] w2 fun e w' => e = .returned (.tuple #[]) ∧ ∃ us', WRow w' gs us' ∧ WordsAre (fun j => decide (j = k) || badB L j) (mOf L) us' ∧ w2.grownBy w' (some gs) from fun w2 k1 => setBit_ok k1 v2 (mOf_le h.good) k (lt_mOf hk))
    have HF := Lib.hid (show ∀ w2 w3 us' vs', WRow w2 gu us' → WordsAre (fun j => decide (j = k) || usedB L j) (mOf L) us' → w.grownBy w2 (some gu) → WRow w3 gs vs' → WordsAre (fun j => decide (j = k) || badB L j) (mOf L) vs' → w2.grownBy w3 (some gs) → SLeft w w3 r (L.set k 2) gu gs from fun w2 w3 us' vs' a1 a2 a3 b1 b2 b3 => by
      refine ⟨h.set (a1.kept (b3.block gu (by have := h.ult; have := a3.size; omega) (by simp; exact h.ne))) b1 (a2.congr fun j hj => ?_) (b2.congr fun j hj => ?_) ((b3.block r (by have := h.rlt; have := a3.size; omega) (by simp; exact h.neS)).trans (a3.block r h.rlt (by simp; exact h.neU))) (by rw [List.length_set]) (h.good.set k (.inr (.inr rfl))), (Turn.one a3 (by simp)).trans' (Turn.one b3 (by simp))⟩
      · unfold usedB
        rw [getD_set _ _ _ hk]
        by_cases e : j = k
        · simp [e]
        · simp [e]
      · unfold badB
        rw [getD_set _ _ _ hk]
        by_cases e : j = k
        · simp [e]
        · simp [e])
    clear h h1 hst hk hge u1 u2 v1 v2
    generalize stL L k = x at *
    go_enter Try.func17, Try.ntmps17
    go_wp2_with fail
    refine HS.out.mono ?_
    rintro e w2 ⟨rfl, e2⟩
    subst w2
    go_wp2_with fail
    refine HC.out.mono ?_
    rintro e w2 ⟨rfl, us', k1, k2, k3⟩
    obtain ⟨q1, q2⟩ := HW.out w2 us' k1 k3
    have HV2 := Lib.hid (HV.out w2 q1)
    have HF2 := Lib.hid fun w3 vs' => HF.out w2 w3 us' vs' k1 k2 k3
    clear k1 k2 k3 q1
    go_wp2_with fail
    refine HV2.out.mono ?_
    rintro e w3 ⟨rfl, vs', k1, k2, k3⟩
    have HF3 := Lib.hid (HF2.out w3 vs' k1 k2 k3)
    clear k1 k2 k3
    go_wp2_with fail
    go_ret
    exact ⟨rfl, HF3.out⟩
  · unfold spoilL
    rw [if_neg h1]
    have h3 : stL L i = -1 ∨ stL L i = 2 := by omega
    simp only
    clear h h1 hge
    generalize stL L i = x at *
    rcases h3 with rfl | rfl
    all_goals
      go_enter Try.func17, Try.ntmps17
      go_wp2_with fail
      refine HS.out.mono ?_
      rintro e w2 ⟨rfl, e2⟩
      subst w2
      go_wp2_with fail
      go_ret
      exact ⟨rfl, H.out, Turn.refl _ _⟩
end
end Go.Proofs.Ythpjggghdaelbaa
