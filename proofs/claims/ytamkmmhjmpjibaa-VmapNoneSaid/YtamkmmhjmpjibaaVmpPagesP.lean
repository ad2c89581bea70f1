/- Layer 16, plainly: what an act makes of a page. No program. -/
import Derived.Test.YtamkmmhjmpjibaaVmpSay
namespace Go.Proofs.Ytamkmmhjmpjibaa
set_option linter.unusedVariables false
set_option linter.unusedSimpArgs false

/-- Whether an act changes a page. -/
def inV (L : List En) (A : VAct) (pg : Int) : Prop := (stepV L A).err = 0 ∧ A.lo ≤ pg ∧ pg - A.lo < A.n
theorem pages_out {L : List En} (h : MapL L) {A : VAct} (h1 : 1 ≤ A.k) (h5 : A.k ≤ 5) {pg : Int} (hn : ¬ inV L A pg) : pageOf (stepV L A).l pg = pageOf L pg := by
  obtain ⟨hd1, hd2, hd3, hd4, hd5⟩ := step_did h A
  by_cases he : (stepV L A).err = 0
  · have hno : ¬ (A.lo ≤ pg ∧ pg < A.lo + A.n) := fun q => hn ⟨he, q.1, by omega⟩
    unfold stepV at he ⊢
    rw [if_neg (show ¬ A.k = 0 by omega)] at he ⊢
    by_cases k1 : A.k = 1
    · rw [if_pos k1] at he ⊢
      have hr : rangeV A.lo A.n = true := by
        unfold unmapV at he
        split at he
        · assumption
        · cases he
      rw [page_unmap h hr, if_neg hno]
    · rw [if_neg k1] at he ⊢
      have oth : ∀ (k v most : Int) (on : Bool), ((k = 3 ∧ most ≤ 2) ∨ (k = 4 ∧ most ≤ 4) ∨ k = 5) → (otherV L A.lo A.n k v most on).err = 0 → pageOf (otherV L A.lo A.n k v most on).l pg = pageOf L pg := fun k v most on hk h0 => by
        unfold otherV at h0 ⊢
        split at h0
        · rename_i hr
          rw [if_pos hr]
          split at h0
          · rename_i hw
            rw [if_pos hw]
            rw [page_set h (rf_other h.rf hr.2.1 hr.2.2 hk), if_neg hno]
          · cases h0
        · cases h0
      by_cases k2 : A.k = 2
      · rw [if_pos k2] at he ⊢
        unfold protV at he ⊢
        split at he
        · rename_i hr
          rw [if_pos hr]
          split at he
          · rename_i hw
            rw [if_pos hw]
            split at he
            · rename_i hp
              rw [if_pos hp, page_set h (rf_prot h.rf hr.1 hr.2.1 hr.2.2 hp), if_neg hno]
            · cases he
          · cases he
        · cases he
      · rw [if_neg k2] at he ⊢
        by_cases k3 : A.k = 3
        · rw [if_pos k3] at he ⊢
          exact oth _ _ _ _ (.inl ⟨rfl, Int.le_refl _⟩) he
        · rw [if_neg k3] at he ⊢
          by_cases k4 : A.k = 4
          · rw [if_pos k4] at he ⊢
            exact oth _ _ _ _ (.inr (.inl ⟨rfl, Int.le_refl _⟩)) he
          · rw [if_neg k4] at he ⊢
            rw [if_pos (show A.k = 5 by omega)] at he ⊢
            exact oth _ _ _ _ (.inr (.inr rfl)) he
  · rw [hd5 he]
theorem range_of {L : List En} {A : VAct} (h1 : 1 ≤ A.k) (h5 : A.k ≤ 5) (he : (stepV L A).err = 0) : rangeV A.lo A.n = true := by
  have oth : ∀ (k v most : Int) (on : Bool), (otherV L A.lo A.n k v most on).err = 0 → rangeV A.lo A.n = true := fun k v most on h0 => by
    unfold otherV at h0
    split at h0
    · rename_i hr
      exact hr.1
    · cases h0
  unfold stepV at he
  rw [if_neg (show ¬ A.k = 0 by omega)] at he
  split at he
  · unfold unmapV at he
    split at he
    · assumption
    · cases he
  · split at he
    · unfold protV at he
      split at he
      · rename_i hr
        exact hr.1
      · cases he
    · split at he
      · exact oth _ _ _ _ he
      · split at he
        · exact oth _ _ _ _ he
        · rw [if_pos (show A.k = 5 by omega)] at he
          exact oth _ _ _ _ he
theorem pages_unmap {L : List En} (h : MapL L) {A : VAct} (h1 : A.k = 1) {pg : Int} (hn : inV L A pg) : pageOf (stepV L A).l pg = none ∧ pageOf (stepV L A).gone pg = pageOf L pg := by
  obtain ⟨he, hp1, hp2⟩ := hn
  have hr := range_of (L := L) (A := A) (by omega) (by omega) he
  unfold stepV
  rw [if_neg (show ¬ A.k = 0 by omega), if_pos h1]
  refine ⟨?_, ?_⟩
  · rw [page_unmap h hr, if_pos ⟨hp1, by omega⟩]
  · unfold unmapV
    rw [if_pos hr]
    show pageOf (goneE L A.lo (A.lo + A.n)) pg = _
    rw [page_gone A.lo (A.lo + A.n) pg h.rf, if_pos ⟨hp1, by omega⟩]
theorem whole_has {L : List En} (h : RF 0 L) {lo n pg : Int} (hr : rangeV lo n = true) (hw : wholeB L lo (lo + n) = true) (h1 : lo ≤ pg) (h2 : pg < lo + n) : ∃ v, pageOf L pg = some v := by
  obtain ⟨r1, r2, r3, r4⟩ := range_iff.1 hr
  obtain ⟨m, hm⟩ := Int.eq_ofNat_of_zero_le (show 0 ≤ n by omega)
  rw [hm] at hw
  have h3 := (whole_pages h m lo).1 hw (pg - lo).toNat (by omega)
  rw [show lo + ((pg - lo).toNat : Int) = pg by omega, hasB_page] at h3
  exact Option.isSome_iff_exists.1 h3
/-- What one of the four calls sets. -/
def setA (A : VAct) (x : En) : En := setV A.k A.how A.on x
theorem setA_norm (A : VAct) (x : En) (pg : Int) : normE (setA A x) pg = setA A (normE x pg) := (set_stays A.k A.how A.on).norm x pg
theorem pages_set {L : List En} (h : MapL L) {A : VAct} (h2 : 2 ≤ A.k) (h5 : A.k ≤ 5) {pg : Int} (hn : inV L A pg) : ∃ v, pageOf L pg = some v ∧ pageOf (stepV L A).l pg = some (setA A v) := by
  obtain ⟨he, hp1, hp2⟩ := hn
  have hr := range_of (L := L) (A := A) (by omega) h5 he
  have oth : ∀ (k v most : Int) (on : Bool), ((k = 3 ∧ most ≤ 2) ∨ (k = 4 ∧ most ≤ 4) ∨ k = 5) → (otherV L A.lo A.n k v most on).err = 0 → (∀ x, setV k v on x = setA A x) → ∃ u, pageOf L pg = some u ∧ pageOf (otherV L A.lo A.n k v most on).l pg = some (setA A u) := fun k v most on hk h0 hs => by
    unfold otherV at h0 ⊢
    split at h0
    · rename_i hc
      rw [if_pos hc]
      split at h0
      · rename_i hw
        rw [if_pos hw]
        obtain ⟨u, hu⟩ := whole_has h.rf hr hw hp1 (by omega)
        refine ⟨u, hu, ?_⟩
        rw [page_set h (rf_other h.rf hc.2.1 hc.2.2 hk), if_pos ⟨hp1, by omega⟩, hu]
        simp [hs]
      · cases h0
    · cases h0
  unfold stepV at he ⊢
  rw [if_neg (show ¬ A.k = 0 by omega), if_neg (show ¬ A.k = 1 by omega)] at he ⊢
  by_cases k2 : A.k = 2
  · rw [if_pos k2] at he ⊢
    unfold protV at he ⊢
    split at he
    · rename_i hc
      rw [if_pos hc]
      split at he
      · rename_i hw
        rw [if_pos hw]
        split at he
        · rename_i hp
          rw [if_pos hp]
          obtain ⟨u, hu⟩ := whole_has h.rf hr hw hp1 (by omega)
          refine ⟨u, hu, ?_⟩
          rw [page_set h (rf_prot h.rf hc.1 hc.2.1 hc.2.2 hp), if_pos ⟨hp1, by omega⟩, hu]
          unfold setA setV
          simp [k2]
        · cases he
      · cases he
    · cases he
  · rw [if_neg k2] at he ⊢
    by_cases k3 : A.k = 3
    · rw [if_pos k3] at he ⊢
      exact oth _ _ _ _ (.inl ⟨rfl, Int.le_refl _⟩) he fun x => by unfold setA; rw [k3]; rfl
    · rw [if_neg k3] at he ⊢
      by_cases k4 : A.k = 4
      · rw [if_pos k4] at he ⊢
        exact oth _ _ _ _ (.inr (.inl ⟨rfl, Int.le_refl _⟩)) he fun x => by unfold setA; rw [k4]; rfl
      · rw [if_neg k4] at he ⊢
        have k5 : A.k = 5 := by omega
        rw [if_pos k5] at he ⊢
        exact oth _ _ _ _ (.inr (.inr rfl)) he fun x => by unfold setA; rw [k5]; rfl
/-- Seen through At. -/
theorem at_same {L M : List En} {pg : Int} (h : pageOf L pg = pageOf M pg) : (atV L pg).isSome = (atV M pg).isSome ∧ ∀ x y, atV L pg = some x → atV M pg = some y → { x with s := y.s, e := y.e, o := y.o } = y := by
  rw [at_page L pg, at_page M pg] at h
  refine ⟨?_, fun x y hx hy => ?_⟩
  · cases e1 : atV L pg <;> cases e2 : atV M pg <;> rw [e1, e2] at h <;> simp at h ⊢
  · rw [hx, hy] at h
    exact norm_same (Option.some.inj h)
theorem at_set {L M : List En} {A : VAct} {pg : Int} {v : En} (h1 : pageOf L pg = some v) (h2 : pageOf M pg = some (setA A v)) : ∃ x y, atV L pg = some x ∧ atV M pg = some y ∧ { setA A x with s := y.s, e := y.e, o := y.o } = y := by
  rw [at_page] at h1 h2
  cases e1 : atV L pg with
  | none => rw [e1] at h1; cases h1
  | some x =>
    cases e2 : atV M pg with
    | none => rw [e2] at h2; cases h2
    | some y =>
      rw [e1] at h1
      rw [e2] at h2
      have q1 : normE x pg = v := Option.some.inj h1
      have q2 : normE y pg = setA A v := Option.some.inj h2
      refine ⟨x, y, rfl, rfl, norm_same (pg := pg) ?_⟩
      rw [setA_norm, q1, q2]
theorem at_none' {L : List En} {pg : Int} (h : pageOf L pg = none) : atV L pg = none := by
  rw [at_page] at h
  cases e : atV L pg with
  | none => rfl
  | some x => rw [e] at h; cases h
theorem atE_of {L : List En} {pg : Int} {x : En} (h : atV L pg = some x) : atE L pg = x := by unfold atE; rw [h]; rfl
theorem pout {L : List En} (h : MapL L) {B : VAct} (h1 : 1 ≤ B.k) (h5 : B.k ≤ 5) {pg : Int} (hn : ¬ inV L B pg) {x y : En} {d f : Bool} (hx : atE L pg = x) (hd : (atV L pg).isSome = d)
    (hy : atE (stepV L B).l pg = y) (hf : (atV (stepV L B).l pg).isSome = f) : f = d ∧ (d = true → { x with s := y.s, e := y.e, o := y.o } = y) := by
  obtain ⟨e1, e2⟩ := at_same (pages_out h h1 h5 hn).symm
  refine ⟨by rw [← hf, ← hd, e1], fun hdt => ?_⟩
  cases q1 : atV L pg with
  | none => rw [q1] at hd; subst hdt; cases hd
  | some x' =>
    cases q2 : atV (stepV L B).l pg with
    | none => rw [q1, q2] at e1; cases e1
    | some y' =>
      have e3 := e2 _ _ q1 q2
      rw [← hx, ← hy, atE_of q1, atE_of q2]
      exact e3
theorem pun {L : List En} (h : MapL L) {B : VAct} (h1 : B.k = 1) {pg : Int} (hn : inV L B pg) {d f : Bool} (hd : (atV L pg).isSome = d)
    (hf : (atV (stepV L B).l pg).isSome = f) : f = false ∧ hasB (stepV L B).gone pg = d := by
  obtain ⟨e1, e2⟩ := pages_unmap h h1 hn
  refine ⟨by rw [← hf, at_none' e1]; rfl, ?_⟩
  rw [hasB_page, e2, ← hd, at_page]
  cases atV L pg <;> rfl
theorem pset {L : List En} (h : MapL L) {B : VAct} (h2 : 2 ≤ B.k) (h5 : B.k ≤ 5) {pg : Int} (hn : inV L B pg) {x y : En} {d f : Bool} (hx : atE L pg = x) (hd : (atV L pg).isSome = d)
    (hy : atE (stepV L B).l pg = y) (hf : (atV (stepV L B).l pg).isSome = f) : d = true ∧ f = true ∧ { setA B x with s := y.s, e := y.e, o := y.o } = y := by
  obtain ⟨v, e1, e2⟩ := pages_set h h2 h5 hn
  obtain ⟨x', y', q1, q2, q3⟩ := at_set e1 e2
  refine ⟨by rw [← hd, q1]; rfl, by rw [← hf, q2]; rfl, ?_⟩
  rw [← hx, ← hy, atE_of q1, atE_of q2]
  exact q3
open Go.ChangeShapes Go.WideShapes Go.ChangeAt Go.RowKit Go.Deep
/-- A box of the round's own turns: the law's world grows all the same. -/
theorem set_new {w0 w : World} {y : Nat} (o : Nat) (v : Value) (g : w0.grownBy w none) (hy : w0.heap.size ≤ y) : w0.grownBy (w.setCell ⟨y, o, none⟩ v) none :=
  Turn.noGrown ((Turn.grown (O := [y]) g).trans' (Turn.setCell [y] _ _ _ _ (by simp))) fun b hb => by
    have : b = y := by simpa using hb
    omega
theorem box_same {w : World} {y : Nat} {x : En} (h : EnB w y x) (a b c : Int) : EnB (((w.setCell ⟨y, 0, none⟩ (.int .i64 a)).setCell ⟨y, 1, none⟩ (.int .i64 b)).setCell ⟨y, 3, none⟩ (.int .i64 c)).drew y { x with s := a, e := b, o := c } := by
  have h1 := heap_setCell_same w y 0 _ _ (.int .i64 a) h
  simp only [List.setIfInBounds_toArray, List.set_cons_zero, List.set_cons_succ] at h1
  have h2 := heap_setCell_same _ y 1 _ _ (.int .i64 b) h1
  simp only [List.setIfInBounds_toArray, List.set_cons_zero, List.set_cons_succ] at h2
  have h3 := heap_setCell_same _ y 3 _ _ (.int .i64 c) h2
  simp only [List.setIfInBounds_toArray, List.set_cons_zero, List.set_cons_succ] at h3
  exact EnB.grow h3 (grown_drew1 _)
theorem same_turn (w : World) (y : Nat) (a b c : Int) : Turn [y] w (((w.setCell ⟨y, 0, none⟩ (.int .i64 a)).setCell ⟨y, 1, none⟩ (.int .i64 b)).setCell ⟨y, 3, none⟩ (.int .i64 c)).drew :=
  Turn.trans' (Turn.trans' (Turn.trans' (Turn.setCell [y] _ _ _ _ (by simp)) (Turn.setCell [y] _ _ _ _ (by simp))) (Turn.setCell [y] _ _ _ _ (by simp))) (Turn.grown (grown_drew1 _))
theorem EOwn.turned {w w' : World} {base y : Nat} {u : Value} {L : List En} (h : EOwn w base u L) (t : Turn [y] w w') (hy : ∀ b, u.ownBlock = some b → b ≠ y) : EOwn w' base u L := by
  exact OwnOf.kept h fun b hb => t.block b (OwnOf.lt h hb).2 (by have := hy b hb; simpa using this)
end Go.Proofs.Ytamkmmhjmpjibaa
