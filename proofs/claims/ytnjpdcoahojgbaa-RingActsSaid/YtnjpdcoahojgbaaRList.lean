/- list: those of a row, as many as are wanted. -/
import Derived.Test.YtnjpdcoahojgbaaRVals
namespace Go.Proofs.Ytnjpdcoahojgbaa.RInt
open Go.ChangeShapes Go.WideShapes Go.ChangeAt Go.RowKit
set_option linter.unusedVariables false
attribute [local go_sem] Oper.semAt_some

/-- As many as are wanted; all, if fewer than none are. -/
def cutM (most : Int) (xs : List Int) : List Int := if most < 0 then xs else xs.take most.toNat

/-- A slice of just these numbers, in new memory. -/
def Listed (w : World) (xs : List Int) (e : Ending) (w' : World) : Prop := ∃ v, e = .returned v ∧ Nums w' w.heap.size v xs ∧ Below w.heap.size w w'

/-- All, at whatever world. -/
def Tells (w : World) (p : Option Addr) (r : Int) (xs : List Int) : Prop := Calls Try.prog 32 #[.pointer p, .int .i64 r] w (Told w xs)

theorem eql_func_nil (w : World) (fn : Fn) (a b : Array Value) : (binOp .eql 44 (.func fn a b) .nilFunc).run Try.prog w = .ok (.bool false) w := by
  have h1 : ∀ d : Nat, (Op.equalIn (d + 1) 44 (.func fn a b) .nilFunc).run Try.prog w = .ok false w := fun d => by
    simp [Op.equalIn, run_underlying Try.underlying44]
  simp only [binOp]
  simp [Op.equal, Op.maxDepth, h1 9999]

set_option maxRecDepth 100000 in
set_option maxHeartbeats 2000000 in
theorem list_of (w : World) (p : Option Addr) (r most : Int) (xs : List Int) (hx : xs.length ≤ 4096) (h : Tells (w.alloc (.cells #[.int .i64 most] 3)) p r xs) :
    Calls Try.prog 30 #[.pointer p, .int .i64 r, .int .i64 most] w (Listed w (cutM most xs)) := by
  have H := Lib.hid h
  clear h
  refine (callsIn_wide (n := 9)).1 ?_
  refine callsIn_of_wp_marks Try.func30 rfl trivial ?_ rfl
  simp only [Try.ntmps30, List.size_toArray, List.length_cons, List.length_nil, Nat.reduceAdd, Nat.reduceSub, Array.replicate_succ, Array.replicate_zero, List.push_toArray, List.append_toArray, List.nil_append, List.cons_append]
  gi_wp2_with fail
  refine ⟨trivial, ?_⟩
  refine (callsIn_wide.2 H.out).mono ?_
  rintro e w1 ⟨B, v1, rfl, hc1, hn1, hB1, hB1', hv1, hb1⟩
  have hq := eql_func_nil w1 (.func 55) #[] #[.pointer (some ⟨B, 0, none⟩)]
  gi_wp2_with fail
  obtain ⟨s1, c1, rfl⟩ := hn1.form
  have hI := hn1.ints
  have hm0 : (w.alloc (.cells #[.int .i64 most] 3)).heap.size = w.heap.size + 1 := by simp
  rw [hm0] at hn1 hB1
  have hbw : Below w.heap.size w (w.alloc (.cells #[.int .i64 most] 3)) := (Below.refl _ _).alloc (Nat.le_refl _) _
  have hbw1 : Below w.heap.size w w1 := hbw.trans (hb1.mono (by rw [hm0]; omega))
  have hlt1 : w.heap.size + 1 ≤ w1.heap.size := by have := hb1.size; rw [hm0] at this; exact this
  have hB0 : Below w.heap.size w (w1.alloc (.cells #[.slice none 0 0] 34)) := hbw1.alloc hbw1.size _
  have hbA : Below w1.heap.size w1 (w1.alloc (.cells #[.slice none 0 0] 34)) := (Below.refl _ _).alloc (Nat.le_refl _) _
  have bO := Boxed.new w1 34 (.slice none 0 0)
  have bM : Boxed (w1.alloc (.cells #[.slice none 0 0] 34)) w.heap.size 3 (.int .i64 most) := by
    have h0 := Boxed.new w 3 (.int .i64 most)
    have h1 : Boxed w1 w.heap.size 3 (.int .i64 most) := (hb1.block _ (by rw [hm0]; omega)).trans h0
    exact h1.alloc _
  have hsz1 : (w1.alloc (.cells #[.slice none 0 0] 34)).heap.size = w1.heap.size + 1 := by simp
  have hG2 : ∀ g, g ∈ (Value.slice s1 xs.length c1).ownBlock.toList → g < w1.heap.size := by
    intro g hg
    exact (hn1.lt (by simpa using hg)).2
  have hG : ∀ a, s1 = some a → xs.length ≠ 0 → a.block ∈ (Value.slice s1 xs.length c1).ownBlock.toList := by
    intro a ha _
    rw [ha]
    simp [Value.ownBlock]
  obtain ⟨i0, hi, hz0, hz1, hz2⟩ := info_parts info_int
  refine wpIn_rangeFunc_ownG rfl (by omega) (gf := 55) (lb := #[.pointer (some ⟨B, 0, none⟩)]) rfl trivial (enters_of Try.func55 (by kernel_rfl) rfl)
    (values_stops (fun x : Int => x) 8 (by omega) B s1 c1 xs (by omega) _ hG _ ((hbA.cell (p := ⟨B, 0, none⟩) hB1').trans hc1) (by rw [List.map_id']; exact hI.below hbA)) (fun h k => kpB_t h k) (kpB_b (by intro k hk; rw [hsz1]; have := hG2 k hk; omega)) (Below.refl _ _) (fun _ => rfl)
    (fun pre W => (∃ v, Boxed W w1.heap.size 34 v ∧ W.ownsRow (w1.heap.size + 1) 3 1 v pre.length (pre.map (Value.int .i64)) ∧ True) ∧ Boxed W w.heap.size 3 (.int .i64 most) ∧ Below w.heap.size w W ∧ w1.heap.size + 1 ≤ W.heap.size ∧ ∀ i : Nat, i < pre.length → (i : Int) ≠ most)
    (fun c pre W => (∃ ini last, pre = ini ++ [last] ∧ ((ini.length : Int) = most) ∧ ∃ v, Boxed W w1.heap.size 34 v ∧ W.ownsRow (w1.heap.size + 1) 3 1 v ini.length (ini.map (Value.int .i64)) ∧ True) ∧ c = .exit 0 ∧ Below w.heap.size w W)
    (OwnFrom.and (Own.from (holdsRow_own (w1.heap.size + 1) w1.heap.size 34 3 1 (fun pre : List Int => pre.length) (fun pre : List Int => pre.map (Value.int .i64)) (fun _ _ => True)) _) (OwnFrom.and (Own.from (boxed_own _ _ _) _) (OwnFrom.and (ownFrom_below (Nat.le_refl _) (by rw [hsz1]; omega)) (OwnFrom.and (fun s A B row hs hg _ => Nat.le_trans hs hg.size) (ownFrom_pure _ _)))))
    (fun c => OwnFrom.and (fun s A B row hs hg hr => by
      obtain ⟨ini, last, e1, e2, h3⟩ := hs
      exact ⟨ini, last, e1, e2, holdsRow_own (w1.heap.size + 1) w1.heap.size 34 3 1 (fun pre : List Int => pre.length) (fun pre : List Int => pre.map (Value.int .i64)) (fun _ _ => True) ini A B row h3 hg (fun r e => (hr r e).2)⟩) (OwnFrom.and (ownFrom_pure _ _) (ownFrom_below (Nat.le_refl _) (by rw [hsz1]; omega))))
    ⟨⟨_, bO, World.ownsRow_nil _ _ _ _, trivial⟩, bM, hB0, by rw [hsz1]; exact Nat.le_refl _, fun i hi => by simp at hi⟩
    (fun x => { tmps := #[.pointer p, .int .i64 r, .int .i64 most, undef, undef, .pointer (some ⟨w.heap.size, 0, none⟩), .slice none 0 0, .func (.func 55) #[] #[.pointer (some ⟨B, 0, none⟩)], .pointer (some ⟨w1.heap.size, 0, none⟩), .int .i64 x, .pointer p, .int .i64 r, .func (.func 55) #[] #[.pointer (some ⟨B, 0, none⟩)], .func (.func 55) #[] #[.pointer (some ⟨B, 0, none⟩)], .bool false, undef, .func (.func 55) #[] #[.pointer (some ⟨B, 0, none⟩)], .int .i64 x, undef, undef, undef, undef, undef, undef, undef, undef, undef], defers := [] }) ?assign ?body ?done ?stop
  case assign =>
    intro l x W K hK
    gi_wp2
    exact hK
  case body =>
    rintro l pre x W ⟨⟨v, hv, hrow, _⟩, hmo, hB, hsz, hne⟩ hlt
    have hN : Nums W (w1.heap.size + 1) v pre := hrow
    obtain ⟨a, c, rfl⟩ := hN.form
    have hc := hv.cell
    have hcm := hmo.cell
    by_cases hm : (pre.length : Int) = most
    · have hmb : ((pre.length : Int) == most) = true := by simpa using hm
      have HM := Lib.hid hm
      have HV := Lib.hid hv
      have HR := Lib.hid hrow
      have HB := Lib.hid hB
      clear hm hv hrow hB hN hne hmo
      gi_wp2
      exact ⟨KeepsFrom.refl _ _, ⟨pre, x, rfl, HM.out, _, HV.out, HR.out, trivial⟩, rfl, HB.out⟩
    · have hmb : ((pre.length : Int) == most) = false := by simpa using hm
      have HM := Lib.hid hm
      have HNE := Lib.hid hne
      have HMO := Lib.hid hmo
      clear hm hne hmo
      have hrow0 : W.ownsRow w1.heap.size 3 1 (.slice a pre.length c) pre.length (pre.map (Value.int .i64)) := Nums.lower (base := w1.heap.size + 1) (xs := pre) hrow (by omega)
      gi_wp2_with (gi_at_builtin; refine wpListIn_append_own _ rfl _ _ 34 rfl (w1.heap.size + 1) 3 i0 (.int .i64 0) 1 8 Try.underlying34 hi hz0 hz1 hz2 rfl (by decide) _ _ _ rfl (hrow.alloc _) ⟨W.heap.size, 0, none⟩ 1 1 [.int .i64 x] rfl rfl (cell_one_new _ _ _) (by simp [Value.oneCell']) (by unfold maxLen; omega) (by omega) (by simp; omega) ?_; intro v' w2 hown' hgrow _; obtain ⟨g', cap', rfl⟩ := ownsRow_succ hown'; obtain ⟨hv1, hv2, hr2, hk2, hb2⟩ := hv.appended (by decide) hrow0 (by omega) (Nat.le_refl _) (Nums.lower (base := w1.heap.size + 1) (xs := pre ++ [x]) (by unfold Nums; simpa using hown') (by omega)) hgrow; have hc1 := hv1.cell; have hf1 := hv1.frozen)
      have hr3 := World.ownsRow.kept hown' (grownBy_setCell' w2 w1.heap.size (.slice (some ⟨g', 0, none⟩) (pre.length + 1) cap')) (.inr (hv1.not_row (by decide) hown').symm)
      have hkp : KpB (Value.slice s1 xs.length c1).ownBlock.toList W (w2.setCell ⟨w1.heap.size, 0, none⟩ (.slice (some ⟨g', 0, none⟩) (pre.length + 1) cap')) := by
        intro k hk
        have k1 := hG2 k hk
        exact hb2.block k k1
      have hmo' : Boxed (w2.setCell ⟨w1.heap.size, 0, none⟩ (.slice (some ⟨g', 0, none⟩) (pre.length + 1) cap')) w.heap.size 3 (.int .i64 most) := (hb2.block _ (by omega)).trans HMO.out
      refine ⟨hk2.from _, hkp, ⟨_, hv2, ?_, trivial⟩, hmo', hB.trans (hb2.mono (by omega)), Nat.le_trans hsz hb2.size, ?_⟩
      · simpa using hr3
      · intro i hi
        rw [List.length_append, List.length_singleton] at hi
        by_cases hil : i < pre.length
        · exact HNE.out i hil
        · obtain rfl : i = pre.length := by omega
          exact HM.out
  case done =>
    rintro D ys W hD rfl ⟨⟨v, hv, hrow, _⟩, hmo, hB, hsz, hne⟩ hK
    have hN : Nums W (w1.heap.size + 1) v ys := hrow
    have hc := hv.cell
    have HNE := Lib.hid hne
    clear hne hmo
    gi_wp2
    refine ⟨by simp, .inl ⟨_, _, rfl, run_takeDeferred hK, ?_⟩⟩
    have hDn : w.heap.size ≤ D := by rw [hsz1] at hD; omega
    refine ⟨_, results_tmp rfl _ _ _, v, rfl, ?_, hB.trans (belowK_b (w := w) (Nat.le_refl _) W D _ _ hDn hK rfl rfl)⟩
    have hcut : cutM most ys = ys := by
      unfold cutM
      by_cases h0 : most < 0
      · rw [if_pos h0]
      · rw [if_neg h0]
        refine List.take_of_length_le ?_
        rcases Nat.lt_or_ge most.toNat ys.length with h1 | h1
        · exact absurd (by omega) (HNE.out _ h1)
        · exact h1
    rw [hcut]
    exact Nums.lower (ownsRow_putObj hrow _ hK rfl) (by omega)
  case stop =>
    rintro D c pre W hD hpre ⟨⟨ini, last, rfl, hmost, v, hv, hrow, _⟩, rfl, hB⟩ hK
    have hN : Nums W (w1.heap.size + 1) v ini := hrow
    have hc := hv.cell
    have HM := Lib.hid hmost
    clear hmost
    gi_wp2
    refine ⟨by simp, .inl ⟨_, _, rfl, run_takeDeferred hK, ?_⟩⟩
    have hDn : w.heap.size ≤ D := by rw [hsz1] at hD; omega
    refine ⟨_, results_tmp rfl _ _ _, v, rfl, ?_, hB.trans (belowK_b (w := w) (Nat.le_refl _) W D _ _ hDn hK rfl rfl)⟩
    have hcut : cutM most xs = ini := by
      obtain ⟨t, ht⟩ := hpre
      unfold cutM
      rw [if_neg (by have := HM.out; omega), ← ht, List.append_assoc]
      have : most.toNat = ini.length := by have := HM.out; omega
      rw [this, List.take_left']
      rfl
    rw [hcut]
    exact Nums.lower (ownsRow_putObj hrow _ hK rfl) (by omega)
end Go.Proofs.Ytnjpdcoahojgbaa.RInt
