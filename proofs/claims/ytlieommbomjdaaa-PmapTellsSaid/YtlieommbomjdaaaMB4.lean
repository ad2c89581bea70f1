/- PmapFull, walked out of what package pmap says. The laws' put and without: rising numbers with one more, with one less. The laws' put and without, walked. A space, beside other blocks of the law's own (B) that it does not touch; one that has been entered into, by its beginnings. -/
import Derived.Test.YtlieommbomjdaaaMB3
namespace Go.Proofs.Ytlieommbomjdaaa
open Go.ChangeShapes Go.WideShapes Go.ChangeAt Go.RowKit Go.Deep
set_option linter.unusedVariables false

theorem leafE_lv {n : Nat} {s : MS} {a r v : Int} (h : Inv7 n s a r) (hv : okV v) : leafE n s.W r v = none ↔ ¬ Lv s r v := by
  unfold leafE
  rw [Option.map_eq_none_iff]
  constructor
  · intro h0 ⟨y, f, hy⟩
    have := (h.ok.leaf_iff h.root).2 ⟨hv, hy⟩
    rw [h0] at this
    cases this
  · intro h0
    cases hl : leafW n s.W r v with
    | none => rfl
    | some q =>
      obtain ⟨f, y⟩ := q
      have := (h.ok.leaf_iff h.root).1 hl
      exact (h0 ⟨y, f, this.2⟩).elim
theorem full_model {n : Nat} {s : MS} {r v fr p : Int} (h : Inv1 n s 1 r) (h0 : s.N = 1) (hno : ∀ u, ¬ Lv s r u) (hn : n ≤ 3) (hv : 0 ≤ v ∧ v < 67108864) (hp : 1 ≤ p ∧ p ≤ 7) (hf : 0 ≤ fr ∧ fr < n) :
    ∃ e s1, enterM n 1 r v fr p s = (e, s1) ∧ Inv1 n s1 1 r ∧ (n = 3 → e = 0 ∧ s1.N = 3 ∧ (∃ q, leafE n s1.W r v = some q) ∧ countF s1.xs 0 = 0) ∧ (n ≠ 3 → e = 5 ∧ s1.N = 1 ∧ leafE n s1.W r v = none ∧ countF s1.xs 0 = n - 1) := by
  have hV : okV v := ⟨hv.1, by have := hv.2; omega⟩
  have hk := h.enter (v := v) (fr := fr) (p := p)
  have hft := hk.inv.ok.free_tot
  have htl := hk.inv.ok.tot_le
  have htot := hk.tot
  have hnN := fun he => h.inv.enterN hv hp hf he
  rw [if_neg (fun ⟨u, _, q, _⟩ => hno u q), if_neg (fun ⟨u, _, q, _⟩ => hno u q), h0] at hnN
  refine ⟨(enterM n 1 r v fr p s).1, (enterM n 1 r v fr p s).2, rfl, hk, fun h3 => ?_, fun h3 => ?_⟩
  · have he := h.fits (v := v) (p := p) (fr := fr) hv hp hf (by omega)
    have hN := hnN he
    refine ⟨he, hN, ?_, by omega⟩
    have hl := (h.inv.enterL hv hp hf he hV).2 (.inl rfl)
    cases hq : leafE n (enterM n 1 r v fr p s).2.W r v with
    | some q => exact ⟨q, rfl⟩
    | none => exact ((leafE_lv hk.inv hV).1 hq hl).elim
  · have he : (enterM n 1 r v fr p s).1 ≠ 0 := fun he => by
      have := hnN he
      omega
    have hh : ∀ u, okV u → ∀ y, _ := fun u hu y => h.inv.ok.enter1_has h.inv.root (kind_flags p fr hp) (v := v) hV h.inv.root hu (y := y)
    rw [enterM_in hv hp hf] at he hk hft htl htot ⊢
    have e5 : (enter1 n 1 r v (encOf (flagsOf p true) fr) s).1 = 5 := by
      rcases (hh v hV 0).1 with e | e
      · exact (he e).elim
      · exact e
    have hlv : ∀ u, okV u → ¬ Lv (enter1 n 1 r v (encOf (flagsOf p true) fr) s).2 r u := fun u hu ⟨y, hy⟩ => by
      have := ((hh u hu y).2).1 hy
      rw [if_neg (fun q => he q.1)] at this
      exact hno u ⟨y, this⟩
    have hN := hk.inv.lone hlv
    exact ⟨e5, hN, (leafE_lv hk.inv hV).2 (hlv v hV), by omega⟩

set_option maxRecDepth 100000 in
set_option maxHeartbeats 4000000 in
theorem full_walk {S : SpP} {Z : World → Nat → List Nat → Prop} (H : PmOk S Z) (w : World) (n0 v f0 p0 : Int) (hn : okU n0) (hv : okI v) (hf : okU f0) (hp : okU p0) :
    Calls Try.prog 4 #[.int .u64 n0, .int .i64 v, .agg #[.int .u64 f0, .int .u64 p0]] w fun e w' => e = .returned (.bool true) ∧ w.grownBy w' none := by
  have HH := Lib.hid H
  have HL := Lib.hid (lives7 H)
  obtain ⟨n1, n2⟩ := hn
  obtain ⟨f1, f2⟩ := hf
  obtain ⟨p1, p2⟩ := hp
  have ga := World.grownBy_alloc w (.cells #[.int .u64 f0, .int .u64 p0] 42 (0, 0)) none
  have hb := heap_alloc_new w (.cells #[.int .u64 f0, .int .u64 p0] 42 (0, 0))
  have c0 : (w.alloc (.cells #[.int .u64 f0, .int .u64 p0] 42 (0, 0))).cell? ⟨w.heap.size, 0, none⟩ = some (.int .u64 f0) := by rw [cell_of_row _ _ _ _ _ _ hb]; rfl
  have c1 : (w.alloc (.cells #[.int .u64 f0, .int .u64 p0] 42 (0, 0))).cell? ⟨w.heap.size, 1, none⟩ = some (.int .u64 p0) := by rw [cell_of_row _ _ _ _ _ _ hb]; rfl
  have HG := Lib.hid ga
  obtain ⟨k, hk⟩ : ∃ k : Nat, 1 + n0 % 3 = (k : Int) := ⟨(1 + n0 % 3).toNat, by omega⟩
  have hk1 : 1 ≤ k := by omega
  have hk3 : k ≤ 3 := by omega
  have HOk := Lib.hid (show okI (f0 % k) ∧ okI (1 + p0 % 7) ∧ (0 ≤ f0 % (k : Int) ∧ f0 % (k : Int) < k) ∧ (1 ≤ 1 + p0 % 7 ∧ 1 + p0 % 7 ≤ 7) by
    have q1 := Int.emod_nonneg f0 (show (k : Int) ≠ 0 by omega)
    have q2 := Int.emod_lt_of_pos f0 (show (0 : Int) < k by omega)
    unfold okI
    omega)
  have fk0 : (0 : Int) ≤ f0 % (k : Int) := HOk.out.2.2.1.1
  have fk1 : f0 % (k : Int) ≤ 9223372036854775807 := by have := HOk.out.2.2.1.2; omega
  have HV := Lib.hid hv
  clear ga hb H hv
  go_enter Try.func4, Try.ntmps4
  go_wp2_with fail
  go_quiet (fail)
  have HGd := Lib.hid (grown_trans HG.out (grown_drewN _ nq none))
  generalize (w.alloc (.cells #[.int .u64 f0, .int .u64 p0] 42 (0, 0))).drewN nq = wa at *
  have HN := Lib.hid (newE w (below_of_grown HGd.out (Nat.le_refl _) (by simp)) (1 + n0 % 3) k hk hk1 (by omega))
  obtain ⟨M, hM⟩ : ∃ M : List UInt8, List.replicate (k * 4096) 0 = M := ⟨_, rfl⟩
  rw [hM] at HN
  have HKk := Lib.hid hk
  rw [hk] at HN
  clear hM HG HGd c0 c1
  go_wp2_with fail
  refine HN.out.mono ?_
  rintro e wb ⟨rfl, h1, g1⟩
  have HP := Lib.hid (pm_start h1 hk1 (by omega) k rfl)
  generalize wa.heap.size + 1 = m at *
  generalize wa.heap.size = d at *
  clear h1 g1 HN
  go_wp2_with fail
  refine HP.out.mono ?_
  rintro e wc ⟨p, O, rfl, h2, -, -⟩
  have HF := Lib.hid (pm_first HH.out h2 hk1 (by omega) 1 (ok_s7 (by decide) (by decide)))
  clear h2 HP
  go_wp2_with fail
  refine HF.out.mono ?_
  rintro e wd ⟨x, O3, OX3, r, s, rfl, h3, hi, hN, hno, -⟩
  have H3 := Lib.hid (show PXn S w wd m d k p x 1 r s from ⟨O3, OX3, h3⟩)
  have HI := Lib.hid hi
  have H0 := Lib.hid hN
  have HNo := Lib.hid hno
  clear h3 hi hN hno HF
  rcases (show v < 0 ∨ (¬ v < 0 ∧ 67108864 ≤ v) ∨ (¬ v < 0 ∧ ¬ 67108864 ≤ v) by omega) with hc | ⟨hc, hc2⟩ | ⟨hc, hc2⟩
  · have d0 : decide (v < 0) = true := by simpa using hc
    clear hc
    go_wp2_with fail
    refine (HL.out _).mono ?_
    rintro e w9 ⟨rfl, g9⟩
    have HG9 := Lib.hid (grown_trans H3.out.low g9)
    clear g9
    go_wp2_with fail
    go_ret
    exact ⟨rfl, HG9.out⟩
  · have d0 : decide (v < 0) = false := by simpa using hc
    have d1 : decide (v ≥ 67108864) = true := by simpa using hc2
    clear hc hc2
    go_wp2_with fail
    refine (HL.out _).mono ?_
    rintro e w9 ⟨rfl, g9⟩
    have HG9 := Lib.hid (grown_trans H3.out.low g9)
    clear g9
    go_wp2_with fail
    go_ret
    exact ⟨rfl, HG9.out⟩
  · have d0 : decide (v < 0) = false := by simpa using hc
    have d1 : decide (v ≥ 67108864) = false := by simpa using hc2
    obtain ⟨e0, s1, hE, hi1, h3a, h3b⟩ := full_model HI.out H0.out HNo.out hk3 (v := v) (p := 1 + p0 % 7) (fr := f0 % k) ⟨by omega, by omega⟩ HOk.out.2.2.2 HOk.out.2.2.1
    have hE2 := H3.out.enter HH.out HI.out.inv v (f0 % k) (1 + p0 % 7) HV.out HOk.out.1 HOk.out.2.1
    rw [hE] at hE2
    have HE := Lib.hid hE2
    have HI1 := Lib.hid hi1
    clear hE hE2 hi1 hc hc2
    by_cases h3 : k = 3
    · obtain ⟨q1, q2, ⟨⟨A, B⟩, q3⟩, q4⟩ := h3a h3
      have Q2 := Lib.hid q2
      have Q3 := Lib.hid q3
      have Q4 := Lib.hid q4
      subst q1
      clear h3a h3b q2 q3 q4
      have b3 : ((k : Int) == 3) = true := by simp [h3]
      clear h3
      go_wp2_with fail
      refine HE.out.mono ?_
      rintro e we ⟨rfl, h5⟩
      have q := h5.find HH.out HI1.out.inv v HV.out
      rw [show leafE k ((0 : Int), s1).2.W r v = some (A, B) from Q3.out] at q
      have Q := Lib.hid (show Calls Try.prog 22 #[.pointer (some ⟨x, 0, none⟩), .int .i64 v] we fun e w' => e = .returned (.tuple #[.agg #[.int .i64 A, .int .i64 B], .bool true]) ∧ we.grownBy w' none ∧ PXn S w w' m d k p x 1 r s1 from q)
      clear h5 q HE
      go_wp2_with fail
      refine Q.out.mono ?_
      rintro e wf ⟨rfl, -, h6⟩
      have h7 := h6.grow HH.out (World.grownBy_alloc wf (.cells #[.int .i64 A, .int .i64 B] 44 (0, 0)) none)
      have q := h7.tables HH.out HI1.out.inv
      rw [Q2.out] at q
      have QT := Lib.hid q
      clear h6 h7 q Q
      go_wp2_with fail
      refine QT.out.mono ?_
      rintro e wg ⟨rfl, h8⟩
      have q := h8.free HH.out
      rw [Q4.out] at q
      have QF := Lib.hid q
      clear h8 q QT
      go_wp2_with fail
      refine QF.out.mono ?_
      rintro e wh ⟨rfl, h9⟩
      have HG8 := Lib.hid h9.low
      clear h9 QF
      go_wp2_with fail
      refine (HL.out _).mono ?_
      rintro e w9 ⟨rfl, g9⟩
      have HG9 := Lib.hid (grown_trans HG8.out g9)
      clear g9
      go_wp2_with fail
      go_ret
      exact ⟨rfl, HG9.out⟩
    · obtain ⟨q1, q2, q3, q4⟩ := h3b h3
      have Q2 := Lib.hid q2
      have Q3 := Lib.hid q3
      have Q4 := Lib.hid q4
      subst q1
      clear h3a h3b q2 q3 q4
      have b3 : ((k : Int) == 3) = false := by simp; omega
      clear h3
      go_wp2_with fail
      refine HE.out.mono ?_
      rintro e we ⟨rfl, h5⟩
      have q := h5.find HH.out HI1.out.inv v HV.out
      rw [show leafE k ((5 : Int), s1).2.W r v = none from Q3.out] at q
      have Q := Lib.hid (show Calls Try.prog 22 #[.pointer (some ⟨x, 0, none⟩), .int .i64 v] we fun e w' => e = .returned (.tuple #[.agg #[.int .i64 0, .int .i64 0], .bool false]) ∧ we.grownBy w' none ∧ PXn S w w' m d k p x 1 r s1 from q)
      clear h5 q HE
      go_wp2_with fail
      refine Q.out.mono ?_
      rintro e wf ⟨rfl, -, h6⟩
      have h7 := h6.grow HH.out (World.grownBy_alloc wf (.cells #[.int .i64 0, .int .i64 0] 44 (0, 0)) none)
      have q := h7.tables HH.out HI1.out.inv
      rw [Q2.out] at q
      have QT := Lib.hid q
      clear h6 h7 q Q
      go_wp2_with fail
      refine QT.out.mono ?_
      rintro e wg ⟨rfl, h8⟩
      have q := h8.free HH.out
      rw [Q4.out] at q
      have QF := Lib.hid q
      clear h8 q QT
      go_wp2_with fail
      refine QF.out.mono ?_
      rintro e wh ⟨rfl, h9⟩
      have HG8 := Lib.hid h9.low
      clear h9 QF
      go_wp2_with fail
      refine (HL.out _).mono ?_
      rintro e w9 ⟨rfl, g9⟩
      have HG9 := Lib.hid (grown_trans HG8.out g9)
      clear g9
      go_wp2_with fail
      go_ret
      exact ⟨rfl, HG9.out⟩
end Go.Proofs.Ytlieommbomjdaaa

namespace Go.Proofs.Ytlieommbomjdaaa
open Go.ChangeShapes Go.WideShapes Go.ChangeAt Go.RowKit Go.Deep
set_option linter.unusedVariables false

/-- A row of numbers. -/
def IOwn (w : World) (base : Nat) (v : Value) (xs : List Int) : Prop := w.ownsRow base 3 1 v xs.length (xs.map (Value.int .i64))
theorem IOwn.nil (w : World) (base : Nat) : IOwn w base (.slice none 0 0) [] := World.ownsRow_nil _ _ _ _
theorem IOwn.lt {w : World} {base : Nat} {v : Value} {xs : List Int} (h : IOwn w base v xs) {g : Nat} (hg : v.ownBlock = some g) : base ≤ g ∧ g < w.heap.size := World.ownsRow.lt h g hg
theorem IOwn.lower {w : World} {b b' : Nat} {v : Value} {xs : List Int} (h : IOwn w b v xs) (hb : b' ≤ b) : IOwn w b' v xs := by
  refine ⟨h.1, ?_⟩
  rcases h.2 with hn | ⟨g, cap, cur, rfl, hb2, rest⟩
  · exact .inl hn
  · exact .inr ⟨g, cap, cur, rfl, Nat.le_trans hb hb2, rest⟩
theorem IOwn.kept {w w' : World} {base : Nat} {v : Value} {xs : List Int} (h : IOwn w base v xs) (hb : ∀ b, v.ownBlock = some b → w'.heap[b]? = w.heap[b]?) : IOwn w' base v xs := by
  refine ⟨h.1, ?_⟩
  rcases h.2 with hn | ⟨g, cap, cur, rfl, hb2, h1, h2⟩
  · exact .inl hn
  · exact .inr ⟨g, cap, cur, rfl, hb2, (hb g rfl).trans h1, h2⟩
theorem IOwn.grow {w w' : World} {base : Nat} {v : Value} {xs : List Int} (h : IOwn w base v xs) (g : w.grownBy w' none) : IOwn w' base v xs := h.kept fun b hb => g.block b (h.lt hb).2 (by simp)
/-- What the row is as a value, and where its numbers stand. -/
theorem IOwn.form {w : World} {base : Nat} {v : Value} {xs : List Int} (h : IOwn w base v xs) : ∃ s c, v = .slice s xs.length c ∧ (xs = [] ∨ ∃ g, s = some ⟨g, 0, none⟩ ∧ ∀ (i : Nat) x, xs[i]? = some x → w.cell? ⟨g, i, none⟩ = some (.int .i64 x)) := by
  rcases h.2 with ⟨e, h0⟩ | ⟨g, cap, cur, e, _⟩
  · subst e
    exact ⟨none, 0, by rw [h0], .inl (List.length_eq_zero_iff.1 h0)⟩
  · subst e
    refine ⟨some ⟨g, 0, none⟩, cap, rfl, .inr ⟨g, rfl, fun i x hx => ?_⟩⟩
    have := h.cells (g := g) rfl i (.int .i64 x) (by simp [hx])
    rw [Addr.add_lit, Nat.zero_add] at this
    exact this

theorem info_int7 : (Try.prog.info? 3).map (fun i => (i.zero, i.size, i.bytes)) = some (some (.int .i64 0), 1, 8) := by kernel_rfl
/-- 'append(xs, y)'. -/
theorem wpList_int7 {ops : Array Oper} {rest : List Oper} {o : Oper} {a : Act} {Q : Exit → Act → World → Prop} (w : World) (hgd : o.guard = none) (s x : Operand)
    (ho : o.op = .call { callee := .builtin .append, args := #[s, x], argTypes := #[32, 32] }) (base : Nat) (v : Value) (xs : List Int) (y : Int) (hs : a.eval s = v) (h : IOwn w base v xs) (H c : Nat)
    (hx : a.eval x = .slice (some ⟨H, 0, none⟩) 1 c) (hH : w.heap.size = H) (hl : xs.length ≤ 1000000) (hbase : base ≤ H)
    (hK : ∀ g cap w', IOwn w' base (.slice (some ⟨g, 0, none⟩) (xs.length + 1) cap) (xs ++ [y]) → (w.alloc (.cells #[.int .i64 y] 3)).grownBy w' v.ownBlock → wpList Try.prog ops Q rest (a.put o.dst (.slice (some ⟨g, 0, none⟩) (xs.length + 1) cap)) w') :
    wpList Try.prog ops Q (o :: rest) a (w.alloc (.cells #[.int .i64 y] 3)) := by
  obtain ⟨i0, hi, hz0, hz1, hz2⟩ := info_parts info_int7
  subst hH
  refine wpList_append_lies _ hgd s x 32 ho base 3 i0 (.int .i64 0) 1 8 Try.underlying32 hi hz0 hz1 hz2 rfl (by decide) v xs.length (xs.map (Value.int .i64)) hs (World.ownsRow.alloc h _) ⟨w.heap.size, 0, none⟩ 1 c [.int .i64 y] hx rfl ?_ ?_ (by omega) (by unfold maxLen; omega) (by omega) (by simp; omega) (w.heap.size + 1) (by simp) ?_
  · exact World.news_of_block (heap_alloc_new w _)
  · intro u hu; simp at hu; subst hu; rfl
  · intro g cap w' hown hgrow hat hlt
    refine hK g cap w' ?_ hgrow
    unfold IOwn
    simp only [List.length_append, List.length_cons, List.length_nil, List.map_append, List.map_cons, List.map_nil]
    exact hown

def putL (xs : List Int) (n : Int) : List Int := xs.filter (fun x => decide (x < n)) ++ n :: xs.filter (fun x => decide (n < x))
def withoutL (xs : List Int) (n : Int) : List Int := xs.filter (fun x => decide (x ≠ n))
theorem putL_mem {xs : List Int} {n x : Int} : x ∈ putL xs n ↔ x = n ∨ x ∈ xs := by
  unfold putL
  simp only [List.mem_append, List.mem_filter, List.mem_cons, decide_eq_true_eq]
  constructor
  · rintro (⟨h, _⟩ | h | ⟨h, _⟩)
    · exact .inr h
    · exact .inl h
    · exact .inr h
  · rintro (h | h)
    · exact .inr (.inl h)
    · rcases (show x < n ∨ x = n ∨ n < x by omega) with h1 | h1 | h1
      · exact .inl ⟨h, h1⟩
      · exact .inr (.inl h1)
      · exact .inr (.inr ⟨h, h1⟩)
theorem putL_rise {xs : List Int} {n : Int} (h : xs.Pairwise (· < ·)) : (putL xs n).Pairwise (· < ·) := by
  unfold putL
  rw [List.pairwise_append, List.pairwise_cons]
  refine ⟨h.filter _, ⟨fun x hx => by simpa using (List.mem_filter.1 hx).2, h.filter _⟩, fun x hx y hy => ?_⟩
  have h1 : x < n := by simpa using (List.mem_filter.1 hx).2
  rcases List.mem_cons.1 hy with rfl | hy
  · exact h1
  · have : n < y := by simpa using (List.mem_filter.1 hy).2
    omega
theorem putL_len {xs : List Int} {n : Int} (h : xs.Pairwise (· < ·)) : (putL xs n).length = xs.length + if n ∈ xs then 0 else 1 := by
  induction xs with
  | nil => rfl
  | cons x xs ih =>
    rw [List.pairwise_cons] at h
    have ih := ih h.2
    unfold putL at ih ⊢
    rw [List.length_append, List.length_cons] at ih ⊢
    rw [List.filter_cons, List.filter_cons]
    rcases (show x < n ∨ x = n ∨ n < x by omega) with h1 | h1 | h1
    · rw [if_pos (by simpa using h1), if_neg (by simp; omega)]
      by_cases hm : n ∈ xs
      · rw [if_pos hm] at ih
        rw [if_pos (List.mem_cons_of_mem _ hm), List.length_cons, List.length_cons]
        omega
      · rw [if_neg hm] at ih
        rw [if_neg (by simp; exact ⟨by omega, hm⟩), List.length_cons, List.length_cons]
        omega
    · subst h1
      rw [if_neg (by simp), if_neg (by simp)]
      rw [if_neg (fun hm => by have := h.1 x hm; omega)] at ih
      rw [if_pos (by simp), List.length_cons]
      omega
    · rw [if_neg (by simp; omega), if_pos (by simpa using h1)]
      have : ¬ n ∈ xs := fun hm => by have := h.1 n hm; omega
      rw [if_neg this] at ih
      rw [if_neg (by simp; exact ⟨by omega, this⟩), List.length_cons, List.length_cons]
      omega
theorem withoutL_rise {xs : List Int} {n : Int} (h : xs.Pairwise (· < ·)) : (withoutL xs n).Pairwise (· < ·) := h.filter _
theorem withoutL_mem {xs : List Int} {n x : Int} : x ∈ withoutL xs n ↔ x ≠ n ∧ x ∈ xs := by
  unfold withoutL
  simp [List.mem_filter, and_comm]

/-- Where the loop of put stands. -/
def PutAt (xs : List Int) (n : Int) (j : Nat) (d : Bool) (ys : List Int) : Prop :=
  if d then ys = (xs.take j).filter (fun x => decide (x < n)) ++ n :: (xs.take j).filter (fun x => decide (n < x)) ∧ (∃ x, x ∈ xs.take j ∧ n ≤ x)
  else ys = xs.take j ∧ ∀ x, x ∈ xs.take j → x < n
theorem filter_all {xs : List Int} {p : Int → Bool} (h : ∀ x, x ∈ xs → p x = true) : xs.filter p = xs := List.filter_eq_self.2 h
theorem filter_none {xs : List Int} {p : Int → Bool} (h : ∀ x, x ∈ xs → p x = false) : xs.filter p = [] := List.filter_eq_nil_iff.2 fun x hx => by rw [h x hx]; simp
theorem rise_take {xs : List Int} (h : xs.Pairwise (· < ·)) {j : Nat} {x y : Int} (hx : xs[j]? = some x) (hy : y ∈ xs.take j) : y < x := by
  obtain ⟨i, hi⟩ := List.getElem?_of_mem hy
  rw [List.getElem?_take] at hi
  split at hi
  · rename_i hlt
    obtain ⟨h1, h2⟩ := List.getElem?_eq_some_iff.1 hi
    obtain ⟨h3, h4⟩ := List.getElem?_eq_some_iff.1 hx
    have := (List.pairwise_iff_getElem.1 h) i j h1 h3 hlt
    rw [h2, h4] at this
    exact this
  · cases hi
theorem take_snoc {xs : List Int} {j : Nat} {x : Int} (hx : xs[j]? = some x) : xs.take (j + 1) = xs.take j ++ [x] := by rw [List.take_add_one, hx]; rfl
section
variable {xs ys : List Int} {n x : Int} {j : Nat}
theorem PutAt.less (h : PutAt xs n j false ys) (hx : xs[j]? = some x) (hn : x < n) : PutAt xs n (j + 1) false (ys ++ [x]) := by
  obtain ⟨rfl, h2⟩ := h
  refine ⟨(take_snoc hx).symm, fun y hy => ?_⟩
  rw [take_snoc hx] at hy
  rcases List.mem_append.1 hy with hy | hy
  · exact h2 y hy
  · obtain rfl : y = x := by simpa using hy
    exact hn
theorem PutAt.same (h : PutAt xs n j false ys) (hx : xs[j]? = some n) : PutAt xs n (j + 1) true (ys ++ [n]) := by
  obtain ⟨rfl, h2⟩ := h
  refine ⟨?_, n, by rw [take_snoc hx]; simp, Int.le_refl _⟩
  rw [take_snoc hx, List.filter_append, List.filter_append, filter_all (fun y hy => by simpa using h2 y hy), filter_none (xs := xs.take j) (fun y hy => by have := h2 y hy; simp; omega)]
  simp
theorem PutAt.more (h : PutAt xs n j false ys) (hx : xs[j]? = some x) (hn : n < x) : PutAt xs n (j + 1) true (ys ++ [n] ++ [x]) := by
  obtain ⟨rfl, h2⟩ := h
  refine ⟨?_, x, by rw [take_snoc hx]; simp, Int.le_of_lt hn⟩
  rw [take_snoc hx, List.filter_append, List.filter_append, filter_all (fun y hy => by simpa using h2 y hy), filter_none (xs := xs.take j) (fun y hy => by have := h2 y hy; simp; omega)]
  have : ¬ x < n := by omega
  simp [hn, this]
theorem PutAt.rest (h : PutAt xs n j true ys) (hr : xs.Pairwise (· < ·)) (hx : xs[j]? = some x) : n < x ∧ PutAt xs n (j + 1) true (ys ++ [x]) := by
  obtain ⟨rfl, y, hy, hn⟩ := h
  have hyx := rise_take hr hx hy
  have hnx : n < x := by omega
  refine ⟨hnx, ?_, x, by rw [take_snoc hx]; simp, Int.le_of_lt hnx⟩
  rw [take_snoc hx, List.filter_append, List.filter_append]
  have : ¬ x < n := by omega
  simp [hnx, this]
theorem PutAt.done (h : PutAt xs n xs.length true ys) : ys = putL xs n := by
  obtain ⟨rfl, _⟩ := h
  rw [List.take_of_length_le (Nat.le_refl _)]
  rfl
theorem PutAt.last (h : PutAt xs n xs.length false ys) : ys ++ [n] = putL xs n := by
  obtain ⟨rfl, h2⟩ := h
  rw [List.take_of_length_le (Nat.le_refl _)] at h2 ⊢
  unfold putL
  rw [filter_all (fun y hy => by simpa using h2 y hy), filter_none (fun y hy => by have := h2 y hy; simp; omega)]
theorem PutAt.len {d : Bool} (h : PutAt xs n j d ys) : ys.length ≤ xs.length + 1 := by
  cases d with
  | false =>
    obtain ⟨rfl, _⟩ := h
    rw [List.length_take]; omega
  | true =>
    obtain ⟨rfl, _⟩ := h
    have e : ∀ zs : List Int, (zs.filter (fun x => decide (x < n))).length + (zs.filter (fun x => decide (n < x))).length ≤ zs.length := by
      intro zs
      induction zs with
      | nil => simp
      | cons z zs ih =>
        rw [List.filter_cons, List.filter_cons]
        by_cases h1 : z < n
        · have h2 : ¬ n < z := by omega
          simp [h1, h2]; omega
        · by_cases h2 : n < z
          · simp [h1, h2]; omega
          · simp [h1, h2]; omega
    have := e (xs.take j)
    rw [List.length_append, List.length_cons]
    rw [List.length_take] at this
    omega
end
end Go.Proofs.Ytlieommbomjdaaa

namespace Go.Proofs.Ytlieommbomjdaaa
open Go.ChangeShapes Go.WideShapes Go.ChangeAt Go.RowKit Go.Deep
set_option linter.unusedVariables false

theorem grown_own {a b c : World} {r : Option Nat} (h : a.grownBy b none) (g : b.grownBy c r) (hr : ∀ k, r = some k → a.heap.size ≤ k) : a.grownBy c none :=
  ⟨g.os.trans h.os, g.tape.trans h.tape, g.output.trans h.output, Nat.le_trans h.size g.size, fun k hk _ => (g.block k (Nat.lt_of_lt_of_le hk h.size) (fun e => by have := hr k e.symm; omega)).trans (h.block k hk (by simp))⟩

/-- A row in the making, since w. -/
structure Mk (w wr : World) (v : Value) (ys : List Int) : Prop where
  own : IOwn wr w.heap.size v ys
  grown : w.grownBy wr none
theorem Mk.next {w wr w9 : World} {v v9 : Value} {ys : List Int} {y : Int} (h : Mk w wr v ys) (h9 : IOwn w9 w.heap.size v9 (ys ++ [y])) (g9 : (wr.alloc (.cells #[.int .i64 y] 3)).grownBy w9 v.ownBlock) : Mk w w9 v9 (ys ++ [y]) :=
  ⟨h9, grown_own (grown_trans h.grown (World.grownBy_alloc wr _ none)) g9 fun k hk => (h.own.lt hk).1⟩

set_option maxHeartbeats 2000000 in
theorem put_walk {w : World} {base : Nat} {v : Value} {xs : List Int} (h : IOwn w base v xs) (hr : xs.Pairwise (· < ·)) (hl : xs.length ≤ 1000) (n : Int) :
    Calls Try.prog 14 #[v, .int .i64 n] w fun e w' => ∃ g c, e = .returned (.slice (some ⟨g, 0, none⟩) (putL xs n).length c) ∧ IOwn w' w.heap.size (.slice (some ⟨g, 0, none⟩) (putL xs n).length c) (putL xs n) ∧ w.grownBy w' none := by
  obtain ⟨s, c, rfl, hc⟩ := h.form
  have HC := Lib.hid hc
  have HR := Lib.hid hr
  have HH := Lib.hid h
  clear h hc hr
  go_enter Try.func14, Try.ntmps14
  go_wp2_with fail
  go_loopw [5, 6, 8, 11] (fun ov dv _ iv wr => ∃ (j : Nat) (d : Bool) (ys : List Int), j ≤ xs.length ∧ iv = .int .i64 j ∧ dv = .bool d ∧ ys.length ≤ 1001 ∧ Hid (Mk w wr ov ys) ∧ Hid (PutAt xs n j d ys)) (fun _ _ _ iv _ => xs.length - (intOf iv).toNat)
  case atStart => exact ⟨0, false, [], by omega, rfl, rfl, by simp, ⟨IOwn.nil _ _, grown_refl _ _⟩, ⟨by simp, by simp⟩⟩
  case round =>
    obtain ⟨j, d, ys, hj, rfl, rfl, hyl, HM, HP⟩ := hrel
    by_cases hlt : j < xs.length
    · obtain ⟨x, hx⟩ : ∃ x, xs[j]? = some x := ⟨_, List.getElem?_eq_getElem hlt⟩
      obtain ⟨g, rfl, hg⟩ : ∃ g, s = some ⟨g, 0, none⟩ ∧ ∀ (i : Nat) x, xs[i]? = some x → w.cell? ⟨g, i, none⟩ = some (.int .i64 x) := by
        rcases HC.out with e | h
        · rw [e] at hlt; simp at hlt
        · exact h
      have c0 : wr.cell? ⟨g, j, none⟩ = some (.int .i64 x) := HM.out.grown.cell (hg j x hx) (by simp)
      have hwr := HM.out.grown.size
      cases d with
      | true =>
        obtain ⟨hnx, hp⟩ := HP.out.rest HR.out hx
        have hyl2 := hp.len
        have HP2 := Lib.hid hp
        have d0 : decide (x ≥ n) = true := by simp; omega
        have d1 : (x != n) = true := by simp; omega
        clear hg hx hp hnx
        rw [List.length_append, List.length_singleton] at hyl2
        go_wp2_with (at_builtin; refine wpList_int7 wr rfl _ _ rfl w.heap.size _ ys x (by rfl) HM.out.own wr.heap.size _ (by rfl) rfl (by omega) hwr ?_; intro g9 cap9 w9 hown9 hg9; have HM9 := Lib.hid (HM.out.next hown9 hg9); clear hown9 hg9)
        go_roundw
        case rel => exact ⟨j + 1, true, ys ++ [x], by omega, by go_num, rfl, by rw [List.length_append, List.length_singleton]; omega, HM9, HP2⟩
        case measure => simp [intOf]; omega
      | false =>
        rcases (show x < n ∨ x = n ∨ n < x by omega) with hn | hn | hn
        · have hp := HP.out.less hx hn
          have hyl2 := hp.len
          have HP2 := Lib.hid hp
          have d0 : decide (x ≥ n) = false := by simp; omega
          have d1 : (x != n) = true := by simp; omega
          clear hg hx hp hn
          rw [List.length_append, List.length_singleton] at hyl2
          go_wp2_with (at_builtin; refine wpList_int7 wr rfl _ _ rfl w.heap.size _ ys x (by rfl) HM.out.own wr.heap.size _ (by rfl) rfl (by omega) hwr ?_; intro g9 cap9 w9 hown9 hg9; have HM9 := Lib.hid (HM.out.next hown9 hg9); clear hown9 hg9)
          go_roundw
          case rel => exact ⟨j + 1, false, ys ++ [x], by omega, by go_num, rfl, by rw [List.length_append, List.length_singleton]; omega, HM9, HP2⟩
          case measure => simp [intOf]; omega
        · subst hn
          have hp := HP.out.same hx
          have hyl2 := hp.len
          have HP2 := Lib.hid hp
          have d0 : decide (x ≥ x) = true := by simp
          have d1 : (x != x) = false := by simp
          clear hg hx hp
          rw [List.length_append, List.length_singleton] at hyl2
          go_wp2_with (at_builtin; refine wpList_int7 wr rfl _ _ rfl w.heap.size _ ys x (by rfl) HM.out.own wr.heap.size _ (by rfl) rfl (by omega) hwr ?_; intro g9 cap9 w9 hown9 hg9; have HM9 := Lib.hid (HM.out.next hown9 hg9); clear hown9 hg9)
          go_roundw
          case rel => exact ⟨j + 1, true, ys ++ [x], by omega, by go_num, rfl, by rw [List.length_append, List.length_singleton]; omega, HM9, HP2⟩
          case measure => simp [intOf]; omega
        · have hp := HP.out.more hx hn
          have hyl2 := hp.len
          have HP2 := Lib.hid hp
          have d0 : decide (x ≥ n) = true := by simp; omega
          have d1 : (x != n) = true := by simp; omega
          clear hg hx hp hn
          rw [List.length_append, List.length_append, List.length_singleton, List.length_singleton] at hyl2
          go_wp2_with (at_builtin; first
            | (refine wpList_int7 wr rfl _ _ rfl w.heap.size _ ys n (by rfl) HM.out.own wr.heap.size _ (by rfl) rfl (by omega) hwr ?_; intro g9 cap9 w9 hown9 hg9; have HM9 := Lib.hid (HM.out.next hown9 hg9); have c9 := HM9.out.grown.size; clear hown9 hg9)
            | (refine wpList_int7 w9 rfl _ _ rfl w.heap.size _ (ys ++ [n]) x (by rfl) HM9.out.own w9.heap.size _ (by rfl) rfl (by rw [List.length_append, List.length_singleton]; omega) c9 ?_; intro g8 cap8 w8 hown8 hg8; have HM8 := Lib.hid (HM9.out.next hown8 hg8); rw [List.length_append, List.length_singleton] at HM8; clear hown8 hg8))
          go_roundw
          case rel => exact ⟨j + 1, true, ys ++ [n] ++ [x], by omega, by go_num, rfl, by rw [List.length_append, List.length_append, List.length_singleton, List.length_singleton]; omega, HM8, HP2⟩
          case measure => simp [intOf]; omega
    · obtain rfl : j = xs.length := by omega
      have hwr := HM.out.grown.size
      cases d with
      | true =>
        have hd := HP.out.done
        obtain ⟨s9, c9, hs9, hf⟩ := HM.out.own.form
        have hne : ys ≠ [] := by rw [hd]; unfold putL; simp
        obtain ⟨g9, rfl⟩ : ∃ g, s9 = some ⟨g, 0, none⟩ := by
          rcases hf with e | ⟨g, e, _⟩
          · exact (hne e).elim
          · exact ⟨g, e⟩
        have HD := Lib.hid hd
        have HS := Lib.hid hs9
        clear hd hs9 hf hne
        go_wp2_with fail
        go_ret
        have e1 := HS.out
        have e2 := HD.out
        subst e2
        subst e1
        exact ⟨g9, c9, rfl, HM.out.own, HM.out.grown⟩
      | false =>
        have hd := HP.out.last
        have HD := Lib.hid hd
        clear hd
        go_wp2_with (at_builtin; refine wpList_int7 wr rfl _ _ rfl w.heap.size _ ys n (by rfl) HM.out.own wr.heap.size _ (by rfl) rfl (by omega) hwr ?_; intro g9 cap9 w9 hown9 hg9; have HM9 := Lib.hid (HM.out.next hown9 hg9); clear hown9 hg9)
        go_ret
        have e2 := HD.out
        rw [← e2]
        exact ⟨g9, cap9, by rw [List.length_append, List.length_singleton]; rfl, by rw [List.length_append, List.length_singleton]; exact HM9.out.own, HM9.out.grown⟩

theorem withoutL_snoc {xs : List Int} {j : Nat} {x : Int} (n : Int) (hx : xs[j]? = some x) : withoutL (xs.take (j + 1)) n = if x = n then withoutL (xs.take j) n else withoutL (xs.take j) n ++ [x] := by
  unfold withoutL
  rw [take_snoc hx, List.filter_append]
  by_cases e : x = n
  · simp [e]
  · simp [e]
theorem withoutL_le (xs : List Int) (n : Int) : (withoutL xs n).length ≤ xs.length := List.length_filter_le _ _

set_option maxHeartbeats 2000000 in
theorem without_walk {w : World} {base : Nat} {v : Value} {xs : List Int} (h : IOwn w base v xs) (hl : xs.length ≤ 1000) (n : Int) :
    Calls Try.prog 16 #[v, .int .i64 n] w fun e w' => ∃ v', e = .returned v' ∧ IOwn w' w.heap.size v' (withoutL xs n) ∧ w.grownBy w' none := by
  obtain ⟨s, c, rfl, hc⟩ := h.form
  have HC := Lib.hid hc
  clear h hc
  go_enter Try.func16, Try.ntmps16
  go_wp2_with fail
  go_loopw [5, 7, 10] (fun ov _ iv wr => ∃ (j : Nat) (ys : List Int), j ≤ xs.length ∧ iv = .int .i64 j ∧ ys.length ≤ j ∧ Hid (Mk w wr ov ys) ∧ Hid (ys = withoutL (xs.take j) n)) (fun _ _ iv _ => xs.length - (intOf iv).toNat)
  case atStart => exact ⟨0, [], by omega, rfl, by simp, ⟨IOwn.nil _ _, grown_refl _ _⟩, (show ([] : List Int) = withoutL (xs.take 0) n by simp [withoutL])⟩
  case round =>
    obtain ⟨j, ys, hj, rfl, hyl, HM, HP⟩ := hrel
    by_cases hlt : j < xs.length
    · obtain ⟨x, hx⟩ : ∃ x, xs[j]? = some x := ⟨_, List.getElem?_eq_getElem hlt⟩
      obtain ⟨g, rfl, hg⟩ : ∃ g, s = some ⟨g, 0, none⟩ ∧ ∀ (i : Nat) x, xs[i]? = some x → w.cell? ⟨g, i, none⟩ = some (.int .i64 x) := by
        rcases HC.out with e | h
        · rw [e] at hlt; simp at hlt
        · exact h
      have c0 : wr.cell? ⟨g, j, none⟩ = some (.int .i64 x) := HM.out.grown.cell (hg j x hx) (by simp)
      have hwr := HM.out.grown.size
      have hsn := withoutL_snoc n hx
      by_cases hn : x = n
      · rw [if_pos hn] at hsn
        have HS := Lib.hid hsn
        have d1 : (x != n) = false := by simpa using hn
        clear hg hx hsn hn
        go_wp2_with fail
        go_roundw
        case rel => exact ⟨j + 1, ys, by omega, by go_num, by omega, HM, by show ys = _; rw [HS.out, ← HP.out]⟩
        case measure => simp [intOf]; omega
      · rw [if_neg hn] at hsn
        have HS := Lib.hid hsn
        have d1 : (x != n) = true := by simpa using hn
        clear hg hx hsn hn
        go_wp2_with (at_builtin; refine wpList_int7 wr rfl _ _ rfl w.heap.size _ ys x (by rfl) HM.out.own wr.heap.size _ (by rfl) rfl (by omega) hwr ?_; intro g9 cap9 w9 hown9 hg9; have HM9 := Lib.hid (HM.out.next hown9 hg9); clear hown9 hg9)
        go_roundw
        case rel => exact ⟨j + 1, ys ++ [x], by omega, by go_num, by rw [List.length_append, List.length_singleton]; omega, HM9, by show ys ++ [x] = _; rw [HS.out, ← HP.out]⟩
        case measure => simp [intOf]; omega
    · obtain rfl : j = xs.length := by omega
      go_wp2_with fail
      go_ret
      have e := HP.out
      rw [List.take_of_length_le (Nat.le_refl _)] at e
      rw [← e]
      exact ⟨_, rfl, HM.out.own, HM.out.grown⟩
end Go.Proofs.Ytlieommbomjdaaa

namespace Go.Proofs.Ytlieommbomjdaaa
open Go.ChangeShapes Go.WideShapes Go.ChangeAt Go.RowKit Go.Deep
set_option linter.unusedVariables false

def PXr (S : SpP) (w0 w : World) (m d n p x : Nat) (a r : Int) (s : MS) (B : List Nat) : Prop := ∃ O OX, PX S w0 w m d n p O x OX a r s ∧ ∀ b, b ∈ B → w0.heap.size ≤ b ∧ b < w.heap.size ∧ b ∉ m :: d :: (O ++ OX)
section
variable {S : SpP} {Z : World → Nat → List Nat → Prop} {w0 w w' : World} {m d n p x : Nat} {a r : Int} {s : MS} {B B' : List Nat}
theorem PXr.low (h : PXr S w0 w m d n p x a r s B) : w0.grownBy w none := by
  obtain ⟨O, OX, h, _⟩ := h
  exact h.low
theorem PXr.lt (H : PmOk S Z) {O OX : List Nat} (h : PX S w0 w m d n p O x OX a r s) : ∀ b, b ∈ m :: d :: (O ++ OX) → b < w.heap.size := by
  intro b hb
  simp only [List.mem_cons, List.mem_append] at hb
  rcases hb with rfl | rfl | hb | hb
  · exact h.pm.lt b (by simp)
  · exact h.pm.lt b (by simp)
  · exact h.pm.lt b (by simp [hb])
  · exact H.lt h.sp b hb
/-- Other blocks are made. -/
theorem PXr.fresh (H : PmOk S Z) (h : PXr S w0 w m d n p x a r s B) (g : w.grownBy w' none) (hB : ∀ b, b ∈ B' → (b ∈ B ∨ w.heap.size ≤ b) ∧ b < w'.heap.size) : PXr S w0 w' m d n p x a r s B' := by
  obtain ⟨O, OX, h1, h2⟩ := h
  have hw := h1.low.size
  refine ⟨O, OX, h1.grow H g, fun b hb => ?_⟩
  obtain ⟨h3, h4⟩ := hB b hb
  rcases h3 with h3 | h3
  · exact ⟨(h2 b h3).1, h4, (h2 b h3).2.2⟩
  · exact ⟨by omega, h4, fun hm => by have := PXr.lt H h1 b hm; omega⟩
theorem PXr.grow (H : PmOk S Z) (h : PXr S w0 w m d n p x a r s B) (g : w.grownBy w' none) : PXr S w0 w' m d n p x a r s B := by
  obtain ⟨O, OX, h1, h2⟩ := h
  exact ⟨O, OX, h1.grow H g, fun b hb => ⟨(h2 b hb).1, Nat.lt_of_lt_of_le (h2 b hb).2.1 g.size, (h2 b hb).2.2⟩⟩
theorem PXr.step (H : PmOk S Z) {O OX : List Nat} {t : MS} (h1 : PX S w0 w m d n p O x OX a r s) (h2 : ∀ b, b ∈ B → w0.heap.size ≤ b ∧ b < w.heap.size ∧ b ∉ m :: d :: (O ++ OX)) (k : PXL S w0 w w' m d n p O x OX a r t) : PXr S w0 w' m d n p x a r t B ∧ ∀ b, b ∈ B → w'.heap[b]? = w.heap[b]? := by
  obtain ⟨O', OX', k1, k2, k3, k4⟩ := k
  refine ⟨⟨O', OX', k1, fun b hb => ⟨(h2 b hb).1, Nat.lt_of_lt_of_le (h2 b hb).2.1 k2.size, fun hm => ?_⟩⟩, fun b hb => k2.block b (h2 b hb).2.1 fun hm => (h2 b hb).2.2 (List.mem_cons_of_mem _ hm)⟩
  have hlt := (h2 b hb).2.1
  refine (h2 b hb).2.2 ?_
  simp only [List.mem_cons, List.mem_append] at hm ⊢
  rcases hm with hm | hm | hm | hm
  · exact .inl hm
  · exact .inr (.inl hm)
  · rcases k3 b hm with q | q
    · exact .inr (.inr (.inl q))
    · omega
  · rcases k4 b hm with q | q
    · exact .inr (.inr (.inr q))
    · omega
theorem PXr.enter (H : PmOk S Z) (h : PXr S w0 w m d n p x a r s B) (hi : Inv7 n s a r) (v fr q : Int) (hv : okI v) (hf : okI fr) (hq : okI q) : Calls Try.prog 13 #[.pointer (some ⟨x, 0, none⟩), .int .i64 v, .int .i64 fr, .int .i64 q] w fun e w' => e = .returned (.int .i64 (enterM n a r v fr q s).1) ∧ PXr S w0 w' m d n p x a r (enterM n a r v fr q s).2 B ∧ ∀ b, b ∈ B → w'.heap[b]? = w.heap[b]? := by
  obtain ⟨O, OX, h1, h2⟩ := h
  exact (H.enter h1 hi v fr q hv hf hq).mono fun e w' ⟨e1, k⟩ => ⟨e1, PXr.step H h1 h2 k⟩
theorem PXr.remove (H : PmOk S Z) (h : PXr S w0 w m d n p x a r s B) (hi : Inv7 n s a r) (v : Int) (hv : okI v) : Calls Try.prog 15 #[.pointer (some ⟨x, 0, none⟩), .int .i64 v] w fun e w' => e = .returned (.bool (removeM n r v s).1) ∧ PXr S w0 w' m d n p x a r (removeM n r v s).2 B ∧ ∀ b, b ∈ B → w'.heap[b]? = w.heap[b]? := by
  obtain ⟨O, OX, h1, h2⟩ := h
  exact (H.remove h1 hi v hv).mono fun e w' ⟨e1, k⟩ => ⟨e1, PXr.step H h1 h2 k⟩
theorem PXr.tables (H : PmOk S Z) (h : PXr S w0 w m d n p x a r s B) (hi : Inv7 n s a r) : Calls Try.prog 18 #[.pointer (some ⟨x, 0, none⟩)] w fun e w' => e = .returned (.int .i64 s.N) ∧ w.grownBy w' none := by
  obtain ⟨O, OX, h1, h2⟩ := h
  exact H.tables h1 hi
theorem PXr.free (h : PXr S w0 w m d n p x a r s B) : Calls Try.prog 19 #[.pointer (some ⟨p, 0, none⟩)] w fun e w' => e = .returned (.int .i64 (countF s.xs 0)) ∧ w.grownBy w' none := by
  obtain ⟨O, OX, h1, h2⟩ := h
  obtain ⟨g, c, _, hp⟩ := h1.pm.pool
  exact fr_free hp
theorem PXr.count (h : PXr S w0 w m d n p x a r s B) (c : Int) : Calls Try.prog 29 #[.pointer (some ⟨p, 0, none⟩), .int .i64 c] w fun e w' => e = .returned (.int .i64 (countF s.xs c)) ∧ w.grownBy w' none := by
  obtain ⟨O, OX, h1, h2⟩ := h
  obtain ⟨g, c, _, hp⟩ := h1.pm.pool
  exact fr_count hp _
end

theorem count_one (xs : List FrV) : countF xs 1 = totF xs := by
  unfold countF totF
  rw [List.countP_eq_length_filter]

/-- What has been entered, by its beginnings. -/
structure LeastAt (n : Nat) (s : MS) (r : Int) (ts ms : List Int) : Prop where
  inv : Inv1 n s 1 r
  tr : ts.Pairwise (· < ·)
  mr : ms.Pairwise (· < ·)
  tm : ∀ t, t ∈ ts ↔ ∃ u, okV u ∧ Lv s r u ∧ u / 262144 = t
  mm : ∀ t, t ∈ ms ↔ ∃ u, okV u ∧ Lv s r u ∧ u / 512 = t
  low : ∀ u, okV u → Lv s r u → u < 67108864
  N : s.N = 1 + ts.length + ms.length
theorem idx2 {u v : Int} (hu : 0 ≤ u ∧ u < 67108864) (hv : 0 ≤ v ∧ v < 67108864) : indexOf u 2 = indexOf v 2 ↔ u / 262144 = v / 262144 := by
  show u / 262144 % 512 = v / 262144 % 512 ↔ _
  omega
theorem idx21 {u v : Int} (hu : 0 ≤ u ∧ u < 67108864) (hv : 0 ≤ v ∧ v < 67108864) : (indexOf u 2 = indexOf v 2 ∧ indexOf u 1 = indexOf v 1) ↔ u / 512 = v / 512 := by
  show (u / 262144 % 512 = v / 262144 % 512 ∧ u / 512 % 512 = v / 512 % 512) ↔ _
  omega
theorem LeastAt.step {n : Nat} {s : MS} {r v : Int} {ts ms : List Int} (h : LeastAt n s r ts ms) (hv : 0 ≤ v ∧ v < 67108864) (hl : ts.length + ms.length + 2 < n) :
    (enterM n 1 r v 1 1 s).1 = 0 ∧ LeastAt n (enterM n 1 r v 1 1 s).2 r (putL ts (v / 262144)) (putL ms (v / 512)) ∧ ∀ u, okV u → (Lv (enterM n 1 r v 1 1 s).2 r u ↔ u = v ∨ Lv s r u) := by
  have bp : (1 : Int) ≤ 1 ∧ (1 : Int) ≤ 7 := ⟨by decide, by decide⟩
  have bf : (0 : Int) ≤ 1 ∧ (1 : Int) < n := ⟨by decide, by omega⟩
  have hN := h.N
  have he := h.inv.fits hv bp bf (by omega)
  have hL := fun u (hu : okV u) => h.inv.inv.enterL hv bp bf he hu
  have hV : okV v := ⟨hv.1, by omega⟩
  have hn := h.inv.inv.enterN hv bp bf he
  have hmem : ∀ K : Int, ∀ ks : List Int, (∀ t, t ∈ ks ↔ ∃ u, okV u ∧ Lv s r u ∧ u / K = t) → ∀ t, t ∈ putL ks (v / K) ↔ ∃ u, okV u ∧ Lv (enterM n 1 r v 1 1 s).2 r u ∧ u / K = t := fun K ks hk t => by
    rw [putL_mem, hk]
    constructor
    · rintro (e | ⟨u, q1, q2, q3⟩)
      · exact ⟨v, hV, (hL v hV).2 (.inl rfl), e.symm⟩
      · exact ⟨u, q1, (hL u q1).2 (.inr q2), q3⟩
    · rintro ⟨u, q1, q2, q3⟩
      rcases (hL u q1).1 q2 with e | q2
      · subst e; exact .inl q3.symm
      · exact .inr ⟨u, q1, q2, q3⟩
  refine ⟨he, ⟨h.inv.enter, putL_rise h.tr, putL_rise h.mr, hmem _ _ h.tm, hmem _ _ h.mm, fun u hu hq => ?_, ?_⟩, hL⟩
  · rcases (hL u hu).1 hq with e | hq
    · omega
    · exact h.low u hu hq
  · rw [hn, putL_len h.tr, putL_len h.mr]
    have e1 : (∃ u, okV u ∧ Lv s r u ∧ indexOf u 2 = indexOf v 2) ↔ v / 262144 ∈ ts := by
      rw [h.tm]
      constructor
      · rintro ⟨u, q1, q2, q3⟩
        exact ⟨u, q1, q2, (idx2 ⟨q1.1, h.low u q1 q2⟩ hv).1 q3⟩
      · rintro ⟨u, q1, q2, q3⟩
        exact ⟨u, q1, q2, (idx2 ⟨q1.1, h.low u q1 q2⟩ hv).2 q3⟩
    have e2 : (∃ u, okV u ∧ Lv s r u ∧ indexOf u 2 = indexOf v 2 ∧ indexOf u 1 = indexOf v 1) ↔ v / 512 ∈ ms := by
      rw [h.mm]
      constructor
      · rintro ⟨u, q1, q2, q3⟩
        exact ⟨u, q1, q2, (idx21 ⟨q1.1, h.low u q1 q2⟩ hv).1 q3⟩
      · rintro ⟨u, q1, q2, q3⟩
        exact ⟨u, q1, q2, (idx21 ⟨q1.1, h.low u q1 q2⟩ hv).2 q3⟩
    by_cases q1 : v / 262144 ∈ ts <;> by_cases q2 : v / 512 ∈ ms
    · rw [if_pos (e1.2 q1), if_pos (e2.2 q2), if_pos q1, if_pos q2]; omega
    · rw [if_pos (e1.2 q1), if_neg (fun q => q2 (e2.1 q)), if_pos q1, if_neg q2]; omega
    · rw [if_neg (fun q => q1 (e1.1 q)), if_pos (e2.2 q2), if_neg q1, if_pos q2]; omega
    · rw [if_neg (fun q => q1 (e1.1 q)), if_neg (fun q => q2 (e2.1 q)), if_neg q1, if_neg q2]; omega
end Go.Proofs.Ytlieommbomjdaaa
