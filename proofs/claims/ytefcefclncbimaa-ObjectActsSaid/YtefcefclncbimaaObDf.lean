/- Package object (landed): between whole; Pages. -/
import Derived.Test.YtefcefclncbimaaObDe
namespace Go.Proofs.Ytefcefclncbimaa
open Go.ChangeShapes Go.WideShapes Go.ChangeAt Go.RowKit Go.Deep Go.Sort Go.Shelf
set_option linter.unusedVariables false

section
variable {w w' : World} {a M : Nat} {l : PgL} {lo hi : Int}
/-- The sort's contract, at a row that the call has made. -/
theorem sort_pl {wr : World} {base : Nat} {v : Value} {Z l : PgL} (h : OwnOf atCells 4 96 wr base v Z) (hl : l.Pairwise fun a b => a.1 < b.1) (hZ : Z.Perm l) (hlen : Z.length ≤ 4096) :
    Calls Try.prog 44 #[v, .func (.func 45) #[] #[]] wr fun e w' => e = .returned (.tuple #[]) ∧ RowOf atCells 4 w' v l ∧ wr.grownBy w' v.ownBlock := by
  by_cases h0 : Z.length = 0
  · have hZ0 := List.length_eq_zero_iff.1 h0
    subst hZ0
    have hl0 : l = [] := List.Perm.eq_nil (hZ.symm)
    subst hl0
    obtain ⟨s, c, rfl⟩ := OwnOf.form h
    have h1 := AnyF.slices_SortFunc_none Try.sortP s c (.func (.func 45) #[] #[]) wr
    refine h1.mono ?_
    rintro e w' ⟨rfl, rfl⟩
    exact ⟨rfl, OwnOf.row h, (grown_refl _ _).but _⟩
  · obtain ⟨g, c, rfl⟩ := OwnOf.there h (by omega)
    have eg : ∀ args w, (callFunc 45 args).run Try.prog w = .ok (.enter 45 args) w := enters_of Try.func45 (by kernel_rfl) rfl
    have hcmp : CmpLays Try.prog 45 #[] atCells 4 cfP g 0 Z.toArray.size wr := fun _ _ _ _ x y => closure_pl x y _
    have hg := (OwnOf.lt h (g := g) rfl).2
    have hcon := AnyQ.slices_SortFunc Try.sortP 4 Try.isAgg96 Try.sizeOf96 atCells at_len (fun x v hv => by simp [atCells] at hv; rcases hv with rfl | rfl | rfl | rfl <;> rfl) cfP swo_pl 45 #[] g 0 c Z.toArray wr eg hcmp (holds_own h) hg (by simp; omega)
    have hsz : Z.toArray.size = Z.length := by simp
    rw [hsz] at hcon
    refine hcon.mono ?_
    rintro e w' ⟨rfl, d', n, os, hp, hs, rfl⟩
    have hd := sorted_is hl hZ (by rw [hsz]; exact hp) (by rw [hsz]; exact hs)
    have hgr := grown_sorted wr g n d' os
    have hds : d'.size = Z.toArray.size := by rw [hp.1]
    have hh := holdsK_sortWorldK_c atCells 4 wr g 0 Z.toArray d' n os (holds_own h) hg hds
    have hr := row_held (c := c) hh (Nat.lt_of_lt_of_le hg hgr.size)
    refine ⟨rfl, ?_, hgr⟩
    rw [hd] at hr
    have : l.length = Z.length := hZ.symm.length_eq
    rw [this] at hr
    exact hr
/-- In the range: the row in the making lies behind the iterator's record. -/
structure BtI (w w0 wr : World) (v : Value) (Z : PgL) : Prop where
  grown : w.grownBy wr none
  own : OwnOf atCells 4 96 wr w0.heap.size v Z
  size : w0.heap.size ≤ wr.heap.size
set_option maxRecDepth 100000 in
set_option maxHeartbeats 4000000 in
theorem between_ok (hc : w.cell? ⟨a, 2, none⟩ = some (.map (some M))) (hm : MapV pgAgg w M l) (hp : GoodPs l) (lo hi : Int) : Calls Try.prog 39 #[.pointer (some ⟨a, 0, none⟩), .int .i64 lo, .int .i64 hi] w fun e w' => ∃ u, e = .returned u ∧ RowOf atCells 4 w' u (cutO l lo hi) ∧ (∀ b, u.ownBlock = some b → w.heap.size ≤ b) ∧ w.grownBy w' none := by
  have hmlt := hm.lt
  obtain ⟨E, hown, hperm⟩ := hm
  have HE := Lib.hid hperm
  have HP := Lib.hid hp
  have hlen := hp.len
  clear hperm hp
  go_enter Try.func39, Try.ntmps39
  go_wp2_with (at_range; refine wpList_range_own _ rfl _ 77 rfl 3 30 int_kd lawsP.und heldR M l.length _ rfl hown ?_; intro w0 hrg0 hg0 hs0)
  go_frame
  have HH0 := Lib.hid (show ∀ n, n ∈ l → Maps.has (DataW.map E) (.int .i64 n.1) = true from fun n hn => (hasV_iff HE.out (by have := HP.out.rng n hn; exact ⟨by omega, by omega⟩)).2 ⟨n, hn, rfl⟩)
  have HR0 := Lib.hid hrg0
  have HG0 := Lib.hid hg0
  have hM0 : M < w0.heap.size := Nat.lt_of_lt_of_le hmlt hg0.size
  have hI0 : w.heap.size < w0.heap.size := hrg0.lt
  clear hrg0 hg0 hs0 hown
  go_loopw [7] (fun uv wr => ∃ (left : Lit → Bool) (cnt : Nat) (Z : PgL), Hid (wr.ranges Try.prog 3 heldR M w.heap.size l.length (.map E) left cnt) ∧ Hid (BtI w w0 wr uv Z) ∧ Hid (Z.Perm (gotO l lo hi left))) (fun _ wr => wr.rangeLeft M w.heap.size)
  case atStart => exact ⟨_, _, [], HR0, ⟨HG0.out, OwnOf.nil _ _, Nat.le_refl _⟩, Lib.hid (by rw [got_none HH0.out])⟩
  case round =>
    clear HR0 HH0
    obtain ⟨left, cnt, Z, HRg, HMk, HZ⟩ := hrel
    have hrg := HRg.out
    go_wp2_with (at_next; refine wpList_next_ranges _ rfl _ rfl 3 int_kd heldR numV id (fun key kl hk => by obtain ⟨x, hx, _⟩ := Maps.keyOf_int_inv Try.underlying3 hk; exact ⟨x, hx⟩) (fun v y hv => ⟨v, rfl⟩) M w.heap.size l.length (.map E) left cnt rfl hrg ?_ ?_)
    · intro hc0 hl0
      have hZ2 := HZ.out
      rw [got_all hl0] at hZ2
      have HS := Lib.hid (sort_pl HMk.out.own (HP.out.filter _).up hZ2 (Nat.le_trans (Nat.le_of_eq hZ2.length_eq) (Nat.le_trans cut_len2 hlen)))
      have hw0 : w0.heap.size ≤ wr.heap.size := HMk.out.size
      obtain ⟨s, c, hu⟩ := OwnOf.form HMk.out.own
      subst hu
      clear hZ2 hl0
      go_wp2_with (go_at_call 44; refine HS.out.mono ?_; rintro e w5 ⟨rfl, hr, hgr⟩; have HRw := Lib.hid hr; have HGr := Lib.hid hgr; clear hr hgr)
      go_ret
      have hf : ∀ b, (Value.slice s Z.length c).ownBlock = some b → w.heap.size ≤ b := fun b hb => by have := (OwnOf.lt HMk.out.own hb).1; omega
      exact ⟨_, rfl, HRw.out, hf, grown_own HMk.out.grown HGr.out hf⟩
    · intro x c kl ya yb w1 cnt1 hkey hlk hRv hat hrg1 hlt hg1 hs1 hen
      obtain ⟨x', ex, rfl, hwx⟩ := Maps.keyOf_int_inv Try.underlying3 hkey
      have ex2 : x = x' := by unfold numV at ex; injection ex
      subst ex2
      have hin : ∃ a, (x, a) ∈ l := by
        by_cases hno : ∀ n, n ∈ l → n.1 ≠ x
        · exfalso
          have k1 := (hat (.held (.bool true))).trans (hat (.held (.bool false))).symm
          rw [atV_no HE.out hno, atV_no HE.out hno] at k1
          injection k1 with k2
          injection k2 with k3
          cases k3
        · obtain ⟨n, hn⟩ := Classical.not_forall.1 hno
          obtain ⟨hn1, hn2⟩ := Classical.not_imp.1 hn
          have hn3 : n.1 = x := Classical.not_not.1 hn2
          exact ⟨n.2, by rw [← hn3]; exact hn1⟩
      obtain ⟨⟨pf, ps, pd⟩, ha⟩ := hin
      have hxr := HP.out.rng _ ha
      simp only at hxr
      have hxo : okI x := ⟨by omega, by omega⟩
      have hya := hat (.held (.pointer none))
      rw [atV_yes HE.out HP.out.nodup ha hxo] at hya
      subst hya
      have hc9 : c = .agg #[.int .i64 pf, .int .i64 ps, .bool pd] := by
        unfold heldR at hRv
        simp at hRv
        exact hRv.1
      subst hc9
      have hms : cnt1 < wr.rangeLeft M w.heap.size := by rw [hrg.left_eq]; exact hlt
      -- the iterator's record turns: the row in the making stays
      have hI1 := HMk.out.size
      have hM1 : BtI w w0 w1 u7 Z := ⟨grown_at HMk.out.grown hg1 (Nat.le_refl _), OwnOf.kept HMk.out.own fun b hb => hg1.block b (OwnOf.lt HMk.out.own hb).2 fun e => by
          have h1 := (OwnOf.lt HMk.out.own hb).1
          have h2 : b = w.heap.size := Option.some.inj e
          omega, Nat.le_trans hI1 hg1.size⟩
      have gb := World.grownBy_alloc w1 (.cells #[.int .i64 pf, .int .i64 ps, .bool pd] 30 (0, 0)) none
      have hsz : (w1.alloc (.cells #[.int .i64 pf, .int .i64 ps, .bool pd] 30 (0, 0))).heap.size = w1.heap.size + 1 := by simp
      have HM2 := Lib.hid (show BtI w w0 (w1.alloc (.cells #[.int .i64 pf, .int .i64 ps, .bool pd] 30 (0, 0))) u7 Z from ⟨grown_trans hM1.grown gb, OwnOf.grow hM1.own gb, Nat.le_trans hM1.size gb.size⟩)
      have hrg2 := hrg1.alloc (.cells #[.int .i64 pf, .int .i64 ps, .bool pd] 30 (0, 0))
      have HRg2 := Lib.hid hrg2
      have hZl : Z.length ≤ 4096 := Nat.le_trans (Nat.le_of_eq HZ.out.length_eq) (Nat.le_trans got_len hlen)
      have hbp := PB.new w1 30 ⟨pf, ps, pd⟩
      obtain ⟨b0, b1, b2⟩ := hbp.at
      simp only at b0 b1 b2
      by_cases hr : lo ≤ x ∧ x < hi
      · have HZ2 := Lib.hid ((List.Perm.cons (x, (⟨pf, ps, pd⟩ : PgV)) HZ.out).trans (got_in HP.out.nodup ha hxo hlk hr).symm)
        have d0 : decide (x ≥ lo) = true := decide_eq_true hr.1
        have d1 : decide (x < hi) = true := decide_eq_true hr.2
        obtain ⟨sa, sc, hu⟩ := OwnOf.form HM2.out.own
        subst hu
        have hb1 : w0.heap.size ≤ w1.heap.size + 1 := by have := hM1.size; omega
        have hMne : M ≠ w.heap.size := fun e => hrg.ne e.symm
        clear hrg hrg1 hrg2 hat hRv hkey hlk hg1 hs1 ha HRg HMk HZ ex hM1 gb hbp hr hxr hxo hwx
        unfold numV at hen ⊢
        go_wp2_with (at_builtin; refine wpList_plpush (w1.alloc (.cells #[.int .i64 pf, .int .i64 ps, .bool pd] 30 (0, 0))) rfl _ _ rfl w0.heap.size (.slice sa Z.length sc) Z x pf ps pd rfl HM2.out.own (w1.heap.size + 1) 1 rfl (by simp) (by omega) hb1 ?_; intro g9 c9 w9 hown9 hgrow9)
        have ga := World.grownBy_alloc (w1.alloc (.cells #[.int .i64 pf, .int .i64 ps, .bool pd] 30 (0, 0))) (.cells #[.int .i64 x, .int .i64 pf, .int .i64 ps, .bool pd] 96 (0, 0)) none
        have hob : ∀ b, (Value.slice sa Z.length sc).ownBlock = some b → w0.heap.size ≤ b := fun b hb => (OwnOf.lt HM2.out.own hb).1
        have HN := Lib.hid (show BtI w w0 w9 (.slice (some ⟨g9, 0, none⟩) (Z.length + 1) c9) (Z ++ [(x, ⟨pf, ps, pd⟩)]) from ⟨grown_own (grown_trans HM2.out.grown ga) hgrow9 fun b hb => by have := hob b hb; omega, hown9, Nat.le_trans HM2.out.size (Nat.le_trans ga.size hgrow9.size)⟩)
        have hrg9 := (HRg2.out.alloc (.cells #[.int .i64 x, .int .i64 pf, .int .i64 ps, .bool pd] 96 (0, 0))).kept hgrow9 (fun e => by have := hob M e.symm; omega) (fun e => by have := hob _ e.symm; omega)
        have HRg9 := Lib.hid hrg9
        have HZ9 := Lib.hid ((List.perm_append_comm (l₁ := Z) (l₂ := [(x, (⟨pf, ps, pd⟩ : PgV))])).trans HZ2.out)
        clear hown9 hgrow9 ga hob hrg9
        go_roundw
        case rel => exact ⟨_, cnt1, _, HRg9, HN, HZ9⟩
        case measure => rw [HRg9.out.left_eq]; exact hms
      · have HZ2 := Lib.hid (show Z.Perm (gotO l lo hi fun z => left z && !z.sameKey (.int .i64 x)) by rw [got_out hr]; exact HZ.out)
        have dd : decide (x ≥ lo) = false ∨ (decide (x ≥ lo) = true ∧ decide (x < hi) = false) := by
          simp only [decide_eq_true_eq, decide_eq_false_iff_not]
          omega
        have hms2 : (w1.alloc (.cells #[.int .i64 pf, .int .i64 ps, .bool pd] 30 (0, 0))).rangeLeft M w.heap.size < wr.rangeLeft M w.heap.size := by rw [hrg2.left_eq]; exact hms
        clear hrg hrg1 hrg2 hat hRv hkey hlk hg1 hs1 ha HRg HMk HZ ex hM1 gb hbp hr hxr hxo hwx
        rcases dd with d0 | ⟨d0, d1⟩
        all_goals
          unfold numV at hen ⊢
          go_wp2_with fail
          go_roundw
          case rel => exact ⟨_, cnt1, _, HRg2, HM2, HZ2⟩
          case measure => exact hms2
end
end Go.Proofs.Ytefcefclncbimaa
