/- Package amap (landed): Copy whole, Used; a pool that no call made; all that is shown of the package. -/
import Derived.Test.YtfmihbiongnpnaaADg
import Derived.Test.YtfmihbiongnpnaaAOk
namespace Go.Proofs.Ytfmihbiongnpnaa
open Go.ChangeShapes Go.WideShapes Go.ChangeAt Go.RowKit Go.Deep
set_option linter.unusedVariables false

section
variable {w w1 w' : World} {p most : Nat} {v : Value} {L : AmL} {S : Nat → AmP}
theorem pa_copy (h : PA w p most v L S) (hg : GoodL most L) (id lo hi : Int) (hid : okI id) (hlo : okI lo) (hhi : okI hi) : Calls Try.prog 20 #[.pointer (some ⟨p, 0, none⟩), .int .i64 id, .int .i64 lo, .int .i64 hi] w (CopyS PAS w p most (blkA p v L S) (copyA most L id lo hi)) := by
  by_cases hno : ∀ a, ofA L id = some a → ¬ spanA a lo hi ∨ most ≤ (idsA L).length
  · exact pa_copy_no h hg id lo hi hid hlo hhi hno
  · simp only [Classical.not_forall, not_or, Classical.not_not] at hno
    obtain ⟨a, ha, ⟨s0, s1, s2⟩, hfull⟩ := hno
    obtain ⟨h1, h2, h3⟩ := ofA_get ha
    obtain ⟨i, rfl⟩ : ∃ i : Nat, id = (i : Int) + 1 := ⟨(id - 1).toNat, by omega⟩
    rw [show ((i : Int) + 1 - 1).toNat = i by omega] at h3
    obtain ⟨l, rfl⟩ := Int.eq_ofNat_of_zero_le s0
    obtain ⟨m, rfl⟩ := Int.eq_ofNat_of_zero_le (show 0 ≤ hi by omega)
    exact pa_copy_yes h hg h3 (k := m - l) (by omega) (by omega) (by omega) hfull

theorem pa_used (h : PA w p most v L S) (hg : GoodL most L) (id : Int) (hid : okI id) : Calls Try.prog 45 #[.pointer (some ⟨p, 0, none⟩), .int .i64 id] w (UsedR w (anonsA L id)) := by
  have hmf : ∀ (s : Option Addr) (l c : Nat) (W : World), Calls Try.prog 44 #[.slice s l c] W fun e w' => e = .returned (.func (.func 53) #[] #[.pointer (some ⟨W.heap.size, 0, none⟩)]) ∧ w' = W.alloc (.cells #[.slice s l c] 39) := used_of
  have HF := Lib.hid hmf
  clear hmf
  rcases of_cases L id with ⟨e, -⟩ | ⟨i, a, rfl, hi, ha, e⟩
  · rw [show anonsA L id = [] by unfold anonsA; rw [e]]
    have HO := Lib.hid (pa_find_none h hg hid e)
    clear h e
    go_enter Try.func45, Try.ntmps45
    go_wp2_with fail
    refine HO.out.mono ?_
    rintro e w2 ⟨rfl, e2⟩
    subst w2
    go_wp2_with fail
    refine (HF.out none 0 0 w).mono ?_
    rintro e w2 ⟨rfl, rfl⟩
    go_wp2_with fail
    go_ret
    exact ⟨_, _, rfl, (Boxed.new w 39 (.slice none 0 0)).cell, RowAt.nil _ _, (fun b e => by cases e), Nat.le_refl _, World.grownBy_alloc w _ none⟩
  · have hga := ofA_good hg e
    rw [show anonsA L ((i : Int) + 1) = a.as by unfold anonsA; rw [e]]
    have HO := Lib.hid (pa_find_some h hg ha)
    have ham := h.am.each i a ha
    have c1 := ham.at.2
    have hle : a.as.length ≤ 4096 := by have h2 := hga.cs.len; have h3 := hga.len; omega
    have HC := Lib.hid (zclone_ok ham.row hle)
    clear h e ha hid hga ham
    go_enter Try.func45, Try.ntmps45
    go_wp2_with fail
    refine HO.out.mono ?_
    rintro e w2 ⟨rfl, e2⟩
    subst w2
    go_wp2_with fail
    refine HC.out.mono ?_
    rintro e w2 ⟨u, rfl, hu, ho, g2⟩
    obtain ⟨su, cu, rfl⟩ := rowOf_form hu
    have HU := Lib.hid hu
    have HOw := Lib.hid ho
    have HG := Lib.hid g2
    clear hu ho g2
    go_wp2_with fail
    refine (HF.out _ _ _ _).mono ?_
    rintro e w3 ⟨rfl, rfl⟩
    go_wp2_with fail
    go_ret
    have ga := World.grownBy_alloc w2 (.cells #[.slice su a.as.length cu] 39) none
    exact ⟨_, _, rfl, (Boxed.new w2 39 (.slice su a.as.length cu)).cell, rowOf_grow HU.out ga, HOw.out, HG.out.size, grown_trans HG.out ga⟩
end

/-- No pool: nil, or a zero value. -/
def NS13 (w : World) (v : Value) : Prop := v = .pointer none ∨ ∃ p, v = .pointer (some ⟨p, 0, none⟩) ∧ w.heap[p]? = some (.cells #[.bool false, .slice none 0 0] 66 (0, 0))
section
variable {w w' : World} {v : Value}
theorem NS13.kept (h : NS13 w v) (g : w.grownBy w' none) : NS13 w' v := by
  rcases h with rfl | ⟨p, rfl, hp⟩
  · exact .inl rfl
  · exact .inr ⟨p, rfl, (g.block p (Array.getElem?_eq_some_iff.1 hp).1 (by simp)).trans hp⟩
theorem NS13.form (h : NS13 w v) : ∃ a, v = .pointer a := by
  rcases h with rfl | ⟨p, rfl, _⟩
  · exact ⟨_, rfl⟩
  · exact ⟨_, rfl⟩
theorem nz_there (h : NS13 w v) : Calls Try.prog 32 #[v] w fun e w' => e = .returned (.bool false) ∧ w' = w := by
  rcases h with rfl | ⟨p, rfl, hp⟩
  · go_enter Try.func32, Try.ntmps32
    go_wp2_with fail
    go_ret
    exact ⟨rfl, rfl⟩
  · have c0 : w.cell? ⟨p, 0, none⟩ = some (.bool false) := by rw [cell_of_row _ _ _ _ _ _ hp]; rfl
    have hq := neq_pool
    clear hp
    go_enter Try.func32, Try.ntmps32
    go_wp2_with fail
    go_ret
    exact ⟨rfl, rfl⟩
theorem nz_find (h : NS13 w v) (id : Int) : Calls Try.prog 36 #[v, .int .i64 id] w fun e w' => e = .returned (.tuple #[.pointer none, .int .i64 1]) ∧ w' = w := by
  have HT := Lib.hid (nz_there h)
  clear h
  go_enter Try.func36, Try.ntmps36
  go_wp2_with fail
  refine HT.out.mono ?_
  rintro e w2 ⟨rfl, e2⟩
  subst w2
  go_wp2_with fail
  go_ret2
  exact ⟨rfl, rfl⟩
theorem nz_make (h : NS13 w v) (n : Int) : Calls Try.prog 11 #[v, .int .i64 n] w fun e w' => e = .returned (.tuple #[.int .i64 0, .int .i64 1]) ∧ w.grownBy w' none := by
  have HT := Lib.hid (nz_there h)
  clear h
  go_enter Try.func11, Try.ntmps11
  go_wp2_with fail
  refine HT.out.mono ?_
  rintro e w2 ⟨rfl, e2⟩
  subst w2
  go_wp2_with fail
  go_ret2
  exact ⟨rfl, grown_refl _ _⟩
theorem nz_set (h : NS13 w v) (id s x : Int) : Calls Try.prog 13 #[v, .int .i64 id, .int .i64 s, .int .i64 x] w fun e w' => e = .returned (.tuple #[.int .i64 0, .int .i64 1]) ∧ w.grownBy w' none := by
  have HF := Lib.hid (nz_find h id)
  clear h
  go_enter Try.func13, Try.ntmps13
  go_wp2_with fail
  refine HF.out.mono ?_
  rintro e w2 ⟨rfl, e2⟩
  subst w2
  go_wp2_with fail
  go_ret2
  exact ⟨rfl, grown_refl _ _⟩
theorem nz_cover (h : NS13 w v) (id lo hi by_ : Int) : Calls Try.prog 38 #[v, .int .i64 id, .int .i64 lo, .int .i64 hi, .int .i64 by_] w fun e w' => e = .returned (.tuple #[.pointer none, .slice none 0 0, .int .i64 1]) ∧ w' = w := by
  have HF := Lib.hid (nz_find h id)
  clear h
  go_enter Try.func38, Try.ntmps38
  go_wp2_with fail
  refine HF.out.mono ?_
  rintro e w2 ⟨rfl, e2⟩
  subst w2
  go_wp2_with fail
  go_ret3
  exact ⟨rfl, rfl⟩
theorem nz_hold (h : NS13 w v) (id lo hi : Int) : Calls Try.prog 15 #[v, .int .i64 id, .int .i64 lo, .int .i64 hi] w fun e w' => e = .returned (.int .i64 1) ∧ w.grownBy w' none := by
  have HF := Lib.hid (nz_cover h id lo hi 1)
  clear h
  go_enter Try.func15, Try.ntmps15
  go_wp2_with fail
  refine HF.out.mono ?_
  rintro e w2 ⟨rfl, e2⟩
  subst w2
  go_wp2_with fail
  go_ret
  exact ⟨rfl, grown_refl _ _⟩
theorem nz_drop (h : NS13 w v) (id lo hi : Int) : Calls Try.prog 17 #[v, .int .i64 id, .int .i64 lo, .int .i64 hi] w fun e w' => e = .returned (.tuple #[.slice none 0 0, .int .i64 1]) ∧ w.grownBy w' none := by
  have HF := Lib.hid (nz_cover h id lo hi (-1))
  clear h
  go_enter Try.func17, Try.ntmps17
  go_wp2_with fail
  refine HF.out.mono ?_
  rintro e w2 ⟨rfl, e2⟩
  subst w2
  go_wp2_with fail
  go_ret2
  exact ⟨rfl, grown_refl _ _⟩
theorem nz_copy (h : NS13 w v) (id lo hi : Int) : Calls Try.prog 20 #[v, .int .i64 id, .int .i64 lo, .int .i64 hi] w fun e w' => e = .returned (.tuple #[.int .i64 0, .slice none 0 0, .int .i64 1]) ∧ w.grownBy w' none := by
  have HF := Lib.hid (nz_find h id)
  clear h
  go_enter Try.func20, Try.ntmps20
  go_wp2_with fail
  refine HF.out.mono ?_
  rintro e w2 ⟨rfl, e2⟩
  subst w2
  go_wp2_with fail
  go_ret3
  exact ⟨rfl, grown_refl _ _⟩
theorem nz_slots (h : NS13 w v) (id : Int) : Calls Try.prog 23 #[v, .int .i64 id] w fun e w' => e = .returned (.int .i64 0) ∧ w.grownBy w' none := by
  have HF := Lib.hid (nz_find h id)
  clear h
  go_enter Try.func23, Try.ntmps23
  go_wp2_with fail
  refine HF.out.mono ?_
  rintro e w2 ⟨rfl, e2⟩
  subst w2
  go_wp2_with fail
  go_ret
  exact ⟨rfl, grown_refl _ _⟩
theorem nz_get (h : NS13 w v) (id s : Int) : Calls Try.prog 27 #[v, .int .i64 id, .int .i64 s] w fun e w' => e = .returned (.int .i64 0) ∧ w.grownBy w' none := by
  have HF := Lib.hid (nz_find h id)
  clear h
  go_enter Try.func27, Try.ntmps27
  go_wp2_with fail
  refine HF.out.mono ?_
  rintro e w2 ⟨rfl, e2⟩
  subst w2
  go_wp2_with fail
  go_ret
  exact ⟨rfl, grown_refl _ _⟩
theorem nz_coverp (h : NS13 w v) (id s : Int) : Calls Try.prog 25 #[v, .int .i64 id, .int .i64 s] w fun e w' => e = .returned (.int .i64 0) ∧ w.grownBy w' none := by
  have HF := Lib.hid (nz_find h id)
  clear h
  go_enter Try.func25, Try.ntmps25
  go_wp2_with fail
  refine HF.out.mono ?_
  rintro e w2 ⟨rfl, e2⟩
  subst w2
  go_wp2_with fail
  go_ret
  exact ⟨rfl, grown_refl _ _⟩
theorem nz_ids (h : NS13 w v) : Calls Try.prog 29 #[v] w fun e w' => ∃ a c, e = .returned (.slice a 0 c) ∧ w.grownBy w' none := by
  have HT := Lib.hid (nz_there h)
  clear h
  go_enter Try.func29, Try.ntmps29
  go_wp2_with fail
  refine HT.out.mono ?_
  rintro e w2 ⟨rfl, e2⟩
  subst w2
  go_wp2_with fail
  go_ret
  exact ⟨_, _, rfl, grown_refl _ _⟩
theorem nz_used (h : NS13 w v) (id : Int) : Calls Try.prog 45 #[v, .int .i64 id] w (UsedR w []) := by
  have HF := Lib.hid (nz_find h id)
  have HU := Lib.hid (used_of none 0 0 w)
  clear h
  go_enter Try.func45, Try.ntmps45
  go_wp2_with fail
  refine HF.out.mono ?_
  rintro e w2 ⟨rfl, e2⟩
  subst w2
  go_wp2_with fail
  refine HU.out.mono ?_
  rintro e w2 ⟨rfl, rfl⟩
  go_wp2_with fail
  go_ret
  exact ⟨_, _, rfl, (Boxed.new w 39 (.slice none 0 0)).cell, RowAt.nil _ _, (fun b e => by cases e), Nat.le_refl _, World.grownBy_alloc w _ none⟩
end
theorem noneOk13 : NoneOk13 NS13 where
  form := NS13.form
  nil := fun w => .inl rfl
  kept := fun h g => h.kept g
  make := fun h n => nz_make h n
  set := fun h id s x => nz_set h id s x
  hold := fun h id lo hi => nz_hold h id lo hi
  drop := fun h id lo hi => nz_drop h id lo hi
  copy := fun h id lo hi => nz_copy h id lo hi
  slots := fun h id => nz_slots h id
  get := fun h id s => nz_get h id s
  cover := fun h id s => nz_coverp h id s
  ids := fun h => nz_ids h
  used := fun h id => nz_used h id
theorem pool13_zero (w : World) : NS13 (w.alloc (.cells #[.bool false, .slice none 0 0] 66)) (.pointer (some ⟨w.heap.size, 0, none⟩)) := .inr ⟨_, rfl, heap_alloc_new w _⟩
theorem pasOk : StOkA PAS := ⟨fun h => by obtain ⟨v, S, h, -, rfl⟩ := h; exact PoolA.lt dsS h, fun h hs hb => by obtain ⟨v, S, h, hg, rfl⟩ := h; exact ⟨v, S, PoolA.kept dsS h hs hb, hg, rfl⟩, fun h => by obtain ⟨v, S, h, hg, rfl⟩ := h; exact hg⟩
theorem amOk : AmOk PAS where
  toStOkA := pasOk
  new := fun n w hn => (pa_new n w hn).mono fun e w' ⟨p, v, he, h, g, h1, h2⟩ => ⟨p, _, he, ⟨v, S0a, h, ⟨Nat.zero_le _, hn, (fun a h => by cases h)⟩, rfl⟩, g, fun b hb => by
    rcases mem_blkA.1 hb with e | e | e
    · rw [e]; exact h1
    · exact h2 b e
    · cases e⟩
  newNo := fun n w h => pa_new_no n w h
  make := fun h n hn => by obtain ⟨v, S, h, hg, rfl⟩ := h; exact pa_make h hg n hn
  set := fun h id s x h1 h2 h3 => by obtain ⟨v, S, h, hg, rfl⟩ := h; exact pa_set h hg id s x h1 h2 h3
  hold := fun h id lo hi h1 h2 h3 => by obtain ⟨v, S, h, hg, rfl⟩ := h; exact pa_hold h hg id lo hi h1 h2 h3
  drop := fun h id lo hi h1 h2 h3 => by obtain ⟨v, S, h, hg, rfl⟩ := h; exact pa_drop h hg id lo hi h1 h2 h3
  copy := fun h id lo hi h1 h2 h3 => by obtain ⟨v, S, h, hg, rfl⟩ := h; exact pa_copy h hg id lo hi h1 h2 h3
  slots := fun h id h1 => by obtain ⟨v, S, h, hg, rfl⟩ := h; exact pa_slots h hg id h1
  get := fun h id s h1 h2 => by obtain ⟨v, S, h, hg, rfl⟩ := h; exact pa_get h hg id s h1 h2
  cover := fun h id s h1 h2 => by obtain ⟨v, S, h, hg, rfl⟩ := h; exact pa_cover h hg id s h1 h2
  ids := fun h => by obtain ⟨v, S, h, hg, rfl⟩ := h; exact pa_ids h hg
  used := fun h id h1 => by obtain ⟨v, S, h, hg, rfl⟩ := h; exact pa_used h hg id h1
end Go.Proofs.Ytfmihbiongnpnaa
