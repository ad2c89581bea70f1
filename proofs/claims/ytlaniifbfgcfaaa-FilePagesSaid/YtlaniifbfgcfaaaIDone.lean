/- Package file (landed): a Store that no call made; all that the interfaces ask. -/
import Derived.Test.YtlaniifbfgcfaaaIDd
import Derived.Test.YtlaniifbfgcfaaaISay
namespace Go.Proofs.Ytlaniifbfgcfaaa
open Go.ChangeShapes Go.WideShapes Go.ChangeAt Go.RowKit Go.Deep
open Extern.Stop (cell)
set_option linter.unusedVariables false

/-- Nil, or a Store of zeros. -/
def NF (w : World) (v : Value) : Prop := v = .pointer none ∨ ∃ p, v = .pointer (some ⟨p, 0, none⟩) ∧ w.heap[p]? = some fileZero
section
variable {w w' : World} {v : Value} {M p n : Nat} {s : IS} {O : List Nat}
theorem eq_map10 (w : World) : (binOp .neq 62 (.map none) (.map none)).run Try.prog w = .ok (.bool false) w := by
  have h1 : ∀ d : Nat, (Op.equalIn (d + 1) 62 (.map none) (.map none)).run Try.prog w = .ok true w := fun d => by
    simp [Op.equalIn, run_underlying Try.underlying62]
  simp only [binOp]
  simp [Op.equal, Op.maxDepth, h1 9999]
theorem eq_st10 (w : World) : (binOp .neq 25 (.pointer none) (.pointer none)).run Try.prog w = .ok (.bool false) w := by
  have h1 : ∀ d : Nat, (Op.equalIn (d + 1) 25 (.pointer none) (.pointer none)).run Try.prog w = .ok true w := fun d => by
    simp [Op.equalIn, run_underlying Try.underlying25]
  simp only [binOp]
  simp [Op.equal, Op.maxDepth, h1 9999]
theorem nf_made (h : NF w v) : Calls Try.prog 30 #[v] w fun e w' => e = .returned (.bool false) ∧ w' = w := by
  rcases h with rfl | ⟨p, rfl, h⟩
  · have q1 := eq_st10
    go_enter Try.func30, Try.ntmps30
    go_wp2_with fail
    go_ret
    exact ⟨rfl, rfl⟩
  · have q1 := neq_st10
    have q2 := eq_map10
    have c1 : w.cell? ⟨p, 1, none⟩ = some (.map none) := by rw [cell_of_row _ _ _ _ _ _ h]; rfl
    clear h
    go_enter Try.func30, Try.ntmps30
    go_wp2_with fail
    go_ret
    exact ⟨rfl, rfl⟩
theorem nf_check (h : NF w v) (i q : Int) : Calls Try.prog 33 #[v, .int .i64 i, .int .i64 q] w fun e w' => e = .returned (.int .i64 1) ∧ w' = w := by
  have HM := Lib.hid (nf_made h)
  clear h
  go_enter Try.func33, Try.ntmps33
  go_wp2_with fail
  refine HM.out.mono ?_
  rintro e w2 ⟨rfl, e2⟩
  subst w2
  go_wp2_with fail
  go_ret
  exact ⟨rfl, rfl⟩
theorem nf_make (h : NF w v) (q : Int) : Calls Try.prog 12 #[v, .int .i64 q] w fun e w' => ∃ u, e = .returned (.tuple #[u, .int .i64 1]) ∧ w.grownBy w' none := by
  have HM := Lib.hid (nf_made h)
  clear h
  go_enter Try.func12, Try.ntmps12
  go_wp2_with fail
  refine HM.out.mono ?_
  rintro e w2 ⟨rfl, e2⟩
  subst w2
  go_wp2_with fail
  go_ret2
  exact ⟨_, rfl, grown_refl _ _⟩
theorem nf_size (h : NF w v) (q : Int) : Calls Try.prog 24 #[v, .int .i64 q] w fun e w' => ∃ u, e = .returned (.tuple #[u, .bool false]) ∧ w.grownBy w' none := by
  have HM := Lib.hid (nf_made h)
  clear h
  go_enter Try.func24, Try.ntmps24
  go_wp2_with fail
  refine HM.out.mono ?_
  rintro e w2 ⟨rfl, e2⟩
  subst w2
  go_wp2_with fail
  go_ret2
  exact ⟨_, rfl, grown_refl _ _⟩
theorem nf_resize (h : NF w v) (i q : Int) : Calls Try.prog 14 #[v, .int .i64 i, .int .i64 q] w fun e w' => e = .returned (.int .i64 1) ∧ w.grownBy w' none := by
  have HM := Lib.hid (nf_made h)
  clear h
  go_enter Try.func14, Try.ntmps14
  go_wp2_with fail
  refine HM.out.mono ?_
  rintro e w2 ⟨rfl, e2⟩
  subst w2
  go_wp2_with fail
  go_ret
  exact ⟨rfl, grown_refl _ _⟩
theorem nf_plan (h : NF w v) (q : Int) : Calls Try.prog 22 #[v, .int .i64 q] w fun e w' => e = .returned (.int .i64 1) ∧ w.grownBy w' none := by
  have HM := Lib.hid (nf_made h)
  clear h
  go_enter Try.func22, Try.ntmps22
  go_wp2_with fail
  refine HM.out.mono ?_
  rintro e w2 ⟨rfl, e2⟩
  subst w2
  go_wp2_with fail
  go_ret
  exact ⟨rfl, grown_refl _ _⟩
theorem nf_ids (h : NF w v) : Calls Try.prog 28 #[v] w fun e w' => ∃ a c, e = .returned (.slice a 0 c) ∧ w.grownBy w' none := by
  have HM := Lib.hid (nf_made h)
  clear h
  go_enter Try.func28, Try.ntmps28
  go_wp2_with fail
  refine HM.out.mono ?_
  rintro e w2 ⟨rfl, e2⟩
  subst w2
  go_wp2_with fail
  go_ret
  exact ⟨_, _, rfl, grown_refl _ _⟩
theorem nf_read (h : NF w v) (i q : Int) : Calls Try.prog 16 #[v, .int .i64 i, .int .i64 q] w fun e w' => ∃ u, e = .returned (.tuple #[u, .int .i64 1]) ∧ w.grownBy w' none := by
  have HM := Lib.hid (nf_check h i q)
  clear h
  go_enter Try.func16, Try.ntmps16
  go_wp2_with fail
  refine HM.out.mono ?_
  rintro e w2 ⟨rfl, e2⟩
  subst w2
  go_wp2_with fail
  go_ret2
  exact ⟨_, rfl, grown_refl _ _⟩
theorem nf_write (h : NF w v) (i q : Int) (a : Option Addr) (l c : Nat) : Calls Try.prog 19 #[v, .int .i64 i, .int .i64 q, .slice a l c] w fun e w' => e = .returned (.int .i64 1) ∧ w.grownBy w' none := by
  have HM := Lib.hid (nf_check h i q)
  clear h
  go_enter Try.func19, Try.ntmps19
  go_wp2_with fail
  refine HM.out.mono ?_
  rintro e w2 ⟨rfl, e2⟩
  subst w2
  go_wp2_with fail
  go_ret
  exact ⟨rfl, grown_refl _ _⟩
theorem nf_peek (h : NF w v) (i q : Int) : Calls Try.prog 26 #[v, .int .i64 i, .int .i64 q] w fun e w' => ∃ a c, e = .returned (.slice a 0 c) ∧ w.grownBy w' none := by
  have HM := Lib.hid (nf_check h i q)
  clear h
  go_enter Try.func26, Try.ntmps26
  go_wp2_with fail
  refine HM.out.mono ?_
  rintro e w2 ⟨rfl, e2⟩
  subst w2
  go_wp2_with fail
  go_ret
  exact ⟨_, _, rfl, grown_refl _ _⟩
end
theorem noneOk10 : NoneOk10 NF where
  grow h g := by
    rcases h with rfl | ⟨p, rfl, h⟩
    · exact .inl rfl
    · exact .inr ⟨p, rfl, (g.block p (Array.getElem?_eq_some_iff.1 h).1 (by simp)).trans h⟩
  nil _ := .inl rfl
  make h n := nf_make h n
  read h i n := nf_read h i n
  size h i := nf_size h i
  write h i n a l c := nf_write h i n a l c
  resize h i n := nf_resize h i n
  plan h n := nf_plan h n
  ids h := nf_ids h
  peek h i n := nf_peek h i n
theorem fileZero_ok : ∀ w : World, NF (w.alloc fileZero) (.pointer (some ⟨w.heap.size, 0, none⟩)) := fun w => .inr ⟨_, rfl, heap_alloc_new w _⟩

/-- Files as they stand: their own block, their map, the row of their sizes. -/
def DF (w : World) (p : Nat) (s : IS) (O : List Nat) (k : Nat) : Prop := ∃ (v : Value) (M n : Nat), O = blk p v M ∧ n ≤ k ∧ SI w p s v M n
theorem LeftS.il {w w' : World} {p M n k : Nat} {v : Value} {s' : IS} (h : LeftS w w' p M n v s') (hn : n ≤ k) : IL DF w w' p (blk p v M) s' k := by
  obtain ⟨v', h1, t, o⟩ := h
  exact ⟨blk p v' M, ⟨v', M, n, rfl, hn, h1⟩, t, o⟩
theorem flOk : FlOk DF where
  lt := by rintro w p s O k ⟨v, M, n, rfl, hn, h⟩; exact h.lt
  kept := by rintro w w' p s O k ⟨v, M, n, rfl, hn, h⟩ _ hb; exact ⟨v, M, n, rfl, hn, h.kept hb⟩
  new w := (fl_new w).mono fun e w' => by
    rintro ⟨p, M, he, hs, hg, hb⟩
    exact ⟨p, _, he, ⟨_, M, 0, rfl, Nat.le_refl _, hs⟩, hg, hb⟩
  make := by
    rintro w p s O k ⟨v, M, n, rfl, hn, h⟩ hk q _
    exact (fl_make h hk q).mono fun e w' he => ⟨he.1, he.2.il hn⟩
  size := by
    rintro w p s O k ⟨v, M, n, rfl, hn, h⟩ hk i hi
    exact (fl_size h hk.len i hi).mono fun e w' he => ⟨he.1, by rw [he.2]; exact grown_refl _ _⟩
  resize := by
    rintro w p s O k ⟨v, M, n, rfl, hn, h⟩ hk _ i q hi hq
    exact (fl_resize h hk i q hi hq).mono fun e w' he => ⟨he.1, _, ⟨v, M, n, rfl, hn, he.2.1⟩, he.2.2, fun b hb => .inl hb⟩
  read := by
    rintro w p s O k ⟨v, M, n, rfl, hn, h⟩ hk _ i q hi hq
    refine (fl_read h hk i q hi hq).mono ?_
    rintro e w' ⟨u, rfl, hf, h', hg⟩
    exact ⟨u, blk p v M, rfl, ⟨v, M, n, rfl, hn, h'⟩, Turn.one hg (by simp [blk]), fun b hb => .inl hb, hf⟩
  write := by
    rintro w p s O k ⟨v, M, n, rfl, hn, h⟩ hk hk2 i q a l c bs hi hq hs hl hne
    refine (fl_write h hk (by omega) i q hi hq a l c bs hs hl fun h0 ad e e2 => ?_).mono ?_
    · exact hne h0 ad e (by simp [blk, e2])
    · rintro e w' ⟨rfl, n', hn', h', ht⟩
      exact ⟨rfl, blk p v M, ⟨v, M, n', rfl, by omega, h'⟩, ht, fun b hb => .inl hb⟩
  plan := by
    rintro w p s O k ⟨v, M, n, rfl, hn, h⟩ hk q _
    refine (fl_plan h q).mono ?_
    rintro e w' ⟨rfl, h', hg⟩
    exact ⟨rfl, blk p v M, ⟨v, M, n, rfl, hn, h'⟩, Turn.one hg (by simp [blk]), fun b hb => .inl hb⟩
  ids := by rintro w p s O k ⟨v, M, n, rfl, hn, h⟩ hk; exact fl_ids h hk
  peek := by rintro w p s O k ⟨v, M, n, rfl, hn, h⟩ hk _ i q hi hq; exact fl_peek h hk i q hi hq
theorem none_done10 (W : World) (A : IActV) (hA : A.Ok W) : Calls Try.prog 7 #[.agg #[.int .i64 A.k, .int .i64 A.i, .int .i64 A.n, .slice A.s A.l A.c, .bool A.raw]] W fun e w' => e = .returned (.bool true) ∧ Below W.heap.size W w' := none_say10 flOk W noneOk10 fileZero_ok A hA
end Go.Proofs.Ytlaniifbfgcfaaa
