/- Package tlb: Keys; all that it says of its tables. -/
import Derived.Test.YtmddflhacamnaaaTOps
namespace Go.Proofs.Ytmddflhacamnaaa
open Go.ChangeShapes Go.WideShapes Go.ChangeAt Go.RowKit Go.Deep
set_option linter.unusedVariables false

/-- append([]Key{}, s...). -/
theorem run_clone_keys {w : World} {g b c : Nat} {xs : List KeptV} (ty : TypeId) (hg : w.heap[g]? = some (.cells #[] 29 (0, 0))) (hr : w.ownsRow 0 29 2 (.slice (some ⟨b, 0, none⟩) xs.length c) xs.length (xs.flatMap keyCells)) (hl : xs.length ≤ 1024) :
    ∃ v' w', (Builtin.append_ #[44, 44] ty #[.slice (some ⟨g, 0, none⟩) 0 0, .slice (some ⟨b, 0, none⟩) xs.length c]).run Try.prog w = .ok v' w' ∧ RowOf keyCells 2 w' v' xs ∧ w.grownBy w' (some g) ∧ (∀ k, v'.ownBlock = some k → g ≤ k) ∧ ∃ s c', v' = .slice s xs.length c' := by
  have hglt := (Array.getElem?_eq_some_iff.1 hg).1
  obtain ⟨i0, hi, hz0, hz1, hz2⟩ := info_parts info_tkey
  have hown : w.ownsRow g 29 2 (.slice (some ⟨g, 0, none⟩) 0 0) 0 [] := ⟨rfl, .inr ⟨g, 0, #[], rfl, Nat.le_refl _, hg, Nat.le_refl _, by simp [maxLen], rfl, rfl⟩⟩
  by_cases h0 : xs = []
  · subst h0
    refine ⟨.slice (some ⟨g, 0, none⟩) 0 0, w, ?_, ⟨rfl, .inr ⟨g, 0, 0, rfl, hglt, by simp⟩⟩, grown_refl _ _, fun k hk => Nat.le_of_eq (by simpa [Value.ownBlock] using hk), _, _, rfl⟩
    have hf := run_firstCells_some (P := Try.prog) w i0.size 0 ⟨b, 0, none⟩ 0 c [] (by simp) (by simp)
    simp [Builtin.append_, run_underlying Try.underlying44, sizeOf, typeInfo, hi, Builtin.lenOf, storeCells, hf]
  · have hpos : 0 < xs.length := List.length_pos_iff.2 h0
    obtain ⟨g', cap, w', hrun, h2, h3, h4, h5⟩ := run_append_lies (P := Try.prog) w 44 ty g 29 i0 (.agg #[.int .i64 0, .int .i64 0]) 2 16 Try.underlying44 hi hz0 hz1 hz2 rfl (by decide) _ 0 [] hown ⟨b, 0, none⟩ xs.length c (xs.flatMap keyCells) (flat_len keyCells 2 key_len xs)
      (hr.cells (g := b) rfl) (keys_one xs) hpos (by unfold maxLen; omega) (by omega) (Nat.le_of_lt hglt) w.heap.size rfl
    rw [Nat.zero_add] at hrun h2
    refine ⟨_, w', hrun, RowAt.own h2, by simpa [Value.ownBlock] using h3, fun k hk => (World.ownsRow.lt h2 k hk).1, _, _, rfl⟩

/-- .. at the operation. -/
theorem wpList_clone_keys {ops : Array Oper} {rest : List Oper} {o : Oper} {a : Act} {Q : Exit → Act → World → Prop} {w : World} (hgd : o.guard = none) (x y : Operand)
    (hop : o.op = Op.call { callee := Callee.builtin Builtin.append, args := #[x, y], argTypes := #[44, 44] })
    {g b c : Nat} {xs : List KeptV} (hg : w.heap[g]? = some (.cells #[] 29 (0, 0))) (hx : a.eval x = .slice (some ⟨g, 0, none⟩) 0 0) (hy : a.eval y = .slice (some ⟨b, 0, none⟩) xs.length c)
    (hr : w.ownsRow 0 29 2 (.slice (some ⟨b, 0, none⟩) xs.length c) xs.length (xs.flatMap keyCells)) (hl : xs.length ≤ 1024)
    (hK : ∀ s c' w', RowOf keyCells 2 w' (.slice s xs.length c') xs → w.grownBy w' (some g) → (∀ k, (Value.slice s xs.length c').ownBlock = some k → g ≤ k) → wpList Try.prog ops Q rest (a.put o.dst (.slice s xs.length c')) w') :
    wpList Try.prog ops Q (o :: rest) a w := by
  refine wpList_plain hgd fun K hK' => ?_
  obtain ⟨v', w', hrun, h1, h2, h3, s, c', rfl⟩ := run_clone_keys o.type hg hr hl
  have hfin := hK s c' w' h1 h2 h3
  unfold Oper.wp
  simp [execOp, hop, resolve, invoke, builtin, hx, hy, hrun, Result.andThen]
  exact hK' _ _ hfin

theorem eql_keys_nil (w : World) : (binOp .eql 44 (.slice none 0 0) (.slice none 0 0)).run Try.prog w = .ok (.bool true) w := by kernel_rfl
theorem eql_keys_some (w : World) (g n c : Nat) : (binOp .eql 44 (.slice (some ⟨g, 0, none⟩) n c) (.slice none 0 0)).run Try.prog w = .ok (.bool false) w := by
  have h1 : ∀ d : Nat, (Op.equalIn (d + 1) 44 (.slice (some ⟨g, 0, none⟩) n c) (.slice none 0 0)).run Try.prog w = .ok false w := fun d => by
    simp [Op.equalIn, run_underlying Try.underlying44]
  simp only [binOp]
  simp [Op.equal, Op.maxDepth, h1 9999]

section
variable {w : World} {p M : Nat} {sz : Int} {v : Value} {xs : List KeptV}

theorem clone_walk (hr : w.ownsRow 0 29 2 v xs.length (xs.flatMap keyCells)) (hl : xs.length ≤ 1024) :
    Calls Try.prog 29 #[v] w fun e w' => ∃ v', e = .returned v' ∧ RowOf keyCells 2 w' v' xs ∧ w.grownBy w' none ∧ ∀ b, v'.ownBlock = some b → w.heap.size ≤ b := by
  rcases hr.2 with ⟨rfl, h0⟩ | ⟨g, c, cur, rfl, _, hb, _⟩
  · obtain rfl : xs = [] := List.length_eq_zero_iff.1 h0
    have hq := eql_keys_nil
    clear hr
    go_enter Try.func29, Try.ntmps29
    go_wp2_with fail
    go_ret
    exact ⟨_, rfl, RowAt.nil _ _, grown_refl _ _, fun b hb => by simp [Value.ownBlock] at hb⟩
  · have hq := eql_keys_some
    have HA := Lib.hid (World.ownsRow.alloc hr (.cells #[] 29 (0, 0)))
    have HN := Lib.hid (heap_alloc_new w (.cells #[] 29 (0, 0)))
    clear hr hb
    go_enter Try.func29, Try.ntmps29
    go_wp2_with (at_builtin; refine wpList_clone_keys rfl _ _ rfl HN.out rfl rfl HA.out hl ?_; intro s9 c9 w9 h9 g9 o9)
    have H9 := Lib.hid h9
    have HG9 := Lib.hid (grown_at (World.grownBy_alloc w (.cells #[] 29 (0, 0)) none) g9 (Nat.le_refl _))
    have HO9 := Lib.hid o9
    clear h9 g9 o9
    go_wp2_with fail
    go_ret
    exact ⟨_, rfl, H9.out, HG9.out, HO9.out⟩

theorem tab_keys (h : TabT w p sz xs M v) : Calls Try.prog 21 #[.pointer (some ⟨p, 0, none⟩)] w fun e w' => ∃ v', e = .returned v' ∧ RowOf keyCells 2 w' v' xs ∧ w.grownBy w' none ∧ ∀ b, v'.ownBlock = some b → w.heap.size ≤ b := by
  obtain ⟨c0, c1, c2⟩ := h.at
  have hq := eql_ptr_nil w ⟨p, 0, none⟩
  have hl : xs.length ≤ 1024 := by have := h.len; have := h.sz1; omega
  have HC := Lib.hid (clone_walk h.row hl)
  obtain ⟨s, c, hv⟩ := h.form
  subst hv
  clear h
  go_enter Try.func21, Try.ntmps21
  go_wp2_with fail
  refine HC.out.mono ?_
  rintro e w2 ⟨v', rfl, h2, g2, o2⟩
  obtain ⟨s', c', hv'⟩ := h2.form
  subst hv'
  have H2 := Lib.hid h2
  have HG2 := Lib.hid g2
  have HO2 := Lib.hid o2
  clear h2 g2 o2
  go_wp2_with fail
  go_ret
  exact ⟨_, rfl, H2.out, HG2.out, HO2.out⟩
end

/-- All that package tlb says of its tables. -/
theorem tlbOk : TlbOk TT where
  lt := fun h => h.lt
  kept := fun h hs hb => h.kept hs hb
  size := fun h => by obtain ⟨M, v, h, rfl⟩ := h; exact ⟨h.len, h.sz0, h.sz1⟩
  new := tt_new
  newNo := tt_newNo
  find := fun h a v ha hv => by obtain ⟨M, u, h, rfl⟩ := h; exact tab_find h a v ha hv
  put := fun h y hy => by
    obtain ⟨M, u, h, rfl⟩ := h
    refine (put_walk h y hy).mono ?_
    rintro e w' ⟨rfl, v', h1, h2, h3⟩
    refine ⟨rfl, _, ⟨M, v', h1, rfl⟩, h2, fun b hb => ?_⟩
    simp only [List.mem_cons, Option.mem_toList] at hb ⊢
    rcases hb with hb | hb | hb
    · exact .inl (.inl hb)
    · exact .inl (.inr (.inl hb))
    · rcases h3 with h3 | h3
      · exact .inl (.inr (.inr (by rw [← h3]; exact hb)))
      · exact .inr (h3 b hb)
  flush := fun h a v ha hv => by obtain ⟨M, u, h, rfl⟩ := h; exact tab_flush h a v ha hv
  flushAsid := fun h a ha => by obtain ⟨M, u, h, rfl⟩ := h; exact tab_asid h a ha
  flushAll := fun h => by obtain ⟨M, u, h, rfl⟩ := h; exact tab_all h
  len := fun h => by
    obtain ⟨M, u, h, rfl⟩ := h
    refine (tab_len h).mono ?_
    rintro e w' ⟨rfl, rfl⟩
    exact ⟨rfl, grown_refl _ _⟩
  keys := fun h => by obtain ⟨M, u, h, rfl⟩ := h; exact tab_keys h
end Go.Proofs.Ytmddflhacamnaaa
