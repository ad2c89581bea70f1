/- Package anon's heap (landed), in the second field of a pool: put, take. -/
import Derived.Test.YtpiemnffbcgbmaaNHb
namespace Go.Proofs.Ytpiemnffbcgbmaa
open Go.ChangeShapes Go.WideShapes Go.ChangeAt Go.RowKit Go.Deep
set_option linter.unusedVariables false

/-- A pool's block, and the heap that its second field leads to. -/
structure FreeS (w : World) (p : Nat) (m hv : Value) (zs : List Int) : Prop where
  head : w.heap[p]? = some (.cells #[m, hv] 61 (0, 0))
  own : ZOwn w 0 hv zs
  ok : HeapOk zs
def blkH (p : Nat) (hv : Value) : List Nat := p :: hv.ownBlock.toList
/-- What a call on the heap leaves. -/
def FreeLeft (w w' : World) (p : Nat) (m hv : Value) (zs' : List Int) : Prop := ∃ hv', FreeS w' p m hv' zs' ∧ Turn (blkH p hv) w w' ∧ (hv'.ownBlock = hv.ownBlock ∨ ∃ b, hv'.ownBlock = some b ∧ w.heap.size ≤ b)
section
variable {w w' w2 : World} {p : Nat} {m hv : Value} {zs zs' : List Int}
theorem FreeS.plt (h : FreeS w p m hv zs) : p < w.heap.size := (Array.getElem?_eq_some_iff.1 h.head).1
theorem FreeS.ne (h : FreeS w p m hv zs) {g : Nat} (hg : hv.ownBlock = some g) : g ≠ p := fun e => by
  rcases h.own.2 with ⟨e2, _⟩ | ⟨g', cap, cur, e2, _, hgg, _⟩
  · rw [e2] at hg; cases hg
  · rw [e2] at hg
    have e3 : g' = g := by simpa [Value.ownBlock] using hg
    rw [e3, e] at hgg
    have := h.head.symm.trans hgg
    simp at this
theorem FreeS.lt (h : FreeS w p m hv zs) : ∀ b, b ∈ blkH p hv → b < w.heap.size := fun b hb => by
  unfold blkH at hb
  rcases List.mem_cons.1 hb with rfl | hb
  · exact h.plt
  · exact (OwnOf.lt h.own (by simpa using hb)).2
theorem FreeS.kept (h : FreeS w p m hv zs) (hb : ∀ b, b ∈ blkH p hv → w'.heap[b]? = w.heap[b]?) : FreeS w' p m hv zs :=
  ⟨(hb p (by simp [blkH])).trans h.head, OwnOf.kept h.own fun g e => hb g (by simp [blkH, e]), h.ok⟩
theorem FreeS.grow (h : FreeS w p m hv zs) (g : w.grownBy w' none) : FreeS w' p m hv zs := h.kept fun b hb => g.block b (h.lt b hb) (by simp)
theorem FreeS.at (h : FreeS w p m hv zs) : w.cell? ⟨p, 0, none⟩ = some m ∧ w.cell? ⟨p, 1, none⟩ = some hv := ⟨by rw [cell_of_row _ _ _ _ _ _ h.head]; rfl, by rw [cell_of_row _ _ _ _ _ _ h.head]; rfl⟩
theorem FreeS.frozen (h : FreeS w p m hv zs) (o : Nat) : w.frozen? ⟨p, o, none⟩ = false := frozen_of_row _ _ _ _ _ h.head
end

/-- 'append(h, n)', and where the new row lies. -/
theorem wpList_hpush {ops : Array Oper} {rest : List Oper} {o : Oper} {a : Act} {Q : Exit → Act → World → Prop} (w : World) (hgd : o.guard = none) (s x : Operand)
    (ho : o.op = .call { callee := .builtin .append, args := #[s, x], argTypes := #[59, 59] }) (base : Nat) (v : Value) (xs : List Int) (y : Int) (hs : a.eval s = v) (h : ZOwn w base v xs) (H c : Nat)
    (hx : a.eval x = .slice (some ⟨H, 0, none⟩) 1 c) (hH : w.heap.size = H) (hl : xs.length ≤ 1000000) (hbase : base ≤ H)
    (hK : ∀ g cap w', ZOwn w' base (.slice (some ⟨g, 0, none⟩) (xs.length + 1) cap) (xs ++ [y]) → (w.alloc (.cells #[.int .i64 y] 3)).grownBy w' v.ownBlock → ((some g = v.ownBlock) ∨ ∃ b, some g = some b ∧ w.heap.size ≤ b) → wpList Try.prog ops Q rest (a.put o.dst (.slice (some ⟨g, 0, none⟩) (xs.length + 1) cap)) w') :
    wpList Try.prog ops Q (o :: rest) a (w.alloc (.cells #[.int .i64 y] 3)) := by
  obtain ⟨i0, hi, hz0, hz1, hz2⟩ := info_parts info_intZ
  subst hH
  refine wpList_append_own_at _ hgd s x 59 ho base 3 i0 (.int .i64 0) 1 8 Try.underlying59 hi hz0 hz1 hz2 rfl (by decide) v xs.length (xs.flatMap zCells) hs (World.ownsRow.alloc h _) ⟨w.heap.size, 0, none⟩ 1 c (zCells y) hx rfl ?_ ?_ (by unfold maxLen; omega) (by omega) (by simp; omega) ?_
  · exact World.news_of_block (heap_alloc_new w _)
  · intro u hu; simp [zCells] at hu; rw [hu]; rfl
  · intro v' w' hown hgrow hnil hat
    obtain ⟨g, cap, hvf⟩ : ∃ g cap, v' = .slice (some ⟨g, 0, none⟩) (xs.length + 1) cap := by
      rcases hown.2 with ⟨_, h0⟩ | ⟨g, cap, _, rfl, _⟩
      · omega
      · exact ⟨g, cap, rfl⟩
    subst hvf
    refine hK g cap w' ?_ hgrow ?_
    · unfold ZOwn OwnOf
      simp only [List.length_append, List.length_cons, List.length_nil, List.flatMap_append, List.flatMap_cons, List.flatMap_nil, List.append_nil]
      exact hown
    · rcases hat with e | e
      · exact .inl e
      · exact .inr ⟨_, e, by rw [World.size_alloc]; omega⟩

section
variable {w w' w2 : World} {p : Nat} {m hv : Value} {zs zs' : List Int}
/-- Behind the append and the store: the longer row. -/
theorem FreeS.pushed (h : FreeS w p m hv zs) {n : Int} {g c : Nat} {w9 : World} (k : (w.alloc (.cells #[.int .i64 n] 3)).grownBy w9 hv.ownBlock) (hown : ZOwn w9 0 (.slice (some ⟨g, 0, none⟩) (zs.length + 1) c) (zs ++ [n])) (hat : some g = hv.ownBlock ∨ ∃ b, some g = some b ∧ w.heap.size ≤ b) :
    (w9.heap[p]? = some (.cells #[m, hv] 61 (0, 0))) ∧ g ≠ p ∧ (w9.setCell ⟨p, 1, none⟩ (.slice (some ⟨g, 0, none⟩) (zs.length + 1) c)).heap[p]? = some (.cells #[m, .slice (some ⟨g, 0, none⟩) (zs.length + 1) c] 61 (0, 0)) ∧
      ZOwn (w9.setCell ⟨p, 1, none⟩ (.slice (some ⟨g, 0, none⟩) (zs.length + 1) c)) 0 (.slice (some ⟨g, 0, none⟩) (zs.length + 1) c) (zs ++ [n]) ∧ Turn (blkH p hv) w (w9.setCell ⟨p, 1, none⟩ (.slice (some ⟨g, 0, none⟩) (zs.length + 1) c)) := by
  have hp := h.plt
  have h9 : w9.heap[p]? = some (.cells #[m, hv] 61 (0, 0)) := (k.block p (by simp; omega) (fun e => h.ne e.symm rfl)).trans ((heap_alloc_old w _ hp).trans h.head)
  have hne : g ≠ p := by
    rcases hat with e | ⟨b, e, hb⟩
    · exact h.ne e.symm
    · have := Option.some.inj e; omega
  refine ⟨h9, hne, heap_setCell_same w9 p 1 _ _ _ h9, OwnOf.kept hown fun b e => heap_setCell_other w9 _ _ _ ?_, ?_⟩
  · have e2 : g = b := by simpa [Value.ownBlock] using e
    subst e2
    first | exact hne | exact hne.symm
  · have t1 : Turn (blkH p hv) w w9 := by
      refine (Turn.grown (World.grownBy_alloc w _ none)).trans' ⟨k.os, k.tape, k.output, k.size, fun b hb ho => k.block b hb fun e => ho ?_⟩
      simp [blkH, e.symm]
    exact t1.trans' (Turn.setCell _ w9 p 1 _ (by simp [blkH]))

set_option maxHeartbeats 2000000 in
theorem heap_put (h : FreeS w p m hv zs) (n : Int) (hl : zs.length < 4096) :
    Calls Try.prog 26 #[.pointer (some ⟨p, 1, none⟩), .int .i64 n] w fun e w' => e = .returned (.tuple #[]) ∧ ∃ zs', zs'.Perm (n :: zs) ∧ FreeLeft w w' p m hv zs' := by
  obtain ⟨sa, sc, rfl⟩ := OwnOf.form h.own
  obtain ⟨c0, c1⟩ := h.at
  have f1 := h.frozen 1
  have HF := Lib.hid h
  have HO := Lib.hid h.own
  have hn1 := World.new_ne w ⟨p, 1, none⟩ c1
  clear h c0
  go_enter Try.func26, Try.ntmps26
  go_wp2_with (at_builtin; refine wpList_hpush w rfl _ _ rfl 0 (.slice sa zs.length sc) zs n rfl HO.out w.heap.size 1 rfl rfl (by omega) (Nat.zero_le _) ?_; intro g9 k9 w9 hown9 hgrow9 hat9; obtain ⟨kk9, hne9, h9b, hown9b, t9⟩ := HF.out.pushed hgrow9 hown9 hat9; have c9 : w9.cell? ⟨p, 1, none⟩ = some (.slice sa zs.length sc) := (by rw [cell_of_row _ _ _ _ _ _ kk9]; rfl); have f9 : w9.frozen? ⟨p, 1, none⟩ = false := frozen_of_row _ _ _ _ _ kk9; have HB9 := Lib.hid h9b; have HOB := Lib.hid hown9b; have HT9 := Lib.hid t9; have HNE := Lib.hid hne9; have HAT := Lib.hid hat9; clear hown9 hgrow9 hat9 kk9 hne9 h9b hown9b t9)
  have HU := Lib.hid (UpOk.push HF.out.ok n)
  have HP := Lib.hid (List.perm_append_comm (l₁ := zs) (l₂ := [n]))
  obtain ⟨Z, hZ, hZl⟩ : ∃ Z, zs ++ [n] = Z ∧ Z.length = zs.length + 1 := ⟨_, rfl, by simp⟩
  rw [hZ] at HOB HU HP
  obtain ⟨q, hq⟩ : ∃ q, zs.length = q := ⟨_, rfl⟩
  have HQ := Lib.hid hq
  rw [hq] at HOB HB9 HT9 HU hl hZl ⊢
  generalize hW9 : w9.setCell ⟨p, 1, none⟩ (.slice (some ⟨g9, 0, none⟩) (q + 1) k9) = W9 at *
  have hR := rise_ok (w := W9.drew) (zs := Z) (k := q) (by rw [hZl]; exact OwnOf.kept HOB.out fun _ _ => rfl) HU.out (by omega)
  rw [hZl] at hR
  have HR := Lib.hid hR
  have hwq : IntKind.i64.wrap (q : Int) = (q : Int) := by rw [IntKind.wrap_i64]; omega
  have hkd : W9.drew.cell? ⟨p, 1, none⟩ = some (.slice (some ⟨g9, 0, none⟩) (q + 1) k9) := by rw [cell_of_row W9.drew _ _ _ _ _ HB9.out]; rfl
  have hp9 : p < W9.drew.heap.size := (Array.getElem?_eq_some_iff.1 HB9.out).1
  clear hR c1 f1 hn1 hZ hZl hW9 c9 f9 hq
  go_wp2_with fail
  go_region_held3 (fun W => W.cell? ⟨p, 1, none⟩ = some (.slice (some ⟨g9, 0, none⟩) (q + 1) k9)) (exact hkd)
    (first | (go_at_call 35; with_reducible refine (HR.out.mono ?_); rintro e w10 ⟨rfl, zs', hok, hw⟩; have HOk := Lib.hid hok; have HW := Lib.hid hw; have HH10 := Lib.hid (show w10.heap[p]? = W9.drew.heap[p]? from HW.out.grown.block p hp9 (fun e => absurd (Option.some.inj e).symm HNE.out)); replace hkd := (World.cell?_of_block (a := ⟨p, 1, none⟩) HH10.out).trans hkd; clear hok hw))
  go_end0
  refine ⟨rfl, zs', HW.out.perm.trans HP.out, _, ⟨HH10.out.trans HB9.out, HW.out.own, HOk.out⟩, ?_, ?_⟩
  · rw [HQ.out]
    refine HT9.out.trans (O' := [g9]) ((Turn.grown (grown_drew1 W9)).trans' (Turn.one HW.out.grown (by simp))) fun b hb => ?_
    simp at hb
    subst hb
    rcases HAT.out with e | ⟨b2, e, hb2⟩
    · exact .inl (by rw [HQ.out] at e; simp [blkH]; exact .inr e.symm)
    · exact .inr (by have := Option.some.inj e; omega)
  · rcases HAT.out with e | ⟨b2, e, hb2⟩
    · exact .inl e
    · exact .inr ⟨b2, e, hb2⟩

theorem heap_take_none (h : FreeS w p m hv []) : Calls Try.prog 28 #[.pointer (some ⟨p, 1, none⟩)] w fun e w' => e = .returned (.tuple #[.int .i64 0, .bool false]) ∧ w' = w := by
  obtain ⟨sa, sc, rfl⟩ := OwnOf.form h.own
  obtain ⟨c0, c1⟩ := h.at
  clear h c0
  go_enter Try.func28, Try.ntmps28
  go_wp2_with fail
  go_ret2
  exact ⟨rfl, rfl⟩

/-- A shorter row in the same block. -/
theorem own_take {base g c n k : Nat} {zs : List Int} (h : ZOwn w base (.slice (some ⟨g, 0, none⟩) n c) zs) (hn : zs.length = n) (hk : k ≤ n) : ZOwn w base (.slice (some ⟨g, 0, none⟩) k c) (zs.take k) := by
  have hl : (zs.take k).length = k := by rw [List.length_take]; omega
  unfold ZOwn OwnOf at h ⊢
  rw [hl]
  rcases h.2 with ⟨e, _⟩ | ⟨g', cap, cur, e, hb, hg, h1, h2, h3, h4⟩
  · cases e
  · cases e
    refine ⟨by rw [flat_len zCells 1 z_len, hl], .inr ⟨g, c, cur, rfl, hb, hg, by omega, h2, h3, ?_⟩⟩
    rw [z_flat, List.map_take, ← z_flat, ← h4, List.take_take]
    congr 1
    omega

set_option maxHeartbeats 2000000 in
theorem heap_take (h : FreeS w p m hv zs) (h0 : zs ≠ []) (hl : zs.length ≤ 4096) :
    Calls Try.prog 28 #[.pointer (some ⟨p, 1, none⟩)] w fun e w' => e = .returned (.tuple #[.int .i64 (zat zs 0), .bool true]) ∧ ∃ zs', (zat zs 0 :: zs').Perm zs ∧ FreeLeft w w' p m hv zs' := by
  obtain ⟨k, hk⟩ : ∃ k, zs.length = k + 1 := ⟨zs.length - 1, by have : zs.length ≠ 0 := fun e => h0 (List.length_eq_zero_iff.1 e); omega⟩
  obtain ⟨g, sc, hsv⟩ := OwnOf.there h.own (by omega)
  rw [hk] at hsv
  subst hsv
  obtain ⟨c0, c1⟩ := h.at
  have f1 := h.frozen 1
  have hown := h.own
  rw [← hk] at hown
  have z0 := own_z hown (get_zat (zs := zs) (k := 0) (by omega))
  have z1 := own_z hown (get_zat (zs := zs) (k := k) (by omega))
  have y0 := OwnOf.frozen hown 0
  have hne := h.ne (g := g) rfl
  have HP := Lib.hid (take_perm (zs := zs) k hk)
  have HD := Lib.hid (DownOk.take h.ok k (zat zs k) hk)
  have hs1 := ZOwn.set hown 0 (zat zs k)
  have hZl : ((zs.set 0 (zat zs k)).take k).length = k := by simp; omega
  have hs2 := own_take hs1 (List.length_set.trans rfl |>.symm ▸ rfl) (show k ≤ zs.length by omega)
  have hc : w.cell? ⟨p, 1, none⟩ = _ := c1
  have hh1 := heap_setCell_other w ⟨g, 0, none⟩ p (.int .i64 (zat zs k)) (by first | exact hne | exact hne.symm)
  have hh2 := heap_setCell_same (w.setCell ⟨g, 0, none⟩ (.int .i64 (zat zs k))) p 1 _ _ (.slice (some ⟨g, 0, none⟩) k sc) (hh1.trans h.head)
  have ht : Turn (blkH p (.slice (some ⟨g, 0, none⟩) (k + 1) sc)) w ((w.setCell ⟨g, 0, none⟩ (.int .i64 (zat zs k))).setCell ⟨p, 1, none⟩ (.slice (some ⟨g, 0, none⟩) k sc)) := (Turn.setCell _ w g 0 _ (by simp [blkH, Value.ownBlock])).trans' (Turn.setCell _ _ p 1 _ (by simp [blkH]))
  have hs3 : ZOwn ((w.setCell ⟨g, 0, none⟩ (.int .i64 (zat zs k))).setCell ⟨p, 1, none⟩ (.slice (some ⟨g, 0, none⟩) k sc)) 0 (.slice (some ⟨g, 0, none⟩) k sc) ((zs.set 0 (zat zs k)).take k) := OwnOf.kept hs2 fun b e => heap_setCell_other _ _ _ _ (by
    have e2 : g = b := by simpa [Value.ownBlock] using e
    subst e2
    first | exact hne | exact hne.symm)
  generalize hx0 : zat zs 0 = x0 at *
  generalize hx1 : zat zs k = x1 at *
  obtain ⟨Z, hZ⟩ : ∃ Z, (zs.set 0 x1).take k = Z := ⟨_, rfl⟩
  rw [hZ] at HP HD hZl hs3
  rw [hk] at hl
  have hcap : k + 1 ≤ sc := by
    rcases h.own.2 with ⟨e, _⟩ | ⟨g', cap, cur, e, _, _, h1, _⟩
    · cases e
    · simp only [Value.slice.injEq] at e; rw [hk] at h1; omega
  have HT := Lib.hid ht
  have HH := Lib.hid hh2
  have hW3 : ∃ W3, (w.setCell ⟨g, 0, none⟩ (.int .i64 x1)).setCell ⟨p, 1, none⟩ (.slice (some ⟨g, 0, none⟩) k sc) = W3 := ⟨_, rfl⟩
  obtain ⟨W3, hW3⟩ := hW3
  have c3 : W3.cell? ⟨p, 1, none⟩ = some (.slice (some ⟨g, 0, none⟩) k sc) := by rw [← hW3, cell_of_row _ _ _ _ _ _ hh2]; rfl
  rw [hW3] at HT HH
  have hp3 : p < W3.heap.size := (Array.getElem?_eq_some_iff.1 HH.out).1
  have HNE := Lib.hid hne
  have hR := sink_ok (w := W3) (zs := Z) (k := 0) (by rw [hZl, ← hW3]; exact hs3) HD.out (by omega) (by omega) (by omega)
  rw [hZl] at hR
  have HR := Lib.hid hR
  clear c0 hown hne HD hs1 hZl hs2 hc hh1 hh2 ht hs3 hx0 hx1 hZ h0 hk h hR
  go_enter Try.func28, Try.ntmps28
  go_wp2_with fail
  refine HR.out.mono ?_
  rintro e w10 ⟨rfl, zs', hok, hw⟩
  have HOk := Lib.hid hok
  have HW := Lib.hid hw
  clear hok hw
  go_wp2_with fail
  go_ret2
  refine ⟨rfl, zs', ((HW.out.perm.cons x0).trans HP.out), _, ⟨(HW.out.grown.block p hp3 (fun e => absurd (Option.some.inj e).symm HNE.out)).trans HH.out, HW.out.own, HOk.out⟩, ?_, .inl rfl⟩
  exact HT.out.trans' (Turn.one HW.out.grown (by simp [blkH, Value.ownBlock]))
end
end Go.Proofs.Ytpiemnffbcgbmaa
