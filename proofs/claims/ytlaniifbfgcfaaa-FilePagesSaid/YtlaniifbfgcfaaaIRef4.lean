/- The document's files of layer 10: rows of sizes; Make. -/
import Derived.Test.YtlaniifbfgcfaaaIRef3
import Derived.Laws.AppendOwnNone
import Derived.Maps.AppendAt
namespace Go.Proofs.Ytlaniifbfgcfaaa
open Go.ChangeShapes Go.WideShapes Go.ChangeAt Go.RowKit Go.Deep
open Extern.Stop (cell)
set_option linter.unusedVariables false

theorem find_less (p r : PE → Bool) (L : List PE) : (lessP p L).find? r = L.find? fun x => !p x && r x := by
  unfold lessP
  induction L with
  | nil => rfl
  | cons x L ih =>
    cases hp : p x
    · cases hr : r x
      · simp [hp, hr, ih]
      · simp [hp, hr]
    · simp [hp, ih]
theorem pageOf_cut (L : List PE) (i n j k : Int) : pageOf (lessP (outP i n true) L) j k = cutI (pageOf L) i n j k := by
  unfold pageOf cutI
  rw [find_less]
  by_cases h : j = i ∧ n ≤ k
  · rw [if_pos h]
    have hn : L.find? (fun x => !outP i n true x && sameP j k x) = none := by
      rw [List.find?_eq_none]
      intro x _
      unfold outP sameP
      by_cases h1 : x.i = j ∧ x.n = k
      · simp [h1.1, h1.2, h.1, h.2]
      · simp [h1]
    rw [hn]
  · rw [if_neg h]
    have he : (fun x => !outP i n true x && sameP j k x) = sameP j k := by
      funext x
      unfold outP sameP
      by_cases h1 : x.i = j ∧ x.n = k
      · have h2 : ¬ (j = i ∧ (k = n ∨ n ≤ k)) := fun e => h ⟨e.1, e.2.elim (fun e => by omega) id⟩
        simp [h1.1, h1.2]
        by_cases e : j = i
        · exact .inr ⟨fun e2 => h2 ⟨e, .inl e2⟩, Int.not_le.1 fun e2 => h2 ⟨e, .inr e2⟩⟩
        · exact .inl e
      · simp [h1]
    rw [he]
theorem pageOf_put (L : List PE) (i n j k : Int) (g c : Nat) (bs : List UInt8) : pageOf (lessP (outP i n false) L ++ [⟨i, n, g, c, bs⟩]) j k = putI (pageOf L) i n bs j k := by
  unfold pageOf putI
  rw [List.find?_append, find_less]
  by_cases h : j = i ∧ k = n
  · obtain ⟨rfl, rfl⟩ := h
    rw [if_pos ⟨rfl, rfl⟩]
    have hn : L.find? (fun x => !outP j k false x && sameP j k x) = none := by
      rw [List.find?_eq_none]
      intro x _
      unfold outP sameP
      by_cases h1 : x.i = j ∧ x.n = k
      · simp [h1.1, h1.2]
      · simp [h1]
    rw [hn]
    simp [sameP]
  · rw [if_neg h]
    have he : (fun x => !outP i n false x && sameP j k x) = sameP j k := by
      funext x
      unfold outP sameP
      by_cases h1 : x.i = j ∧ x.n = k
      · simp [h1.1, h1.2]
        by_cases e : j = i
        · exact .inr fun e2 => h ⟨e, e2⟩
        · exact .inl e
      · simp [h1]
    rw [he]
    have hz : [PE.mk i n g c bs].find? (sameP j k) = none := by
      rw [List.find?_eq_none]
      intro x hx
      rw [List.mem_singleton.1 hx]
      unfold sameP
      simp
      intro e e2
      exact h ⟨e.symm, e2.symm⟩
    rw [hz, Option.or_none]

/-- A row of sizes that a call makes. -/
def ZOwn (w : World) (base : Nat) (v : Value) (xs : List Int) : Prop := w.ownsRow base 3 1 v xs.length (xs.flatMap zCells)
theorem info_int10 : (Try.prog.info? 3).map (fun i => (i.zero, i.size, i.bytes)) = some (some (.int .i64 0), 1, 8) := by kernel_rfl
theorem ZOwn.lt {w : World} {base : Nat} {v : Value} {xs : List Int} (h : ZOwn w base v xs) {g : Nat} (hg : v.ownBlock = some g) : base ≤ g ∧ g < w.heap.size := World.ownsRow.lt h g hg
theorem z_ones (xs : List Int) : ∀ u, u ∈ xs.flatMap zCells → u.oneCell' = true := by
  intro u hu
  obtain ⟨y, _, hy⟩ := List.mem_flatMap.1 hu
  simp [zCells] at hy
  rw [hy]; rfl
/-- 'append([]int{}, l...)': a row of its own. -/
theorem wpList_zcopy {ops : Array Oper} {rest : List Oper} {o : Oper} {a : Act} {Q : Exit → Act → World → Prop} (w : World) (hgd : o.guard = none) (s x : Operand)
    (ho : o.op = .call { callee := .builtin .append, args := #[s, x], argTypes := #[28, 28] }) (v : Value) (xs : List Int) (H : Nat) (hH : w.heap.size = H) (hs : a.eval s = .slice (some ⟨H, 0, none⟩) 0 0) (hx : a.eval x = v)
    (h : RowOf zCells 1 (w.alloc (.cells #[] 3)) v xs) (hl : xs.length ≤ 1000000)
    (hK : ∀ g cap w', ZOwn w' H (.slice (some ⟨g, 0, none⟩) xs.length cap) xs → w.grownBy w' none → wpList Try.prog ops Q rest (a.put o.dst (.slice (some ⟨g, 0, none⟩) xs.length cap)) w') :
    wpList Try.prog ops Q (o :: rest) a (w.alloc (.cells #[] 3)) := by
  obtain ⟨i0, hi, hz0, hz1, hz2⟩ := info_parts info_int10
  subst hH
  have hown : (w.alloc (.cells #[] 3)).ownsRow w.heap.size 3 1 (.slice (some ⟨w.heap.size, 0, none⟩) 0 0) 0 [] :=
    ⟨by simp, .inr ⟨w.heap.size, 0, #[], rfl, Nat.le_refl _, heap_alloc_new w _, Nat.le_refl _, Nat.zero_le _, by simp, by simp⟩⟩
  have ga := World.grownBy_alloc w (.cells #[] 3) none
  rcases h.2 with ⟨rfl, h0⟩ | ⟨g, of, c, rfl, hg, hc⟩
  · refine wpList_append_own_none hgd s x 28 ho w.heap.size 3 i0 1 Try.underlying28 hi _ 0 [] hs hown hx ?_
    have hx0 := List.length_eq_zero_iff.1 h0
    subst hx0
    exact hK w.heap.size 0 _ hown ga
  · refine wpList_append_own_at _ hgd s x 28 ho w.heap.size 3 i0 (.int .i64 0) 1 8 Try.underlying28 hi hz0 hz1 hz2 rfl (by decide) (.slice (some ⟨w.heap.size, 0, none⟩) 0 0) 0 [] hs hown ⟨g, of, none⟩ xs.length c (xs.flatMap zCells) hx h.1 (fun j u hu => by rw [Addr.add_mid]; exact hc j u hu) (z_ones xs) (by unfold maxLen; omega) (by omega) (by simp) ?_
    intro v' w' hown' hgrow hnil hat
    rw [Nat.zero_add, List.nil_append] at hown'
    have hv : ∃ g' cap, v' = .slice (some ⟨g', 0, none⟩) xs.length cap := by
      rcases hown'.2 with ⟨h1, _⟩ | ⟨g', cap, cur, h1, _⟩
      · exact absurd (hnil.1 h1).1 (by simp)
      · exact ⟨g', cap, h1⟩
    obtain ⟨g', cap, rfl⟩ := hv
    exact hK g' cap w' hown' (grown_at ga hgrow (Nat.le_refl _))
/-- 'append(l, n)', behind the block in which n is laid. -/
theorem wpList_zpush {ops : Array Oper} {rest : List Oper} {o : Oper} {a : Act} {Q : Exit → Act → World → Prop} (w : World) (hgd : o.guard = none) (s x : Operand)
    (ho : o.op = .call { callee := .builtin .append, args := #[s, x], argTypes := #[28, 28] }) (base : Nat) (v : Value) (xs : List Int) (y : Int) (hs : a.eval s = v) (h : ZOwn w base v xs) (H c : Nat)
    (hx : a.eval x = .slice (some ⟨H, 0, none⟩) 1 c) (hH : w.heap.size = H) (hl : xs.length ≤ 1000000) (hbase : base ≤ H)
    (hK : ∀ g cap w', ZOwn w' base (.slice (some ⟨g, 0, none⟩) (xs.length + 1) cap) (xs ++ [y]) → (w.alloc (.cells #[.int .i64 y] 3)).grownBy w' v.ownBlock → wpList Try.prog ops Q rest (a.put o.dst (.slice (some ⟨g, 0, none⟩) (xs.length + 1) cap)) w') :
    wpList Try.prog ops Q (o :: rest) a (w.alloc (.cells #[.int .i64 y] 3)) := by
  obtain ⟨i0, hi, hz0, hz1, hz2⟩ := info_parts info_int10
  subst hH
  refine wpList_append_lies _ hgd s x 28 ho base 3 i0 (.int .i64 0) 1 8 Try.underlying28 hi hz0 hz1 hz2 rfl (by decide) v xs.length (xs.flatMap zCells) hs (World.ownsRow.alloc h _) ⟨w.heap.size, 0, none⟩ 1 c (zCells y) hx rfl ?_ ?_ (by omega) (by unfold maxLen; omega) (by omega) (by simp; omega) (w.heap.size + 1) (by simp) ?_
  · exact World.news_of_block (heap_alloc_new w _)
  · intro u hu; simp [zCells] at hu; rw [hu]; rfl
  · intro g cap w' hown hgrow hat hlt
    refine hK g cap w' ?_ hgrow
    unfold ZOwn
    simp only [List.length_append, List.length_cons, List.length_nil, List.flatMap_append, List.flatMap_cons, List.flatMap_nil, List.append_nil]
    exact hown

/-- What a call leaves of the document's files. -/
def LeftI (w w' : World) (q : Nat) (s' : IS) (B : List Nat) (k : Nat) : Prop := ∃ vz vl L, RI w' q s' vz vl L ∧ L.length ≤ k ∧ Turn [q] w w' ∧ ∀ b, b ∈ blocksI q vz vl L → b ∈ B ∨ w.heap.size ≤ b
section
variable {w w' w9 : World} {q : Nat} {s s' : IS} {vz vl : Value} {L : List PE}
theorem RI.same (h : RI w q s vz vl L) : LeftI w w q s (blocksI q vz vl L) L.length := ⟨vz, vl, L, h, Nat.le_refl _, Turn.refl _ _, fun b hb => .inl hb⟩
/-- The sizes are another row. -/
theorem RI.resize (h : RI w q s vz vl L) (g : w.grownBy w9 none) {vz' : Value} {Z' : List Int} (hr : RowOf zCells 1 w9 vz' Z') (hv : ∀ b, vz'.ownBlock = some b → w.heap.size ≤ b) :
    RI (w9.setCell ⟨q, 0, none⟩ vz') q ⟨Z', s.P, s.left⟩ vz' vl L ∧ Turn [q] w (w9.setCell ⟨q, 0, none⟩ vz') ∧ ∀ b, b ∈ blocksI q vz' vl L → b ∈ blocksI q vz vl L ∨ w.heap.size ≤ b := by
  have h9 := h.grow g
  have hq := h.qlt
  have ho : ∀ b, b ≠ q → (w9.setCell ⟨q, 0, none⟩ vz').heap[b]? = w9.heap[b]? := fun b hb => heap_setCell_other w9 ⟨q, 0, none⟩ b _ (by first | exact hb | exact hb.symm)
  have hs : w9.heap.size ≤ (w9.setCell ⟨q, 0, none⟩ vz').heap.size := by simp
  refine ⟨⟨heap_setCell_same w9 q 0 _ _ vz' h9.head, hr.kept hs fun a l c e => ho _ fun e2 => ?_, h9.list.kept hs fun a l c e => ho _ fun e2 => h.nl ?_, fun x hx => ⟨(h9.pages x hx).1.kept (ho _ (h.ng x hx)), (h.pages x hx).2⟩, h.says, fun e => ?_, h.nl, h.ng⟩, (Turn.grown g).trans' (Turn.setCell [q] w9 q 0 vz' (by simp)), fun b hb => ?_⟩
  · have := hv a.block (by rw [e]; rfl)
    omega
  · rw [e, ← e2]; rfl
  · have := hv q e
    omega
  · unfold blocksI at hb ⊢
    simp only [List.mem_cons, List.mem_append, Option.mem_toList] at hb ⊢
    rcases hb with hb | hb | hb
    · exact .inl (.inl hb)
    · exact .inr (hv b hb)
    · exact .inl (.inr (.inr hb))
/-- The pages are another row. -/
theorem RI.repage (h : RI w q s vz vl L) (g : w.grownBy w9 none) {vl' : Value} {L' : List PE} {P' : Int → Int → List UInt8} (hr : RowOf peCells 3 w9 vl' L') (hv : ∀ b, vl'.ownBlock = some b → w.heap.size ≤ b) (hp : ∀ x, x ∈ L' → Bs w9 x.g x.bs ∧ x.bs.length = 4096 ∧ (x ∈ L ∨ w.heap.size ≤ x.g)) (hsay : ∀ i n, P' i n = pageOf L' i n) :
    RI (w9.setCell ⟨q, 1, none⟩ vl') q ⟨s.Z, P', s.left⟩ vz vl' L' ∧ Turn [q] w (w9.setCell ⟨q, 1, none⟩ vl') ∧ ∀ b, b ∈ blocksI q vz vl' L' → b ∈ blocksI q vz vl L ∨ w.heap.size ≤ b := by
  have h9 := h.grow g
  have hq := h.qlt
  have ho : ∀ b, b ≠ q → (w9.setCell ⟨q, 1, none⟩ vl').heap[b]? = w9.heap[b]? := fun b hb => heap_setCell_other w9 ⟨q, 1, none⟩ b _ (by first | exact hb | exact hb.symm)
  have hs : w9.heap.size ≤ (w9.setCell ⟨q, 1, none⟩ vl').heap.size := by simp
  have hne : ∀ x, x ∈ L' → x.g ≠ q := fun x hx e => by
    rcases (hp x hx).2.2 with h1 | h1
    · exact h.ng x h1 e
    · omega
  refine ⟨⟨heap_setCell_same w9 q 1 _ _ vl' h9.head, h9.sizes.kept hs fun a l c e => ho _ fun e2 => h.nz ?_, hr.kept hs fun a l c e => ho _ fun e2 => ?_, fun x hx => ⟨(hp x hx).1.kept (ho _ (hne x hx)), (hp x hx).2.1⟩, hsay, h.nz, fun e => ?_, hne⟩, (Turn.grown g).trans' (Turn.setCell [q] w9 q 1 vl' (by simp)), fun b hb => ?_⟩
  · rw [e, ← e2]; rfl
  · have := hv a.block (by rw [e]; rfl)
    omega
  · have := hv q e
    omega
  · unfold blocksI at hb ⊢
    simp only [List.mem_cons, List.mem_append, Option.mem_toList, List.mem_map] at hb ⊢
    rcases hb with hb | hb | hb | ⟨x, hx, rfl⟩
    · exact .inl (.inl hb)
    · exact .inl (.inr (.inl hb))
    · exact .inr (hv b hb)
    · rcases (hp x hx).2.2 with h1 | h1
      · exact .inl (.inr (.inr (.inr ⟨x, h1, rfl⟩)))
      · exact .inr h1

set_option maxHeartbeats 1000000 in
theorem ri_make (h : RI w q s vz vl L) (hk : s.Ok) (n : Int) :
    Calls Try.prog 13 #[.pointer (some ⟨q, 0, none⟩), .int .i64 n] w fun e w' => e = .returned (.tuple #[.int .i64 (makeI s n).1, .int .i64 (makeI s n).2.1]) ∧ LeftI w w' q (makeI s n).2.2 (blocksI q vz vl L) L.length := by
  obtain ⟨l0, l1, l2⟩ := h.at
  obtain ⟨a, c, a2, c2, e1, e2⟩ := h.form
  have hlen := hk.len
  have HH := Lib.hid h
  by_cases hn : 0 ≤ n ∧ n ≤ 4096
  · have d0 : decide (n < 0) = false := decide_eq_false (by omega)
    have d1 : decide (n > 4096) = false := decide_eq_false (by omega)
    by_cases hz : 16 ≤ s.Z.length
    · rw [show makeI s n = (0, 5, s) by unfold makeI; rw [if_pos hn, if_pos hz]]
      have d2 : decide ((s.Z.length : Int) ≥ 16) = true := decide_eq_true (by omega)
      have HS := Lib.hid h.same
      obtain ⟨B, hB⟩ : ∃ B, blocksI q vz vl L = B := ⟨_, rfl⟩
      rw [hB] at HS ⊢
      subst e1
      clear h hk hn hz hB
      go_enter Try.func13, Try.ntmps13
      go_wp2_with fail
      go_ret2
      exact ⟨rfl, HS.out⟩
    · rw [show makeI s n = ((s.Z.length : Int) + 1, 0, ⟨s.Z ++ [n], s.P, s.left⟩) by unfold makeI; rw [if_pos hn, if_neg hz]]
      have d2 : decide ((s.Z.length : Int) ≥ 16) = false := decide_eq_false (by omega)
      have ga := World.grownBy_alloc w (.cells #[] 3) none
      have HA := Lib.hid (h.grow ga)
      have k0 : (w.alloc (.cells #[] 3)).cell? ⟨q, 0, none⟩ = some vz := Lib.cell?_alloc_some _ l0
      have HQ := Lib.hid h.qlt
      have hf := h.frozen 0
      obtain ⟨B, hB⟩ : ∃ B, blocksI q vz vl L = B := ⟨_, rfl⟩
      have HBl := Lib.hid hB
      rw [hB]
      subst e1
      clear h hk hn hz hB ga
      go_enter Try.func13, Try.ntmps13
      go_wp2_with (at_builtin; first
        | (refine wpList_zcopy w rfl _ _ rfl _ s.Z w.heap.size rfl rfl rfl HA.out.sizes (by omega) ?_; intro g8 c8 w8 hown8 hg8; have HO8 := Lib.hid hown8; have HG8 := Lib.hid hg8; clear hown8 hg8)
        | (refine wpList_zpush w8 rfl _ _ rfl w.heap.size (.slice (some ⟨g8, 0, none⟩) s.Z.length c8) s.Z n rfl HO8.out w8.heap.size _ rfl rfl (by omega) (by have := HG8.out.size; omega) ?_; intro g10 c10 w10 hown10 hg10; have g010 := grown_at (grown_trans HG8.out (World.grownBy_alloc w8 (.cells #[.int .i64 n] 3) none)) (x := g8) hg10 (HO8.out.lt (g := g8) rfl).1; have h10 := HH.out.grow g010; have k10 := h10.at.1; have f10 := h10.frozen 0; have HO10 := Lib.hid hown10; have HG10 := Lib.hid g010; clear hown10 hg10 g010 h10))
      go_ret2
      obtain ⟨r1, r2, r3⟩ := HH.out.resize HG10.out (vz' := .slice (some ⟨g10, 0, none⟩) (s.Z.length + 1) c10) (Z' := s.Z ++ [n]) (show RowOf zCells 1 w10 _ (s.Z ++ [n]) from by
        have := RowAt.own HO10.out
        unfold RowOf
        rwa [List.length_append] at this ⊢) (fun b hb => by
        have e : g10 = b := by simpa [Value.ownBlock] using hb
        have := (HO10.out.lt (g := g10) rfl).1
        omega)
      exact ⟨rfl, _, vl, L, r1, Nat.le_refl _, r2, fun b hb => by rw [← HBl.out]; exact r3 b hb⟩
  · rw [show makeI s n = (0, 2, s) by unfold makeI; rw [if_neg hn]]
    have HS := Lib.hid h.same
    obtain ⟨B, hB⟩ : ∃ B, blocksI q vz vl L = B := ⟨_, rfl⟩
    rw [hB] at HS ⊢
    subst e1
    rcases (show n < 0 ∨ (¬ n < 0 ∧ n > 4096) by omega) with d0 | ⟨d0, d1⟩
    all_goals
      clear h hk hn hB
      go_enter Try.func13, Try.ntmps13
      go_wp2_with fail
      go_ret2
      exact ⟨rfl, HS.out⟩
end
end Go.Proofs.Ytlaniifbfgcfaaa
