/- The document's files of layer 10: what they are; Size, fails, Plan. -/
import Derived.Test.YtlaniifbfgcfaaaIAct
import Derived.Deep.AppendLies
namespace Go.Proofs.Ytlaniifbfgcfaaa
open Go.ChangeShapes Go.WideShapes Go.ChangeAt Go.RowKit Go.Deep
open Extern.Stop (cell)
set_option linter.unusedVariables false

/-- A page that was written: its file, its place, its block. -/
structure PE where
  i : Int
  n : Int
  g : Nat
  c : Nat
  bs : List UInt8
def peCells (x : PE) : List Value := [.int .i64 x.i, .int .i64 x.n, .slice (some ⟨x.g, 0, none⟩) 4096 x.c]
theorem pe_len (x : PE) : (peCells x).length = 3 := rfl
def zCells (z : Int) : List Value := [.int .i64 z]
theorem z_len (z : Int) : (zCells z).length = 1 := rfl
def sameP (i n : Int) (x : PE) : Bool := decide (x.i = i ∧ x.n = n)
/-- What the pages say of one. -/
def pageOf (L : List PE) (i n : Int) : List UInt8 := match L.find? (sameP i n) with | some x => x.bs | none => pageZ
theorem pageOf_some {L : List PE} {i n : Int} {x : PE} (h : L.find? (sameP i n) = some x) : pageOf L i n = x.bs := by unfold pageOf; rw [h]
theorem pageOf_none {L : List PE} {i n : Int} (h : L.find? (sameP i n) = none) : pageOf L i n = pageZ := by unfold pageOf; rw [h]

/-- The document's files: block q, the sizes' row vz, the pages' row vl. -/
structure RI (w : World) (q : Nat) (s : IS) (vz vl : Value) (L : List PE) : Prop where
  head : w.heap[q]? = some (.cells #[vz, vl, .int .i64 s.left] 31 (0, 0))
  sizes : RowOf zCells 1 w vz s.Z
  list : RowOf peCells 3 w vl L
  pages : ∀ x, x ∈ L → Bs w x.g x.bs ∧ x.bs.length = 4096
  says : ∀ i n, s.P i n = pageOf L i n
  nz : vz.ownBlock ≠ some q
  nl : vl.ownBlock ≠ some q
  ng : ∀ x, x ∈ L → x.g ≠ q
def blocksI (q : Nat) (vz vl : Value) (L : List PE) : List Nat := q :: (vz.ownBlock.toList ++ (vl.ownBlock.toList ++ L.map PE.g))

section
variable {w w' : World} {q : Nat} {s s' : IS} {vz vl : Value} {L : List PE}
theorem rowOf_lt {α : Type} {cells : α → List Value} {size : Nat} {v : Value} {xs : List α} (h : RowOf cells size w v xs) {b : Nat} (hb : v.ownBlock = some b) : b < w.heap.size := by
  rcases h.2 with ⟨rfl, _⟩ | ⟨g, o, c, rfl, hg, _⟩
  · cases hb
  · have : g = b := by simpa [Value.ownBlock] using hb
    omega
theorem RI.qlt (h : RI w q s vz vl L) : q < w.heap.size := (Array.getElem?_eq_some_iff.1 h.head).1
theorem RI.lt (h : RI w q s vz vl L) : ∀ b, b ∈ blocksI q vz vl L → b < w.heap.size := by
  intro b hb
  unfold blocksI at hb
  simp only [List.mem_cons, List.mem_append, Option.mem_toList, List.mem_map] at hb
  rcases hb with rfl | hb | hb | ⟨x, hx, rfl⟩
  · exact h.qlt
  · exact rowOf_lt h.sizes hb
  · exact rowOf_lt h.list hb
  · exact (h.pages x hx).1.lt
theorem RI.kept (h : RI w q s vz vl L) (hs : w.heap.size ≤ w'.heap.size) (hb : ∀ b, b ∈ blocksI q vz vl L → w'.heap[b]? = w.heap[b]?) : RI w' q s vz vl L := by
  refine ⟨(hb q (by simp [blocksI])).trans h.head, h.sizes.kept hs fun a l c hv => hb a.block (by rw [hv]; simp [blocksI, Value.ownBlock]), h.list.kept hs fun a l c hv => hb a.block (by rw [hv]; simp [blocksI, Value.ownBlock]), fun x hx => ⟨(h.pages x hx).1.kept (hb x.g ?_), (h.pages x hx).2⟩, h.says, h.nz, h.nl, h.ng⟩
  unfold blocksI
  exact List.mem_cons_of_mem _ (List.mem_append_right _ (List.mem_append_right _ (List.mem_map.2 ⟨x, hx, rfl⟩)))
theorem RI.grow (h : RI w q s vz vl L) (k : w.grownBy w' none) : RI w' q s vz vl L := h.kept k.size fun b hb => k.block b (h.lt b hb) (by simp)
theorem RI.turn {O : List Nat} (h : RI w q s vz vl L) (g : Turn O w w') (ho : ∀ b, b ∈ blocksI q vz vl L → b ∉ O) : RI w' q s vz vl L := h.kept g.size fun b hb => g.block b (h.lt b hb) (ho b hb)
theorem RI.at (h : RI w q s vz vl L) : w.cell? ⟨q, 0, none⟩ = some vz ∧ w.cell? ⟨q, 1, none⟩ = some vl ∧ w.cell? ⟨q, 2, none⟩ = some (.int .i64 s.left) :=
  ⟨by rw [cell_of_row _ _ _ _ _ _ h.head]; rfl, by rw [cell_of_row _ _ _ _ _ _ h.head]; rfl, by rw [cell_of_row _ _ _ _ _ _ h.head]; rfl⟩
theorem RI.frozen (h : RI w q s vz vl L) (o : Nat) : w.frozen? ⟨q, o, none⟩ = false := frozen_of_row _ _ _ _ _ h.head
theorem RI.form (h : RI w q s vz vl L) : ∃ a c a2 c2, vz = .slice a s.Z.length c ∧ vl = .slice a2 L.length c2 := by
  obtain ⟨a, c, e1⟩ := h.sizes.form
  obtain ⟨a2, c2, e2⟩ := h.list.form
  exact ⟨a, c, a2, c2, e1, e2⟩
/-- The plan turns, and nothing else. -/
theorem RI.put (h : RI w q s vz vl L) (n : Int) : RI (w.setCell ⟨q, 2, none⟩ (.int .i64 n)) q ⟨s.Z, s.P, n⟩ vz vl L := by
  have ho : ∀ b, b ≠ q → (w.setCell ⟨q, 2, none⟩ (.int .i64 n)).heap[b]? = w.heap[b]? := fun b hb => heap_setCell_other w ⟨q, 2, none⟩ b _ (by first | exact hb | exact hb.symm)
  have hs : w.heap.size ≤ (w.setCell ⟨q, 2, none⟩ (.int .i64 n)).heap.size := by simp
  refine ⟨heap_setCell_same w q 2 _ _ (.int .i64 n) h.head, h.sizes.kept hs fun a l c hv => ho _ fun e => h.nz ?_, h.list.kept hs fun a l c hv => ho _ fun e => h.nl ?_, fun x hx => ⟨(h.pages x hx).1.kept (ho _ (h.ng x hx)), (h.pages x hx).2⟩, h.says, h.nz, h.nl, h.ng⟩
  · rw [hv, ← e]; rfl
  · rw [hv, ← e]; rfl
/-- A file's size in its row. -/
theorem RI.size (h : RI w q s vz vl L) {i : Int} (hi : s.has i) : ∃ g o c, vz = .slice (some ⟨g, o, none⟩) s.Z.length c ∧ w.cell? ⟨g, o + (i - 1).toNat, none⟩ = some (.int .i64 (s.size i)) := by
  obtain ⟨g, o, c, hv, hc⟩ := h.sizes.at z_len (IS.size_get hi)
  refine ⟨g, o, c, hv, ?_⟩
  have := hc 0 _ rfl
  rwa [Nat.mul_one, Nat.add_zero] at this

theorem ri_size (h : RI w q s vz vl L) (hk : s.Ok) (i : Int) (hi : okI i) :
    Calls Try.prog 25 #[.pointer (some ⟨q, 0, none⟩), .int .i64 i] w fun e w' => e = .returned (.tuple #[.int .i64 (sizeI s i).1, .bool (sizeI s i).2]) ∧ w' = w := by
  obtain ⟨c0, c1, c2⟩ := h.at
  have hlen := hk.len
  by_cases hs : s.has i
  · obtain ⟨m, hm⟩ := Int.eq_ofNat_of_zero_le (show 0 ≤ i - 1 by have := hs.1; omega)
    obtain ⟨g, o, c, hv, hc⟩ := h.size hs
    rw [show sizeI s i = (s.size i, true) from if_pos hs]
    obtain ⟨Q, hQ⟩ : ∃ Q, s.size i = Q := ⟨_, rfl⟩
    rw [hQ] at hc ⊢
    rw [show (i - 1).toNat = m by omega] at hc
    obtain rfl : i = m + 1 := by omega
    subst hv
    have hm2 : m < s.Z.length := by have := hs.2; omega
    have d0 : decide ((m : Int) + 1 < 1) = false := decide_eq_false (by omega)
    have d1 : decide ((m : Int) + 1 > (s.Z.length : Int)) = false := decide_eq_false (by omega)
    have d2 : (m : Int) + 1 - 1 = m := by omega
    have d3 : decide (s.Z.length ≤ m) = false := decide_eq_false (by omega)
    clear h hk hs hQ hm hi
    go_enter Try.func25, Try.ntmps25
    go_wp2_with fail
    go_ret2
    exact ⟨rfl, rfl⟩
  · rw [show sizeI s i = (0, false) from if_neg hs]
    obtain ⟨a, c, a2, c2, e1, e2⟩ := h.form
    subst e1 e2
    unfold IS.has at hs
    rcases (show i < 1 ∨ (¬ i < 1 ∧ i > (s.Z.length : Int)) by omega) with h1 | ⟨h1, h2⟩
    · have d0 : decide (i < 1) = true := decide_eq_true h1
      clear h hk hs h1 hi
      go_enter Try.func25, Try.ntmps25
      go_wp2_with fail
      go_ret2
      exact ⟨rfl, rfl⟩
    · have d0 : decide (i < 1) = false := decide_eq_false h1
      have d1 : decide (i > (s.Z.length : Int)) = true := decide_eq_true h2
      clear h hk hs h1 h2 hi
      go_enter Try.func25, Try.ntmps25
      go_wp2_with fail
      go_ret2
      exact ⟨rfl, rfl⟩

theorem ri_fails (h : RI w q s vz vl L) (hk : s.Ok) :
    Calls Try.prog 35 #[.pointer (some ⟨q, 0, none⟩)] w fun e w' => e = .returned (.bool (decide (s.left = 1))) ∧ RI w' q (failI s) vz vl L ∧ w.grownBy w' (some q) := by
  obtain ⟨c0, c1, c2⟩ := h.at
  have f2 := h.frozen 2
  have p0 := hk.left0
  have p1 := hk.left1
  by_cases hz : s.left = 0
  · have H2 := Lib.hid (show RI w q (failI s) vz vl L by
      have e : failI s = s := by unfold failI decI; rw [if_pos hz]; obtain ⟨a, b, c⟩ := s; simp only at hz; rw [hz]
      rw [e]; exact h)
    rw [hz] at c2 ⊢
    clear h hk hz p0 p1
    go_enter Try.func35, Try.ntmps35
    go_wp2_with fail
    go_ret
    exact ⟨rfl, H2.out, grown_refl _ _⟩
  · have hzb : (s.left == 0) = false := by simpa using hz
    have H2 := Lib.hid (show RI (w.setCell ⟨q, 2, none⟩ (.int .i64 (s.left - 1))) q (failI s) vz vl L by
      have e : failI s = ⟨s.Z, s.P, s.left - 1⟩ := by unfold failI decI; rw [if_neg hz]
      rw [e]; exact h.put _)
    have HG := Lib.hid (grown_set w q 2 (.int .i64 (s.left - 1)))
    have hd : (s.left - 1 == 0) = decide (s.left = 1) := by
      by_cases e : s.left = 1
      · rw [e]; rfl
      · rw [decide_eq_false e]; exact beq_eq_false_iff_ne.2 (by omega)
    obtain ⟨d, hd2⟩ : ∃ d, decide (s.left = 1) = d := ⟨_, rfl⟩
    rw [hd2] at hd ⊢
    clear h hk hd2
    go_enter Try.func35, Try.ntmps35
    go_wp2_with fail
    go_ret
    exact ⟨rfl, H2.out, HG.out⟩

theorem ri_plan (h : RI w q s vz vl L) (n : Int) :
    Calls Try.prog 23 #[.pointer (some ⟨q, 0, none⟩), .int .i64 n] w fun e w' => e = .returned (.int .i64 (planI s n).1) ∧ RI w' q (planI s n).2 vz vl L ∧ w.grownBy w' (some q) := by
  obtain ⟨c0, c1, c2⟩ := h.at
  have f2 := h.frozen 2
  by_cases hn : n < 0
  · rw [show planI s n = (2, s) from if_pos hn]
    have HH := Lib.hid h
    have d : decide (n < 0) = true := decide_eq_true hn
    clear h hn
    go_enter Try.func23, Try.ntmps23
    go_wp2_with fail
    go_ret
    exact ⟨rfl, HH.out, grown_refl _ _⟩
  · rw [show planI s n = (0, ⟨s.Z, s.P, n⟩) from if_neg hn]
    have d : decide (n < 0) = false := decide_eq_false hn
    have H2 := Lib.hid (h.put n)
    have HG := Lib.hid (grown_set w q 2 (.int .i64 n))
    clear h hn
    go_enter Try.func23, Try.ntmps23
    go_wp2_with fail
    go_ret
    exact ⟨rfl, H2.out, HG.out⟩
end
end Go.Proofs.Ytlaniifbfgcfaaa
