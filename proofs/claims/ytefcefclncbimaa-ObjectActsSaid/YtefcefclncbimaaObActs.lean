/- ObjectActs: the two pools, the law's own blocks beside them, and what a range over the pages keeps. -/
import Derived.Test.YtefcefclncbimaaObAct
import Derived.Test.YtefcefclncbimaaZInts
import Derived.Laws.StructEq
namespace Go.Proofs.Ytefcefclncbimaa
open Go.ChangeShapes Go.WideShapes Go.ChangeAt Go.RowKit Go.Deep
set_option linter.unusedVariables false
attribute [local go_sem] Oper.semAt_some

def rB (b : Bool) : Obj := .cells #[.bool b] 4
abbrev iI (x : Int) : Obj := .cells #[.int .i64 x] 3
def askO (a0 a1 a2 : Int) : Obj := .cells #[.int .i64 a0, .int .i64 a1, .int .i64 a2] 23
abbrev pgO (t : TypeId) (x : PgV) : Obj := .cells #[.int .i64 x.fr, .int .i64 x.sl, .bool x.d] t (0, 0)
/-- The law's own blocks: what is asked, the answer. -/
def aB (y : Nat) (a0 a1 a2 : Int) : List (Nat × Obj) := [(y + 1, rB false), (y, askO a0 a1 a2)]
section
variable {w wx : World} {B : List (Nat × Obj)} {y k : Nat} {a0 a1 a2 : Int} {A : OActV} {t : TypeId} {x : PgV} {v : Value} {n : Int}
theorem ask_at (h : FixB w wx B) (hm : (y, askO a0 a1 a2) ∈ B) : wx.cell? ⟨y, 0, none⟩ = some (.int .i64 a0) ∧ wx.cell? ⟨y, 1, none⟩ = some (.int .i64 a1) ∧ wx.cell? ⟨y, 2, none⟩ = some (.int .i64 a2) := by
  have h1 := h.at hm
  unfold askO at h1
  exact ⟨by rw [cell_of_row _ _ _ _ _ _ h1]; rfl, by rw [cell_of_row _ _ _ _ _ _ h1]; rfl, by rw [cell_of_row _ _ _ _ _ _ h1]; rfl⟩
theorem res_at (h : FixB w wx B) (hm : (y + 1, rB false) ∈ B) : wx.heap[y + 1]? = some (.cells #[.bool false] 4) ∧ wx.cell? ⟨y + 1, 0, none⟩ = some (.bool false) ∧ wx.frozen? ⟨y + 1, 0, none⟩ = false := by
  have h1 := h.at hm
  unfold rB at h1
  exact ⟨h1, by rw [cell_of_row _ _ _ _ _ _ h1]; rfl, frozen_of_row wx (y + 1) 0 _ _ h1⟩
theorem pg_at (h : wx.heap[k]? = some (pgO t x)) : wx.cell? ⟨k, 0, none⟩ = some (.int .i64 x.fr) ∧ wx.cell? ⟨k, 1, none⟩ = some (.int .i64 x.sl) ∧ wx.cell? ⟨k, 2, none⟩ = some (.bool x.d) := by
  unfold pgO at h
  exact ⟨by rw [cell_of_row _ _ _ _ _ _ h]; rfl, by rw [cell_of_row _ _ _ _ _ _ h]; rfl, by rw [cell_of_row _ _ _ _ _ _ h]; rfl⟩
theorem num_at (h : wx.heap[k]? = some (iI n)) : wx.cell? ⟨k, 0, none⟩ = some (.int .i64 n) ∧ wx.frozen? ⟨k, 0, none⟩ = false := by
  unfold iI at h
  exact ⟨by rw [cell_of_row _ _ _ _ _ _ h]; rfl, frozen_of_row wx k 0 _ _ h⟩
theorem one_at (h : wx.heap[k]? = some (.cells #[v] t)) : wx.cell? ⟨k, 0, none⟩ = some v := by rw [cell_of_row _ _ _ _ _ _ h]; rfl
end
/-- Pages of one type against another's. -/
theorem neq_pg (w : World) (a b : Int) (d : Bool) (a2 b2 : Int) (d2 : Bool) : (binOp .neq 42 (.agg #[.int .i64 a, .int .i64 b, .bool d]) (.agg #[.int .i64 a2, .int .i64 b2, .bool d2])).run Try.prog w = .ok (.bool (!(decide (a = a2 ∧ b = b2 ∧ d = d2)))) w := by
  go_simp
  by_cases h1 : a = a2 <;> by_cases h2 : b = b2 <;> by_cases h3 : d = d2 <;> simp [h1, h2, h3]
theorem eql_po (w : World) (a : Addr) : (binOp .eql 24 (.pointer (some a)) (.pointer none)).run Try.prog w = .ok (.bool false) w := by go_simp
theorem eql_po0 (w : World) : (binOp .eql 24 (.pointer none) (.pointer none)).run Try.prog w = .ok (.bool true) w := by go_simp
theorem eql_ro (w : World) (a : Addr) : (binOp .eql 26 (.pointer (some a)) (.pointer none)).run Try.prog w = .ok (.bool false) w := by go_simp
theorem eql_ro0 (w : World) : (binOp .eql 26 (.pointer none) (.pointer none)).run Try.prog w = .ok (.bool true) w := by go_simp
theorem next_pg {zs pre : PgL} {y : Int × PgV} (hp : pre <+: zs) (hy : zs[pre.length]? = some y) (x : Int × PgV) : pre ++ [x] <+: zs ↔ y = x := by
  obtain ⟨t, rfl⟩ := hp
  rw [List.getElem?_append_right (Nat.le_refl _), Nat.sub_self] at hy
  cases t with
  | nil => cases hy
  | cons z t =>
    obtain rfl : z = y := by simpa using hy
    constructor
    · rintro ⟨t2, h2⟩
      rw [List.append_assoc] at h2
      have h3 := List.append_cancel_left h2
      simp at h3
      exact h3.1.symm
    · rintro rfl
      exact ⟨t, by simp⟩

/-- Two pools of the same objects, and the law's blocks beside them. -/
structure AXO (D : World → Nat → Nat → ObL → List Nat → Prop) (w wx : World) (p q m : Nat) (L M : ObL) (O P : List Nat) (B : List (Nat × Obj)) : Prop where
  two : TwoO D DRO w wx p m L O q m M P
  f : FixB w wx B
  ap : ∀ b, b ∈ B → b.1 ∉ O ∧ b.1 ∉ P
section
variable {D : World → Nat → Nat → ObL → List Nat → Prop} {w w0 w1 wx w2 : World} {p q m : Nat} {L M L' M' : ObL} {O P : List Nat} {B B' : List (Nat × Obj)}
theorem AXO.make (H : StOkO D) (f : FixB w w0 B) (g1 : w0.grownBy w1 none) (h1 : D w1 p m [] O) (o1 : ∀ b, b ∈ O → w0.heap.size ≤ b) (g2 : w1.grownBy w2 none) (h2 : DRO w2 q m [] P) (o2 : ∀ b, b ∈ P → w1.heap.size ≤ b) : AXO D w w2 p q m [] [] O P B :=
  ⟨TwoO.make H droOk (LO.new h1 f.grown g1 o1) g2 h2 o2, f.grow (grown_trans g1 g2), fun b hb => ⟨fun hm => by have := o1 _ hm; have := f.lt hb; omega, fun hm => by have := o2 _ hm; have := g1.size; have := f.lt hb; omega⟩⟩
theorem AXO.grow (H : StOkO D) (h : AXO D w wx p q m L M O P B) (g : wx.grownBy w2 none) : AXO D w w2 p q m L M O P B := ⟨h.two.grow H droOk g, h.f.grow g, h.ap⟩
theorem AXO.first (h : AXO D w wx p q m L M O P B) (t : ALo D wx w2 p m O L') : ∃ O', AXO D w w2 p q m L' M O' P B := by
  obtain ⟨O', h2, t2, o2⟩ := h.two.first droOk t
  refine ⟨O', h2, ⟨h2.one.grown, fun b hb => (t2.block _ (h.f.lt hb) (h.ap b hb).1).trans (h.f.fix b hb), h.f.own⟩, fun b hb => ⟨fun hm => ?_, (h.ap b hb).2⟩⟩
  rcases o2 _ hm with h3 | h3
  · exact (h.ap b hb).1 h3
  · have := h.f.lt hb; omega
theorem AXO.second (H : StOkO D) (h : AXO D w wx p q m L M O P B) (t : ALo DRO wx w2 q m P M') : ∃ P', AXO D w w2 p q m L M' O P' B := by
  obtain ⟨P', h2, t2, o2⟩ := h.two.second H t
  refine ⟨P', h2, ⟨h2.one.grown, fun b hb => (t2.block _ (h.f.lt hb) (h.ap b hb).2).trans (h.f.fix b hb), h.f.own⟩, fun b hb => ⟨(h.ap b hb).1, fun hm => ?_⟩⟩
  rcases o2 _ hm with h3 | h3
  · exact (h.ap b hb).2 h3
  · have := h.f.lt hb; omega
theorem AXO.box (H : StOkO D) (h : AXO D w wx p q m L M O P B) {o : Obj} {k : Nat} (hk : wx.heap.size = k) : AXO D w (wx.alloc o) p q m L M O P ((k, o) :: B) := by
  subst hk
  have g := World.grownBy_alloc wx o none
  refine ⟨h.two.grow H droOk g, h.f.new g (heap_alloc_new wx o) (Nat.le_refl _), fun b hb => ?_⟩
  rcases List.mem_cons.1 hb with rfl | hb
  · exact ⟨fun hm => by have := H.lt h.two.one.d _ hm; simp at this, fun hm => by have := droOk.lt h.two.two.d _ hm; simp at this⟩
  · exact h.ap b hb
theorem AXO.sub (h : AXO D w wx p q m L M O P B) (hs : ∀ b, b ∈ B' → b ∈ B) : AXO D w wx p q m L M O P B' := ⟨h.two, h.f.sub hs, fun b hb => h.ap b (hs b hb)⟩
theorem AXO.turn (H : StOkO D) (h : AXO D w wx p q m L M O P B) {base : Nat} {row : Option Nat} (hO : ∀ b, b ∈ O → b < base) (hP : ∀ b, b ∈ P → b < base) (hB : ∀ b, b ∈ B → b.1 < base) (hw : w.heap.size ≤ base) (g : wx.grownBy w2 row) (hr : ∀ r, row = some r → base ≤ r) : AXO D w w2 p q m L M O P B := by
  have hne : ∀ k, k < base → some k ≠ row := fun k hk e => by have := hr _ e.symm; omega
  have hg := grown_own h.f.grown g fun x e => Nat.le_trans hw (hr x e)
  exact ⟨⟨⟨H.kept h.two.one.d g.size fun b hb => g.block _ (H.lt h.two.one.d b hb) (hne _ (hO b hb)), h.two.one.own, hg⟩, ⟨droOk.kept h.two.two.d g.size fun b hb => g.block _ (droOk.lt h.two.two.d b hb) (hne _ (hP b hb)), h.two.two.own, hg⟩, h.two.ap⟩, h.f.ofOwn hB hw g hr, h.ap⟩
/-- A number of the law's own is written. -/
theorem AXO.set (H : StOkO D) (h : AXO D w wx p q m L M O P B) {k : Nat} (v : Value) (hO : k ∉ O) (hP : k ∉ P) (hB : ∀ b, b ∈ B → b.1 ≠ k) (hw : w.heap.size ≤ k) : AXO D w (wx.setCell ⟨k, 0, none⟩ v) p q m L M O P B := by
  have gs := grown_set wx k 0 v
  have hne : ∀ i, i ≠ k → (wx.setCell ⟨k, 0, none⟩ v).heap[i]? = wx.heap[i]? := fun i hi => heap_setCell_other _ _ i _ (show i ≠ k from hi)
  have hg := grown_at h.f.grown gs hw
  exact ⟨⟨⟨H.kept h.two.one.d gs.size fun b hb => hne b fun e => hO (by rw [← e]; exact hb), h.two.one.own, hg⟩, ⟨droOk.kept h.two.two.d gs.size fun b hb => hne b fun e => hP (by rw [← e]; exact hb), h.two.two.own, hg⟩, h.two.ap⟩, ⟨hg, fun b hb => (hne _ (hB b hb)).trans (h.f.fix b hb), h.f.own⟩, h.ap⟩
end
/-- What lies while the pages are ranged over: the pools, the law's blocks, the number of the pages so far, the document's pages. -/
structure AKW (D : World → Nat → Nat → ObL → List Nat → Prop) (w W : World) (p q m : Nat) (L : ObL) (O P : List Nat) (B : List (Nat × Obj)) (K : Nat) (n : Int) (u : Value) (zs : PgL) : Prop where
  x : AXO D w W p q m L L O P B
  k : W.heap[K]? = some (iI n)
  r : RowOf atCells 4 W u zs
  kw : w.heap.size ≤ K
  ko : K ∉ O
  kp : K ∉ P
  kb : ∀ b, b ∈ B → b.1 ≠ K
  ku : u.ownBlock ≠ some K
section
variable {D : World → Nat → Nat → ObL → List Nat → Prop} {w W W2 : World} {p q m : Nat} {L : ObL} {O P : List Nat} {B : List (Nat × Obj)} {K : Nat} {n : Int} {u : Value} {zs : PgL}
theorem AKW.grow (H : StOkO D) (h : AKW D w W p q m L O P B K n u zs) (g : W.grownBy W2 none) : AKW D w W2 p q m L O P B K n u zs :=
  ⟨h.x.grow H g, (g.block _ (Array.getElem?_eq_some_iff.1 h.k).1 (by simp)).trans h.k, rowOf_grow h.r g, h.kw, h.ko, h.kp, h.kb, h.ku⟩
theorem AKW.turn (H : StOkO D) (h : AKW D w W p q m L O P B K n u zs) {base : Nat} {row : Option Nat} (hO : ∀ b, b ∈ O → b < base) (hP : ∀ b, b ∈ P → b < base) (hB : ∀ b, b ∈ B → b.1 < base) (hK : K < base) (hu : ∀ b, u.ownBlock = some b → b < base) (g : W.grownBy W2 row) (hr : ∀ r, row = some r → base ≤ r) : AKW D w W2 p q m L O P B K n u zs := by
  have hne : ∀ k, k < base → some k ≠ row := fun k hk e => by have := hr _ e.symm; omega
  exact ⟨h.x.turn H hO hP hB (by have := h.kw; omega) g hr, (g.block _ (Array.getElem?_eq_some_iff.1 h.k).1 (hne _ hK)).trans h.k, row_keptB h.r fun b hb => g.block _ (row_lt h.r hb) (hne _ (hu b hb)), h.kw, h.ko, h.kp, h.kb, h.ku⟩
theorem AKW.set (H : StOkO D) (h : AKW D w W p q m L O P B K n u zs) (n2 : Int) : AKW D w (W.setCell ⟨K, 0, none⟩ (.int .i64 n2)) p q m L O P B K n2 u zs := by
  have h1 := h.k
  unfold iI at h1
  refine ⟨h.x.set H _ h.ko h.kp h.kb h.kw, heap_setCell_same W K 0 _ _ _ h1, row_keptB h.r fun b hb => heap_setCell_other _ _ b _ (show b ≠ K from fun e => h.ku (by rw [← e]; exact hb)), h.kw, h.ko, h.kp, h.kb, h.ku⟩
end
theorem grown_drewN (w : World) (k : Nat) (r : Option Nat) : w.grownBy (w.drewN k) r := ⟨rfl, rfl, rfl, Nat.le_refl _, fun _ _ _ => rfl⟩
theorem rd_fileG {w : World} {q m : Nat} {L : ObL} {O : List Nat} (h : DRO w q m L O) (id : Int) (hid : okI id) : Calls Try.prog 24 #[.pointer (some ⟨q, 0, none⟩), .int .i64 id] w fun e w' => e = .returned (.int .i64 (fileO L id)) ∧ w.grownBy w' none :=
  (rd_file h id hid).mono fun e w' ⟨he, hw⟩ => ⟨he, by rw [hw]; exact grown_refl _ _⟩
theorem kd14 {w wx : World} {B : List (Nat × Obj)} {X1 X2 Y : Nat} {x : PgV} {t1 t2 : TypeId} {A : OActV} (h : FixB w wx ((X2, pgO t2 x) :: (X1, pgO t1 x) :: (Y, oactObj A) :: B)) :
    wx.cell? ⟨Y, 1, none⟩ = some (.int .i64 A.id) ∧ wx.cell? ⟨Y, 2, none⟩ = some (.int .i64 A.a) ∧ wx.cell? ⟨X1, 0, none⟩ = some (.int .i64 x.fr) ∧ wx.cell? ⟨X1, 1, none⟩ = some (.int .i64 x.sl) ∧ wx.cell? ⟨X1, 2, none⟩ = some (.bool x.d) ∧ wx.cell? ⟨X2, 0, none⟩ = some (.int .i64 x.fr) ∧ wx.cell? ⟨X2, 1, none⟩ = some (.int .i64 x.sl) ∧ wx.cell? ⟨X2, 2, none⟩ = some (.bool x.d) := by
  obtain ⟨-, a1, a2, -, -, -⟩ := oact_at (h.at (k := Y) (o := oactObj A) (by simp))
  obtain ⟨b0, b1, b2⟩ := pg_at (h.at (k := X1) (o := pgO t1 x) (by simp))
  obtain ⟨c0, c1, c2⟩ := pg_at (h.at (k := X2) (o := pgO t2 x) (by simp))
  exact ⟨a1, a2, b0, b1, b2, c0, c1, c2⟩
/-- A deferred mark that a range leaves. -/
theorem AXO.defer {D : World → Nat → Nat → ObL → List Nat → Prop} {w wx : World} {p q m : Nat} {L M : ObL} {O P : List Nat} {B : List (Nat × Obj)} (h : AXO D w wx p q m L M O P B) {E : Nat} (hk : wx.heap[E]? = some (.deferred (some []))) (hO : E ∉ O) (hP : E ∉ P) (hw : w.heap.size ≤ E) : AXO D w wx p q m L M O P (dfO E :: B) :=
  ⟨h.two, ⟨h.f.grown, fun b hb => by
    rcases List.mem_cons.1 hb with rfl | hb
    · exact hk
    · exact h.f.fix b hb, fun b hb => by
    rcases List.mem_cons.1 hb with rfl | hb
    · exact hw
    · exact h.f.own b hb⟩, fun b hb => by
    rcases List.mem_cons.1 hb with rfl | hb
    · exact ⟨hO, hP⟩
    · exact h.ap b hb⟩
theorem pages_len {m : Nat} {L : ObL} (hg : GoodOs m L) (id lo hi : Int) : (pagesO L id lo hi).length ≤ 4096 := by
  unfold pagesO
  cases h : ofO L id with
  | none => exact Nat.zero_le _
  | some x => exact Nat.le_trans cut_len2 (ofO_good hg h).ps.len
theorem kpG_set2 {G : List Nat} {W : World} {k : Nat} {v : Value} (h : k ∉ G) : KpG G W (W.setCell ⟨k, 0, none⟩ v) := fun i hi => heap_setCell_other _ _ i _ (show i ≠ k from fun e => h (by rw [← e]; exact hi))
end Go.Proofs.Ytefcefclncbimaa
