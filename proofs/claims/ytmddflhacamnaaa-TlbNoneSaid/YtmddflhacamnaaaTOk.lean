/- What package tlb must be shown to say of its tables (T: a table by what it keeps, from the eldest on, and its blocks); the example of the chapter. -/
import Derived.Test.YtmddflhacamnaaaTRef4
namespace Go.Proofs.Ytmddflhacamnaaa
open Go.ChangeShapes Go.WideShapes Go.ChangeAt Go.RowKit
set_option linter.unusedVariables false

def keyCells (x : KeptV) : List Value := [.int .i64 x.a, .int .i64 x.v]
theorem key_len (x : KeptV) : (keyCells x).length = 2 := rfl
def ptrV (p : Nat) : Value := .pointer (some ⟨p, 0, none⟩)
def keyV (a v : Int) : Value := .agg #[.int .i64 a, .int .i64 v]
def okKey (x : KeptV) : Prop := okI x.a ∧ okI x.v

/-- A table behind a call. -/
def TLeft (T : World → Nat → Int → List KeptV → List Nat → Prop) (w w' : World) (p : Nat) (sz : Int) (O : List Nat) (zs : List KeptV) : Prop := ∃ O', T w' p sz zs O' ∧ Turn O w w' ∧ ∀ b, b ∈ O' → b ∈ O ∨ w.heap.size ≤ b

structure TlbOk (T : World → Nat → Int → List KeptV → List Nat → Prop) : Prop where
  lt : ∀ {w p sz xs O}, T w p sz xs O → ∀ b, b ∈ O → b < w.heap.size
  kept : ∀ {w w' p sz xs O}, T w p sz xs O → w.heap.size ≤ w'.heap.size → (∀ b, b ∈ O → w'.heap[b]? = w.heap[b]?) → T w' p sz xs O
  size : ∀ {w p sz xs O}, T w p sz xs O → (xs.length : Int) ≤ sz ∧ 0 ≤ sz ∧ sz ≤ 1024
  new : ∀ (w : World) (sz : Int), 0 ≤ sz → sz ≤ 1024 → Calls Try.prog 8 #[.int .i64 sz] w fun e w' => ∃ p O, e = .returned (.pointer (some ⟨p, 0, none⟩)) ∧ T w' p sz [] O ∧ w.grownBy w' none ∧ ∀ b, b ∈ O → w.heap.size ≤ b
  newNo : ∀ (w : World) (sz : Int), ¬ (0 ≤ sz ∧ sz ≤ 1024) → Calls Try.prog 8 #[.int .i64 sz] w fun e w' => e = .returned (.pointer none) ∧ w.grownBy w' none
  find : ∀ {w p sz xs O}, T w p sz xs O → ∀ a v, okI a → okI v → Calls Try.prog 19 #[.pointer (some ⟨p, 0, none⟩), .agg #[.int .i64 a, .int .i64 v]] w fun e w' => e = .returned (findV xs a v) ∧ w.grownBy w' none
  put : ∀ {w p sz xs O}, T w p sz xs O → ∀ y : KeptV, okKey y → Calls Try.prog 11 #[.pointer (some ⟨p, 0, none⟩), .agg #[.int .i64 y.a, .int .i64 y.v], .agg #[.int .i64 y.fl, .int .i64 y.pp]] w fun e w' => e = .returned (.tuple #[]) ∧ TLeft T w w' p sz O (putL sz xs y)
  flush : ∀ {w p sz xs O}, T w p sz xs O → ∀ a v, okI a → okI v → Calls Try.prog 13 #[.pointer (some ⟨p, 0, none⟩), .agg #[.int .i64 a, .int .i64 v]] w fun e w' => e = .returned (.bool (decide ((dropK (sameK a v) xs).length < xs.length))) ∧ TLeft T w w' p sz O (dropK (sameK a v) xs)
  flushAsid : ∀ {w p sz xs O}, T w p sz xs O → ∀ a, okI a → Calls Try.prog 15 #[.pointer (some ⟨p, 0, none⟩), .int .i64 a] w fun e w' => e = .returned (.int .i64 ((xs.length : Int) - ((dropK (fun x => x.a == a) xs).length : Int))) ∧ TLeft T w w' p sz O (dropK (fun x => x.a == a) xs)
  flushAll : ∀ {w p sz xs O}, T w p sz xs O → Calls Try.prog 17 #[.pointer (some ⟨p, 0, none⟩)] w fun e w' => e = .returned (.int .i64 (xs.length : Int)) ∧ TLeft T w w' p sz O []
  len : ∀ {w p sz xs O}, T w p sz xs O → Calls Try.prog 22 #[.pointer (some ⟨p, 0, none⟩)] w fun e w' => e = .returned (.int .i64 (xs.length : Int)) ∧ w.grownBy w' none
  keys : ∀ {w p sz xs O}, T w p sz xs O → Calls Try.prog 21 #[.pointer (some ⟨p, 0, none⟩)] w fun e w' => ∃ v, e = .returned v ∧ RowOf keyCells 2 w' v xs ∧ w.grownBy w' none ∧ ∀ b, v.ownBlock = some b → w.heap.size ≤ b

section
variable {T : World → Nat → Int → List KeptV → List Nat → Prop} {w w' : World} {p : Nat} {sz : Int} {xs zs : List KeptV} {O : List Nat}
theorem TlbOk.grow (H : TlbOk T) (h : T w p sz xs O) (g : w.grownBy w' none) : T w' p sz xs O := H.kept h g.size fun b hb => g.block b (H.lt h b hb) (by simp)
theorem TlbOk.turn (H : TlbOk T) {O2 : List Nat} (h : T w p sz xs O) (g : Turn O2 w w') (ho : ∀ b, b ∈ O → b ∉ O2) : T w' p sz xs O := H.kept h g.size fun b hb => g.block b (H.lt h b hb) (ho b hb)
end

/-- Blocks that are none of the table's. -/
def Apart (Bs O : List Nat) : Prop := ∀ b, b ∈ Bs → b ∉ O
theorem Apart.next {Bs O O' : List Nat} {B : Nat} (h : Apart Bs O) (hl : ∀ b, b ∈ Bs → b < B) (ho : ∀ b, b ∈ O' → b ∈ O ∨ B ≤ b) : Apart Bs O' := fun b hb hm => by
  rcases ho b hm with h1 | h1
  · exact h b hb h1
  · have := hl b hb; omega

/-! ### the example -/
def lvK : Nat → Int
  | 0 => 1
  | 1 => 2
  | 2 => 1
  | _ => 3
def lvS : Nat → List KeptV
  | 0 => []
  | 1 => [⟨1, 0, 0, 1⟩]
  | 2 => [⟨1, 0, 0, 1⟩, ⟨2, 0, 0, 2⟩]
  | 3 => [⟨1, 0, 0, 1⟩, ⟨2, 0, 0, 2⟩]
  | _ => [⟨2, 0, 0, 2⟩, ⟨3, 0, 0, 3⟩]
theorem lv_put (j : Nat) (h : j < 4) : putL 2 (lvS j) ⟨lvK j, 0, 0, lvK j⟩ = lvS (j + 1) := by
  match j, h with
  | 0, _ => rfl
  | 1, _ => rfl
  | 2, _ => rfl
  | 3, _ => rfl

/-- The block of the four keys. -/
def LvB (w : World) (b : Nat) : Prop := w.heap[b]? = some (.cells #[.int .i64 1, .int .i64 0, .int .i64 2, .int .i64 0, .int .i64 1, .int .i64 0, .int .i64 3, .int .i64 0] 29 (0, 0))
theorem LvB.at {w : World} {b : Nat} (h : LvB w b) (j : Nat) (hj : j < 4) : w.cell? ⟨b, j * 2, none⟩ = some (.int .i64 (lvK j)) ∧ w.cell? ⟨b, j * 2 + 1, none⟩ = some (.int .i64 0) := by
  rw [cell_of_row _ _ _ _ _ _ h, cell_of_row _ _ _ _ _ _ h]
  match j, hj with
  | 0, _ => exact ⟨rfl, rfl⟩
  | 1, _ => exact ⟨rfl, rfl⟩
  | 2, _ => exact ⟨rfl, rfl⟩
  | 3, _ => exact ⟨rfl, rfl⟩

theorem eql_ptr_nil (w : World) (a : Addr) : (binOp .eql 23 (.pointer (some a)) (.pointer none)).run Try.prog w = .ok (.bool false) w := by
  have h1 : ∀ d : Nat, (Op.equalIn (d + 1) 23 (.pointer (some a)) (.pointer none)).run Try.prog w = .ok false w := fun d => by
    simp [Op.equalIn, run_underlying Try.underlying23]
  simp only [binOp]
  simp [Op.equal, Op.maxDepth, h1 9999]

/-- What the example reads. -/
structure LvW (w wr : World) (B : Nat) (O : List Nat) : Prop where
  k1 : TwoB wr B 29 (.int .i64 1) (.int .i64 0)
  k2 : TwoB wr (B + 1) 29 (.int .i64 2) (.int .i64 0)
  l : LvB wr (B + 3)
  apart : Apart [B, B + 1, B + 3] O
  own : ∀ b, b ∈ O → w.heap.size ≤ b
  grown : w.grownBy wr none
theorem LvW.grow {w wr w2 : World} {B : Nat} {O : List Nat} (h : LvW w wr B O) (g : wr.grownBy w2 none) : LvW w w2 B O :=
  ⟨h.k1.grow g, h.k2.grow g, (g.block _ (Array.getElem?_eq_some_iff.1 h.l).1 (by simp)).trans h.l, h.apart, h.own, grown_trans h.grown g⟩
theorem LvW.turn {w wr w2 : World} {B : Nat} {O O' : List Nat} (h : LvW w wr B O) (g : Turn O wr w2) (ho : ∀ b, b ∈ O' → b ∈ O ∨ wr.heap.size ≤ b) : LvW w w2 B O' := by
  have l1 := h.k1.lt
  have l2 := h.k2.lt
  have l3 := (Array.getElem?_eq_some_iff.1 h.l).1
  refine ⟨h.k1.turn g (h.apart _ (by simp)), h.k2.turn g (h.apart _ (by simp)), (g.block _ l3 (h.apart _ (by simp))).trans h.l, h.apart.next (fun b hb => ?_) ho, fun b hb => ?_, ?_⟩
  · simp at hb
    rcases hb with rfl | rfl | rfl <;> assumption
  · rcases ho b hb with h1 | h1
    · exact h.own b h1
    · have := h.grown.size; omega
  · exact ((Turn.grown h.grown).trans' g).noGrown h.own

theorem lv_start {T : World → Nat → Int → List KeptV → List Nat → Prop} {w w1 : World} {p : Nat} {O : List Nat} (h : T w1 p 2 [] O) (H : TlbOk T) (g : w.grownBy w1 none) (o : ∀ b, b ∈ O → w.heap.size ≤ b) :
    T ((((w1.alloc (.cells #[.int .i64 1, .int .i64 0] 29)).alloc (.cells #[.int .i64 2, .int .i64 0] 29)).alloc (.cells #[.int .i64 3, .int .i64 0] 29)).alloc
    (.cells #[.int .i64 1, .int .i64 0, .int .i64 2, .int .i64 0, .int .i64 1, .int .i64 0, .int .i64 3, .int .i64 0] 29)) p 2 (lvS 0) O ∧ LvW w ((((w1.alloc (.cells #[.int .i64 1, .int .i64 0] 29)).alloc (.cells #[.int .i64 2, .int .i64 0] 29)).alloc (.cells #[.int .i64 3, .int .i64 0] 29)).alloc
    (.cells #[.int .i64 1, .int .i64 0, .int .i64 2, .int .i64 0, .int .i64 1, .int .i64 0, .int .i64 3, .int .i64 0] 29)) w1.heap.size O := by
  have a1 := World.grownBy_alloc w1 (.cells #[.int .i64 1, .int .i64 0] 29) none
  have a2 := World.grownBy_alloc (w1.alloc (.cells #[.int .i64 1, .int .i64 0] 29)) (.cells #[.int .i64 2, .int .i64 0] 29) none
  have a3 := World.grownBy_alloc ((w1.alloc (.cells #[.int .i64 1, .int .i64 0] 29)).alloc (.cells #[.int .i64 2, .int .i64 0] 29)) (.cells #[.int .i64 3, .int .i64 0] 29) none
  have a4 := World.grownBy_alloc (((w1.alloc (.cells #[.int .i64 1, .int .i64 0] 29)).alloc (.cells #[.int .i64 2, .int .i64 0] 29)).alloc (.cells #[.int .i64 3, .int .i64 0] 29))
    (.cells #[.int .i64 1, .int .i64 0, .int .i64 2, .int .i64 0, .int .i64 1, .int .i64 0, .int .i64 3, .int .i64 0] 29) none
  have hall := grown_trans (grown_trans (grown_trans a1 a2) a3) a4
  refine ⟨H.grow h hall, (((TwoB.new w1 _ _ _).grow a2).grow a3).grow a4, ?_, ?_, fun b hb hm => ?_, o, grown_trans g hall⟩
  · have := (TwoB.new (w1.alloc (.cells #[.int .i64 1, .int .i64 0] 29)) 29 (.int .i64 2) (.int .i64 0))
    rw [World.size_alloc] at this
    exact (this.grow a3).grow a4
  · have := heap_alloc_new (((w1.alloc (.cells #[.int .i64 1, .int .i64 0] 29)).alloc (.cells #[.int .i64 2, .int .i64 0] 29)).alloc (.cells #[.int .i64 3, .int .i64 0] 29))
      (.cells #[.int .i64 1, .int .i64 0, .int .i64 2, .int .i64 0, .int .i64 1, .int .i64 0, .int .i64 3, .int .i64 0] 29)
    rwa [World.size_alloc, World.size_alloc, World.size_alloc] at this
  · have := H.lt h b hm
    simp at hb
    omega

theorem lvK_ok (j : Nat) : okKey ⟨lvK j, 0, 0, lvK j⟩ := by
  have h : okI (lvK j) := by
    unfold lvK
    split <;> exact ⟨by decide, by decide⟩
  exact ⟨h, (show okI 0 from ⟨by decide, by decide⟩)⟩

set_option maxRecDepth 100000 in
set_option maxHeartbeats 2000000 in
theorem lives5 {T : World → Nat → Int → List KeptV → List Nat → Prop} (H : TlbOk T) (w : World) :
    Calls Try.prog 10 #[] w fun e w' => e = .returned (.bool true) ∧ w.grownBy w' none := by
  have HN := Lib.hid (H.new w 2 (by decide) (by decide))
  have HT := Lib.hid H
  clear H
  go_enter Try.func10, Try.ntmps10
  go_wp2_with fail
  refine HN.out.mono ?_
  rintro e w1 ⟨p, O, rfl, h1, g1, o1⟩
  have hq := eql_ptr_nil w1 ⟨p, 0, none⟩
  have H1 := Lib.hid h1
  have G1 := Lib.hid g1
  have O1 := Lib.hid o1
  clear h1 g1 o1
  have hlw := lv_start H1.out HT.out G1.out O1.out
  go_wp2_with fail
  generalize hwB : (((w1.alloc (.cells #[.int .i64 1, .int .i64 0] 29)).alloc (.cells #[.int .i64 2, .int .i64 0] 29)).alloc (.cells #[.int .i64 3, .int .i64 0] 29)).alloc
    (.cells #[.int .i64 1, .int .i64 0, .int .i64 2, .int .i64 0, .int .i64 1, .int .i64 0, .int .i64 3, .int .i64 0] 29) = wB at *
  have HLW := Lib.hid hlw
  clear hlw hwB H1 G1 O1 HN hq
  go_loopw [23] (fun i wr => ∃ (j : Nat) (O' : List Nat), j ≤ 4 ∧ i = .int .i64 j ∧ Hid (T wr p 2 (lvS j) O') ∧ Hid (LvW w wr w1.heap.size O')) (fun i _ => 4 - (intOf i).toNat)
  case atStart => exact ⟨0, O, by omega, rfl, HLW.out.1, HLW.out.2⟩
  case round =>
    obtain ⟨j, O', hj, rfl, HTr, HL⟩ := hrel
    by_cases hlt : j < 4
    · obtain ⟨k0, k1⟩ := HL.out.l.at j hlt
      have ga := World.grownBy_alloc wr (.cells #[.int .i64 (lvK j), .int .i64 0] 29) none
      have HPut := Lib.hid (HT.out.put (HT.out.grow HTr.out ga) ⟨lvK j, 0, 0, lvK j⟩ (lvK_ok j))
      have HL2 := Lib.hid (HL.out.grow ga)
      obtain ⟨b0, b1⟩ := (TwoB.new wr 29 (.int .i64 (lvK j)) (.int .i64 0)).at
      have HE := Lib.hid (lv_put j hlt)
      clear ga
      go_wp2_with fail
      refine HPut.out.mono ?_
      rintro e w2 ⟨rfl, O2, h2, g2, o2⟩
      rw [HE.out] at h2
      have H2 := Lib.hid h2
      have L2 := Lib.hid (HL2.out.turn g2 o2)
      clear h2 g2 o2
      go_wp2_with fail
      go_roundw
      case rel => exact ⟨j + 1, O2, by omega, by go_num, H2, L2⟩
      case measure => simp [intOf]; omega
    · obtain rfl : j = 4 := by omega
      obtain ⟨k0, k1⟩ := HL.out.k1.at
      have HF1 := Lib.hid (show Calls Try.prog 19 #[.pointer (some ⟨p, 0, none⟩), .agg #[.int .i64 1, .int .i64 0]] wr fun e w' => e = .returned (.tuple #[.agg #[.int .i64 0, .int .i64 0], .bool false]) ∧ wr.grownBy w' none from HT.out.find HTr.out 1 0 ⟨by decide, by decide⟩ ⟨by decide, by decide⟩)
      go_wp2_with fail
      refine HF1.out.mono ?_
      rintro e w2 ⟨rfl, g2⟩
      have ga := World.grownBy_alloc w2 (.cells #[.int .i64 0, .int .i64 0] 31) none
      have HT2 := Lib.hid (HT.out.grow (HT.out.grow HTr.out g2) ga)
      have HL2 := Lib.hid ((HL.out.grow g2).grow ga)
      have HF2 := Lib.hid (show Calls Try.prog 19 #[.pointer (some ⟨p, 0, none⟩), .agg #[.int .i64 2, .int .i64 0]] (w2.alloc (.cells #[.int .i64 0, .int .i64 0] 31)) fun e w' => e = .returned (.tuple #[.agg #[.int .i64 0, .int .i64 2], .bool true]) ∧ (w2.alloc (.cells #[.int .i64 0, .int .i64 0] 31)).grownBy w' none from HT.out.find HT2.out 2 0 ⟨by decide, by decide⟩ ⟨by decide, by decide⟩)
      obtain ⟨m0, m1⟩ := HL2.out.k2.at
      clear g2 ga k0 k1
      go_wp2_with fail
      refine HF2.out.mono ?_
      rintro e w3 ⟨rfl, g3⟩
      have ga := World.grownBy_alloc w3 (.cells #[.int .i64 0, .int .i64 2] 31) none
      have HT3 := Lib.hid (HT.out.grow (HT.out.grow HT2.out g3) ga)
      have HL3 := Lib.hid ((HL2.out.grow g3).grow ga)
      have HLen := Lib.hid (show Calls Try.prog 22 #[.pointer (some ⟨p, 0, none⟩)] (w3.alloc (.cells #[.int .i64 0, .int .i64 2] 31)) fun e w' => e = .returned (.int .i64 2) ∧ (w3.alloc (.cells #[.int .i64 0, .int .i64 2] 31)).grownBy w' none from HT.out.len HT3.out)
      clear g3 ga m0 m1
      go_wp2_with fail
      refine HLen.out.mono ?_
      rintro e w4 ⟨rfl, g4⟩
      have HL4 := Lib.hid (HL3.out.grow g4)
      clear g4
      go_wp2_with fail
      go_ret
      exact ⟨rfl, HL4.out.grown⟩
end Go.Proofs.Ytmddflhacamnaaa
