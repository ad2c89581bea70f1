/- Layer 13: both pools beside one another, and a round's box. -/
import Derived.Test.YtfmihbiongnpnaaAAct
import Derived.Test.YtfmihbiongnpnaaAUsed
import Derived.Test.YtfmihbiongnpnaaARef5
namespace Go.Proofs.Ytfmihbiongnpnaa
open Go.ChangeShapes Go.WideShapes Go.ChangeAt Go.RowKit Go.Deep
set_option linter.unusedVariables false

theorem eqlA_none (w : World) : (binOp .eql 26 (.pointer none) (.pointer none)).run Try.prog w = .ok (.bool true) w := by kernel_rfl
theorem eqlA_nil (w : World) (a : Addr) : (binOp .eql 26 (.pointer (some a)) (.pointer none)).run Try.prog w = .ok (.bool false) w := by go_simp
theorem eqlQ_nil (w : World) (a : Addr) : (binOp .eql 28 (.pointer (some a)) (.pointer none)).run Try.prog w = .ok (.bool false) w := by go_simp
theorem eqlQ_none (w : World) : (binOp .eql 28 (.pointer none) (.pointer none)).run Try.prog w = .ok (.bool true) w := by kernel_rfl
theorem rdsOk : StOkA RDS := ⟨fun h => by obtain ⟨v, S, h, -, rfl⟩ := h; exact PoolA.lt rsOk h, fun h hs hb => by obtain ⟨v, S, h, hg, rfl⟩ := h; exact ⟨v, S, PoolA.kept rsOk h hs hb, hg, rfl⟩, fun h => by obtain ⟨v, S, h, hg, rfl⟩ := h; exact hg⟩
section
variable {w : World} {q m : Nat} {L : AmL} {O : List Nat}
theorem rds_make (h : RDS w q m L O) (n : Int) (hn : okI n) : Calls Try.prog 12 #[.pointer (some ⟨q, 0, none⟩), .int .i64 n] w fun e w' => e = .returned (.tuple #[.int .i64 (makeA m L n).n, .int .i64 (makeA m L n).e]) ∧ ALa RDS w w' q m O (makeA m L n).L := by
  obtain ⟨v, S, h, hg, rfl⟩ := h
  by_cases hno : ¬ (1 ≤ n ∧ n ≤ 4096) ∨ m ≤ (idsA L).length
  · refine (ra_make_no h hg n hn hno).mono fun e w' ⟨he, g⟩ => ?_
    have h1 : (makeA m L n).n = 0 ∧ (makeA m L n).L = L := by
      unfold makeA
      by_cases hr : 1 ≤ n ∧ n ≤ 4096
      · rw [if_neg (fun k => k hr), if_pos (by rcases hno with h1 | h1; exact absurd hr h1; exact h1)]; exact ⟨rfl, rfl⟩
      · rw [if_pos hr]; exact ⟨rfl, rfl⟩
    rw [h1.1, h1.2]
    exact ⟨he, RA.same h hg g⟩
  · have h1 : 1 ≤ n ∧ n ≤ 4096 := by rcases Classical.em (1 ≤ n ∧ n ≤ 4096) with k | k; exact k; exact absurd (.inl k) hno
    have h2 : ¬ m ≤ (idsA L).length := fun k => hno (.inr k)
    obtain ⟨k, rfl⟩ := Int.eq_ofNat_of_zero_le (show 0 ≤ n by omega)
    have hG := makeA_good (n := (k : Int)) hg
    have hm : makeA m L k = ⟨(firstA L : Int) + 1, [], 0, putA L (firstA L) (some (newA k))⟩ := by unfold makeA; rw [if_neg (fun k => k h1), if_neg h2, Int.toNat_natCast]
    rw [hm] at hG ⊢
    exact (ra_make h hg k (by omega) (by omega) h2).mono fun e w' ⟨he, v', P, h3, t3, o3, _⟩ => ⟨he, _, ⟨v', updA S (firstA L) P, h3, hG, rfl⟩, t3, o3⟩
theorem rds_set (h : RDS w q m L O) (id s x : Int) (h1 : okI id) (h2 : okI s) (h3 : okI x) : Calls Try.prog 14 #[.pointer (some ⟨q, 0, none⟩), .int .i64 id, .int .i64 s, .int .i64 x] w fun e w' => e = .returned (.tuple #[.int .i64 (setA L id s x).n, .int .i64 (setA L id s x).e]) ∧ ALa RDS w w' q m O (setA L id s x).L := by
  obtain ⟨v, S, h, hg, rfl⟩ := h
  exact ra_set h hg id s x h1 h2 h3
theorem rds_hold (h : RDS w q m L O) (id lo hi : Int) (h1 : okI id) (h2 : okI lo) (h3 : okI hi) : Calls Try.prog 16 #[.pointer (some ⟨q, 0, none⟩), .int .i64 id, .int .i64 lo, .int .i64 hi] w fun e w' => e = .returned (.int .i64 (holdA L id lo hi).e) ∧ ALa RDS w w' q m O (holdA L id lo hi).L := by
  obtain ⟨v, S, h, hg, rfl⟩ := h
  exact ra_hold h hg id lo hi h1 h2 h3
theorem rds_drop (h : RDS w q m L O) (id lo hi : Int) (h1 : okI id) (h2 : okI lo) (h3 : okI hi) : Calls Try.prog 18 #[.pointer (some ⟨q, 0, none⟩), .int .i64 id, .int .i64 lo, .int .i64 hi] w (DropR RDS w q m O (dropA L id lo hi)) := by
  obtain ⟨v, S, h, hg, rfl⟩ := h
  exact ra_drop h hg id lo hi h1 h2 h3
theorem rds_copy (h : RDS w q m L O) (id lo hi : Int) (h1 : okI id) (h2 : okI lo) (h3 : okI hi) : Calls Try.prog 21 #[.pointer (some ⟨q, 0, none⟩), .int .i64 id, .int .i64 lo, .int .i64 hi] w (CopyR RDS w q m O (copyA m L id lo hi)) := by
  obtain ⟨v, S, h, hg, rfl⟩ := h
  exact ra_copy h hg id lo hi h1 h2 h3
theorem rds_slots (h : RDS w q m L O) (id : Int) (h1 : okI id) : Calls Try.prog 24 #[.pointer (some ⟨q, 0, none⟩), .int .i64 id] w fun e w' => e = .returned (.int .i64 (slotsA L id)) ∧ w.grownBy w' none := by
  obtain ⟨v, S, h, hg, rfl⟩ := h
  exact (ra_slots h (Nat.le_trans hg.len hg.most) id h1).mono fun e w' ⟨he, e2⟩ => ⟨he, by rw [e2]; exact grown_refl _ _⟩
theorem rds_cover (h : RDS w q m L O) (id s : Int) (h1 : okI id) (h2 : okI s) : Calls Try.prog 26 #[.pointer (some ⟨q, 0, none⟩), .int .i64 id, .int .i64 s] w fun e w' => e = .returned (.int .i64 (coverA L id s)) ∧ w.grownBy w' none := by
  obtain ⟨v, S, h, hg, rfl⟩ := h
  exact ra_cover h hg id s h1 h2
theorem rds_get (h : RDS w q m L O) (id s : Int) (h1 : okI id) (h2 : okI s) : Calls Try.prog 28 #[.pointer (some ⟨q, 0, none⟩), .int .i64 id, .int .i64 s] w fun e w' => e = .returned (.int .i64 (getA L id s)) ∧ w.grownBy w' none := by
  obtain ⟨v, S, h, hg, rfl⟩ := h
  exact (ra_get h hg id s h1 h2).mono fun e w' ⟨he, e2⟩ => ⟨he, by rw [e2]; exact grown_refl _ _⟩
theorem rds_ids (h : RDS w q m L O) : Calls Try.prog 30 #[.pointer (some ⟨q, 0, none⟩)] w fun e w' => ∃ u, e = .returned u ∧ RowOf zCells 1 w' u (idsA L) ∧ (∀ b, u.ownBlock = some b → w.heap.size ≤ b) ∧ w.grownBy w' none := by
  obtain ⟨v, S, h, hg, rfl⟩ := h
  exact ra_ids h (Nat.le_trans hg.len hg.most)
/-- The amap of a number: none, or where its anons lie. -/
theorem rds_of (h : RDS w q m L O) (id : Int) (h1 : okI id) : (anonsA L id = [] ∧ Calls Try.prog 22 #[.pointer (some ⟨q, 0, none⟩), .int .i64 id] w fun e w' => e = .returned (.pointer none) ∧ w' = w) ∨
    ∃ a g, (Calls Try.prog 22 #[.pointer (some ⟨q, 0, none⟩), .int .i64 id] w fun e w' => e = .returned (.pointer (some ⟨a, 0, none⟩)) ∧ w' = w) ∧ w.cell? ⟨a, 1, none⟩ = some (.slice (some ⟨g, 0, none⟩) (anonsA L id).length (anonsA L id).length) ∧ RowOf zCells 1 w (.slice (some ⟨g, 0, none⟩) (anonsA L id).length (anonsA L id).length) (anonsA L id) := by
  obtain ⟨v, S, h, hg, rfl⟩ := h
  have hl := Nat.le_trans hg.len hg.most
  rcases of_cases L id with ⟨e, -⟩ | ⟨i, x, rfl, hi, hx, e⟩
  · exact .inl ⟨by unfold anonsA; rw [e], ra_of_none h hl h1 e⟩
  · have ha := h.am.each i x hx
    rw [show anonsA L ((i : Int) + 1) = x.as by unfold anonsA; rw [e]]
    exact .inr ⟨_, _, ra_of_some h hl hx, ha.at.2, OwnOf.row ha.row⟩
end
theorem anons_len {L : AmL} {m : Nat} (h : GoodL m L) (id : Int) : (anonsA L id).length ≤ 4096 := by
  unfold anonsA
  split
  · rename_i a ha
    have hg := ofA_good h ha
    have h2 := hg.cs.len
    have h3 := hg.len
    omega
  · exact Nat.zero_le _
/-- Both pools, and a round's box. -/
structure AXA (D : World → Nat → Nat → AmL → List Nat → Prop) (w wx : World) (p q m : Nat) (L M : AmL) (O P : List Nat) (y : Nat) (A : AActV) : Prop where
  two : TwoA D RDS w wx p m L O q m M P
  b : AActB wx y A
  yn : y ∉ O
  yq : y ∉ P
section
variable {D : World → Nat → Nat → AmL → List Nat → Prop} {w wx w2 : World} {p q m y : Nat} {L L' M M' : AmL} {O P : List Nat} {A : AActV}
theorem AXA.grow (H : StOkA D) (h : AXA D w wx p q m L M O P y A) (g : wx.grownBy w2 none) : AXA D w w2 p q m L M O P y A := ⟨h.two.grow H rdsOk g, h.b.grow g, h.yn, h.yq⟩
theorem AXA.new (H : StOkA D) (h : TwoA D RDS w wx p m L O q m M P) (A : AActV) : AXA D w (wx.alloc (.cells #[.int .i64 A.k, .int .i64 A.id, .int .i64 A.a, .int .i64 A.b] 25 (0, 0))) p q m L M O P wx.heap.size A :=
  ⟨h.grow H rdsOk (World.grownBy_alloc wx _ none), AActB.new wx A, fun hm => by have := H.lt h.one.d _ hm; omega, fun hm => by have := rdsOk.lt h.two.d _ hm; omega⟩
theorem AXA.first (h : AXA D w wx p q m L M O P y A) (t : ALa D wx w2 p m O L') : ∃ O', AXA D w w2 p q m L' M O' P y A := by
  obtain ⟨O', h2, t2, o2⟩ := h.two.first rdsOk t
  refine ⟨O', h2, h.b.turn t2 h.yn, fun hm => ?_, h.yq⟩
  rcases o2 y hm with h3 | h3
  · exact h.yn h3
  · have := h.b.lt; omega
theorem AXA.second (H : StOkA D) (h : AXA D w wx p q m L M O P y A) (t : ALa RDS wx w2 q m P M') : ∃ P', AXA D w w2 p q m L M' O P' y A ∧ Turn P wx w2 := by
  obtain ⟨P', h2, t2, o2⟩ := h.two.second H t
  refine ⟨P', ⟨h2, h.b.turn t2 h.yq, h.yn, fun hm => ?_⟩, t2⟩
  rcases o2 y hm with h3 | h3
  · exact h.yq h3
  · have := h.b.lt; omega
theorem AXA.cells (h : AXA D w wx p q m L M O P y A) : wx.cell? ⟨y, 1, none⟩ = some (.int .i64 A.id) ∧ wx.cell? ⟨y, 2, none⟩ = some (.int .i64 A.a) ∧ wx.cell? ⟨y, 3, none⟩ = some (.int .i64 A.b) := ⟨h.b.at.2.1, h.b.at.2.2.1, h.b.at.2.2.2⟩
/-- Beside these, what is wanted. -/
structure AXW (D : World → Nat → Nat → AmL → List Nat → Prop) (w wx : World) (p q m : Nat) (L : AmL) (O P : List Nat) (y : Nat) (A : AActV) (v : Value) (W : List Int) : Prop where
  x : AXA D w wx p q m L L O P y A
  r : RowOf zCells 1 wx v W
theorem AXW.grow (H : StOkA D) {v : Value} {W : List Int} (h : AXW D w wx p q m L O P y A v W) (g : wx.grownBy w2 none) : AXW D w w2 p q m L O P y A v W := ⟨h.x.grow H g, rowOf_grow h.r g⟩
end
end Go.Proofs.Ytfmihbiongnpnaa
