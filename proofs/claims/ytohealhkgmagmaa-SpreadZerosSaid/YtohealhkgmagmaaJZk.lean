/- SpreadZeros: two counts, and the adds that the law makes of its acts. -/
import Derived.Test.YtohealhkgmagmaaJRunsW
namespace Go.Proofs.Ytohealhkgmagmaa
open Go.ChangeShapes Go.WideShapes Go.ChangeAt Go.RowKit Go.Deep
set_option linter.unusedVariables false

def jaCells (x : JA) : List Value := [.int .i64 x.lo, .int .i64 x.hi, .int .i64 x.by_, .bool false]
theorem ja_len (x : JA) : (jaCells x).length = 4 := rfl
def JaOwn := OwnOf jaCells 4 29
theorem info_jact : (Try.prog.info? 29).map (fun i => (i.zero, i.size, i.bytes)) = some (some (.agg #[.int .i64 0, .int .i64 0, .int .i64 0, .bool false]), 4, 32) := by kernel_rfl
theorem ja_ones (xs : List JA) : ∀ u, u ∈ xs.flatMap jaCells → u.oneCell' = true := by
  intro u hu
  obtain ⟨y, _, hy⟩ := List.mem_flatMap.1 hu
  simp [jaCells] at hy
  rcases hy with rfl | rfl | rfl | rfl <;> rfl
theorem ja_cells {w : World} {v : Value} {U : List JA} (h : RowOf jaCells 4 w v U) {j : Nat} {x : JA} (hx : U[j]? = some x) :
    ∃ g o c, v = .slice (some ⟨g, o, none⟩) U.length c ∧ w.cell? ⟨g, o + j * 4, none⟩ = some (.int .i64 x.lo) ∧ w.cell? ⟨g, o + j * 4 + 1, none⟩ = some (.int .i64 x.hi) ∧ w.cell? ⟨g, o + j * 4 + 2, none⟩ = some (.int .i64 x.by_) ∧ w.cell? ⟨g, o + j * 4 + 3, none⟩ = some (.bool false) := by
  obtain ⟨g, o, c, hv, hc⟩ := RowOf.at ja_len h hx
  exact ⟨g, o, c, hv, hc 0 _ rfl, hc 1 _ rfl, hc 2 _ rfl, hc 3 _ rfl⟩
/-- The add that comes of an act. -/
def upJ (k : Int) (A : JActV) : JA := ⟨A.lo % 18446744073709551616 % k, A.lo % 18446744073709551616 % k + 1 + A.hi % 18446744073709551616 % (k - A.lo % 18446744073709551616 % k), 1 + A.by_ % 18446744073709551616 % 3⟩
theorem upJ_ok {k : Nat} (hk : 1 ≤ k) (A : JActV) : (upJ k A).Ok k := by
  unfold upJ
  obtain ⟨x, hx⟩ : ∃ x, A.lo % 18446744073709551616 % (k : Int) = x := ⟨_, rfl⟩
  have h0 : 0 ≤ x := by rw [← hx]; exact Int.emod_nonneg _ (by omega)
  have h1 : x < k := by rw [← hx]; exact Int.emod_lt_of_pos _ (by omega)
  rw [hx]
  have h2 := Int.emod_nonneg (A.hi % 18446744073709551616) (show (k : Int) - x ≠ 0 by omega)
  have h3 := Int.emod_lt_of_pos (A.hi % 18446744073709551616) (show 0 < (k : Int) - x by omega)
  exact ⟨by show 0 ≤ x; omega, by show x < x + 1 + _; omega, by show x + 1 + _ ≤ (k : Int); omega, by show 1 ≤ 1 + _; omega, by show 1 + _ ≤ 3; omega⟩

section
variable {D : World → Nat → List Int → List Nat → Prop} {w wx w2 : World} {p q : Nat} {L M L' M' : List Int} {O P Q : List Nat} {v v' : Value} {U V : List JA}
theorem Two.turn (H : StOk D) (h : Two D D w wx p L O q M P) (t : Turn Q wx w2) (h1 : ∀ b, b ∈ O → b ∉ Q) (h2 : ∀ b, b ∈ P → b ∉ Q) (h3 : ∀ b, b ∈ Q → w.heap.size ≤ b) : Two D D w w2 p L O q M P :=
  ⟨h.one.turn H t h1 h3, h.two.turn H t h2 h3, h.ap⟩
/-- Both, and the adds. -/
structure ZK (D : World → Nat → List Int → List Nat → Prop) (w wx : World) (p q : Nat) (L M : List Int) (O P : List Nat) (v : Value) (U : List JA) : Prop where
  two : Two D D w wx p L O q M P
  up : JaOwn wx w.heap.size v U
  an : ∀ b, v.ownBlock = some b → b ∉ O
  bn : ∀ b, v.ownBlock = some b → b ∉ P
theorem ZK.grow (H : StOk D) (h : ZK D w wx p q L M O P v U) (g : wx.grownBy w2 none) : ZK D w w2 p q L M O P v U := ⟨h.two.grow H H g, OwnOf.grow h.up g, h.an, h.bn⟩
theorem ZK.first (H : StOk D) (h : ZK D w wx p q L M O P v U) (t : SL D wx w2 p O L') (hk : JOk L') : ∃ O', ZK D w w2 p q L' M O' P v U := by
  obtain ⟨O', h2, t2, o2⟩ := h.two.first H t hk
  refine ⟨O', h2, OwnOf.kept h.up fun b e => t2.block b (OwnOf.lt h.up e).2 (h.an b e), fun b e hm => ?_, h.bn⟩
  rcases o2 b hm with h3 | h3
  · exact h.an b e h3
  · have := (OwnOf.lt h.up e).2; omega
theorem ZK.first2 (H : StOk D) (h : ZK D w wx p q L M O P v U) (t : SL D wx w2 p O L') (hk : JOk L') : ∃ O', ZK D w w2 p q L' M O' P v U ∧ Turn O wx w2 := by
  obtain ⟨O', h2, t2, o2⟩ := h.two.first H t hk
  refine ⟨O', ⟨h2, OwnOf.kept h.up fun b e => t2.block b (OwnOf.lt h.up e).2 (h.an b e), fun b e hm => ?_, h.bn⟩, t2⟩
  rcases o2 b hm with h3 | h3
  · exact h.an b e h3
  · have := (OwnOf.lt h.up e).2; omega
theorem ZK.second (H : StOk D) (h : ZK D w wx p q L M O P v U) (t : SL D wx w2 q P M') (hk : JOk M') : ∃ P', ZK D w w2 p q L M' O P' v U := by
  obtain ⟨P', h2, t2, o2⟩ := h.two.second H t hk
  refine ⟨P', h2, OwnOf.kept h.up fun b e => t2.block b (OwnOf.lt h.up e).2 (h.bn b e), h.an, fun b e hm => ?_⟩
  rcases o2 b hm with h3 | h3
  · exact h.bn b e h3
  · have := (OwnOf.lt h.up e).2; omega
/-- One add more. -/
theorem ZK.push (H : StOk D) (h : ZK D w wx p q L M O P v U) (g : wx.grownBy w2 v.ownBlock) (hown : JaOwn w2 w.heap.size v' V) (hn : ∀ b, v'.ownBlock = some b → v.ownBlock = some b ∨ wx.heap.size ≤ b) : ZK D w w2 p q L M O P v' V := by
  have t : Turn v.ownBlock.toList wx w2 := ⟨g.os, g.tape, g.output, g.size, fun k hk hm => g.block k hk fun e => hm (by rw [← e]; simp)⟩
  refine ⟨h.two.turn H t (fun b hb hm => h.an b (by simpa using hm) hb) (fun b hb hm => h.bn b (by simpa using hm) hb) (fun b hb => (OwnOf.lt h.up (by simpa using hb)).1), hown, fun b e hm => ?_, fun b e hm => ?_⟩
  · rcases hn b e with h3 | h3
    · exact h.an b h3 hm
    · have := H.lt h.two.one.d b hm; omega
  · rcases hn b e with h3 | h3
    · exact h.bn b h3 hm
    · have := H.lt h.two.two.d b hm; omega
end

theorem two_acts (w : World) (A B : JActV) : JActB ((w.alloc (.cells #[.int .i64 A.lo, .int .i64 A.hi, .int .i64 A.by_, .bool A.gr] 29 (0, 0))).alloc (.cells #[.int .i64 B.lo, .int .i64 B.hi, .int .i64 B.by_, .bool B.gr] 29 (0, 0))).drew w.heap.size A ∧
    JActB ((w.alloc (.cells #[.int .i64 A.lo, .int .i64 A.hi, .int .i64 A.by_, .bool A.gr] 29 (0, 0))).alloc (.cells #[.int .i64 B.lo, .int .i64 B.hi, .int .i64 B.by_, .bool B.gr] 29 (0, 0))).drew (w.heap.size + 1) B ∧
    w.grownBy ((w.alloc (.cells #[.int .i64 A.lo, .int .i64 A.hi, .int .i64 A.by_, .bool A.gr] 29 (0, 0))).alloc (.cells #[.int .i64 B.lo, .int .i64 B.hi, .int .i64 B.by_, .bool B.gr] 29 (0, 0))).drew none := by
  have h1 := JActB.new w A
  have g2 := World.grownBy_alloc (w.alloc (.cells #[.int .i64 A.lo, .int .i64 A.hi, .int .i64 A.by_, .bool A.gr] 29 (0, 0))) (.cells #[.int .i64 B.lo, .int .i64 B.hi, .int .i64 B.by_, .bool B.gr] 29 (0, 0)) none
  have h2 := JActB.new (w.alloc (.cells #[.int .i64 A.lo, .int .i64 A.hi, .int .i64 A.by_, .bool A.gr] 29 (0, 0))) B
  rw [World.size_alloc] at h2
  exact ⟨JActB.grow h1 (grown_dr g2), h2, grown_dr (grown_al (World.grownBy_alloc w _ none))⟩
theorem sumJ_zeros (k : Nat) : sumJ (List.replicate k 0) = 0 := by
  unfold sumJ
  induction k with
  | zero => rfl
  | succ k ih => rw [List.replicate_succ, List.foldl_cons]; exact ih
theorem own_one {g n c b : Nat} (e : (Value.slice (some ⟨g, 0, none⟩) n c).ownBlock = some b) : g = b := by simpa [Value.ownBlock] using e
/-- 'append(up, Act{..})', run, behind the block in which the act is laid. -/
theorem run_japush (w : World) {base : Nat} {v : Value} {U : List JA} (h : JaOwn w base v U) (x : JA) (hl : U.length ≤ 1000000) (hbase : base ≤ w.heap.size) (y : Nat) (hy : w.heap[y]? = some (.cells #[.int .i64 x.lo, .int .i64 x.hi, .int .i64 x.by_, .bool false] 29 (0, 0))) :
    ∃ g c w', (∀ ty, (Builtin.append_ #[22, 22] ty #[v, .slice (some ⟨y, 0, none⟩) 1 1]).run Try.prog w = .ok (.slice (some ⟨g, 0, none⟩) (U.length + 1) c) w') ∧
      JaOwn w' base (.slice (some ⟨g, 0, none⟩) (U.length + 1) c) (U ++ [x]) ∧ w.grownBy w' v.ownBlock ∧ (v.ownBlock = some g ∨ w.heap.size ≤ g) := by
  obtain ⟨i0, hi, hz0, hz1, hz2⟩ := info_parts info_jact
  obtain ⟨g, c, w', h1, h2, h3, h4, h5⟩ := run_append_lies (P := Try.prog) w 22 22 base 29 i0 (.agg #[.int .i64 0, .int .i64 0, .int .i64 0, .bool false]) 4 32 Try.underlying22 hi hz0 hz1 hz2 rfl (by decide) v U.length (U.flatMap jaCells) h ⟨y, 0, none⟩ 1 1 (jaCells x) rfl
    (fun j u hj => by rw [Addr.add_mid, Nat.zero_add, cell_of_row _ _ _ _ _ _ hy]; simpa [jaCells] using hj) (fun u hu => ja_ones [x] u (by simpa using hu)) (by omega) (by unfold maxLen; omega) (by omega) hbase w.heap.size rfl
  refine ⟨g, c, w', fun _ => h1, ?_, h3, ?_⟩
  · unfold JaOwn OwnOf
    simp only [List.length_append, List.length_cons, List.length_nil, List.flatMap_append, List.flatMap_cons, List.flatMap_nil, List.append_nil]
    exact h2
  · rcases h4 with h4 | h4
    · exact .inl h4
    · exact .inr (by omega)
end Go.Proofs.Ytohealhkgmagmaa
