/- Layer 13: a new amap, whichever of its two parts is made first; loops that turn an amap's anons; what Drop and Copy answer. -/
import Derived.Test.YtfmihbiongnpnaaAMem
namespace Go.Proofs.Ytfmihbiongnpnaa
open Go.ChangeShapes Go.WideShapes Go.ChangeAt Go.RowKit Go.Deep
set_option linter.unusedVariables false

theorem zown_new {w w' : World} {k : Nat} {X : Array Value} {g : Nat} (hg : w'.heap[g]? = some (.cells X 3 (0, 0))) (hXl : X.toList = (List.replicate k 0).flatMap zCells) (hXs : X.size = k * 1) (hk : k ≤ 4096) : ZOwn w' 0 (.slice (some ⟨g, 0, none⟩) k k) (List.replicate k 0) :=
  ⟨by rw [flat_len zCells 1 z_len], .inr ⟨g, k, X, by rw [List.length_replicate], Nat.zero_le _, hg, by rw [List.length_replicate]; exact Nat.le_refl _, by unfold maxLen; omega, hXs, by rw [List.length_replicate, ← hXl, List.take_of_length_le (by simp [hXs])]⟩⟩
/-- A new amap, its counts still bare. -/
theorem amb_new {D : CD} (H : StOk D) {t : TypeId} {wx : World} {cp g a k : Nat} {O : List Nat} {X : Array Value} (hd : D wx cp (List.replicate k 0) O) (hg : wx.heap[g]? = some (.cells X 3 (0, 0))) (hXl : X.toList = (List.replicate k 0).flatMap zCells) (hXs : X.size = k * 1) (hk : k ≤ 4096) (hgO : g ∉ O) (ha : wx.heap.size = a) :
    AmB D t (wx.alloc (.cells #[.pointer (some ⟨cp, 0, none⟩), .slice (some ⟨g, 0, none⟩) k k] t (0, 0))) ⟨List.replicate k 0, List.replicate k 0⟩ ⟨a, cp, g, O⟩ := by
  subst ha
  have ga := World.grownBy_alloc wx (.cells #[.pointer (some ⟨cp, 0, none⟩), .slice (some ⟨g, 0, none⟩) k k] t (0, 0)) none
  have hgl : g < wx.heap.size := (Array.getElem?_eq_some_iff.1 hg).1
  refine ⟨?_, H.grow hd ga, ?_, by show wx.heap.size ≠ g; omega, fun hm => by have h1 := H.lt hd _ hm; exact Nat.lt_irrefl _ h1, hgO⟩
  · show _ = some (Obj.cells #[_, .slice _ (List.replicate k (0 : Int)).length (List.replicate k (0 : Int)).length] _ _)
    rw [List.length_replicate]
    exact heap_alloc_new wx _
  · show ZOwn _ _ (.slice _ (List.replicate k (0 : Int)).length (List.replicate k (0 : Int)).length) _
    rw [List.length_replicate]
    exact zown_new (w := wx) ((ga.block g hgl (by simp)).trans hg) hXl hXs hk

/-- The anons' block is made behind the counts, or ahead of them. -/
theorem made_after {D : CD} (H : StOk D) (t : TypeId) {w w2 w3 : World} {cq k : Nat} {Oq : List Nat} {X : Array Value} (g2 : w.grownBy w2 none) (h3 : D w3 cq (List.replicate k 0) Oq) (g3 : w2.grownBy w3 none) (o3 : ∀ b, b ∈ Oq → w2.heap.size ≤ b) (hXl : X.toList = (List.replicate k 0).flatMap zCells) (hXs : X.size = k * 1) (hk : k ≤ 4096) :
    Hid (AmB D t ((w3.alloc (.cells X 3 (0, 0))).alloc (.cells #[.pointer (some ⟨cq, 0, none⟩), .slice (some ⟨w3.heap.size, 0, none⟩) k k] t (0, 0))) ⟨List.replicate k 0, List.replicate k 0⟩ ⟨w3.heap.size + 1, cq, w3.heap.size, Oq⟩) ∧
    Hid (w.grownBy ((w3.alloc (.cells X 3 (0, 0))).alloc (.cells #[.pointer (some ⟨cq, 0, none⟩), .slice (some ⟨w3.heap.size, 0, none⟩) k k] t (0, 0))) none) ∧ Hid (∀ b, b ∈ AmP.blk ⟨w3.heap.size + 1, cq, w3.heap.size, Oq⟩ → w.heap.size ≤ b) := by
  have ga := World.grownBy_alloc w3 (.cells X 3 (0, 0)) none
  have s1 := g2.size
  have s2 := g3.size
  refine ⟨amb_new H (H.grow h3 ga) (heap_alloc_new w3 _) hXl hXs hk (fun hm => Nat.lt_irrefl _ (H.lt h3 _ hm)) (World.size_alloc _ _), grown_trans g2 (grown_trans g3 (grown_trans ga (World.grownBy_alloc _ _ none))), fun b hb => ?_⟩
  rcases AmP.mem.1 hb with e | e | e
  · have e : b = w3.heap.size + 1 := e; omega
  · have e : b = w3.heap.size := e; omega
  · have := o3 b e; omega
theorem made_before {D : CD} (H : StOk D) (t : TypeId) {w w2 w3 : World} {cq k : Nat} {Oq : List Nat} {X : Array Value} (g2 : w.grownBy w2 none) (h3 : D w3 cq (List.replicate k 0) Oq) (g3 : (w2.alloc (.cells X 3 (0, 0))).grownBy w3 none) (o3 : ∀ b, b ∈ Oq → (w2.alloc (.cells X 3 (0, 0))).heap.size ≤ b) (hXl : X.toList = (List.replicate k 0).flatMap zCells) (hXs : X.size = k * 1) (hk : k ≤ 4096) :
    Hid (AmB D t (w3.alloc (.cells #[.pointer (some ⟨cq, 0, none⟩), .slice (some ⟨w2.heap.size, 0, none⟩) k k] t (0, 0))) ⟨List.replicate k 0, List.replicate k 0⟩ ⟨w3.heap.size, cq, w2.heap.size, Oq⟩) ∧
    Hid (w.grownBy (w3.alloc (.cells #[.pointer (some ⟨cq, 0, none⟩), .slice (some ⟨w2.heap.size, 0, none⟩) k k] t (0, 0))) none) ∧ Hid (∀ b, b ∈ AmP.blk ⟨w3.heap.size, cq, w2.heap.size, Oq⟩ → w.heap.size ≤ b) := by
  have ga := World.grownBy_alloc w2 (.cells X 3 (0, 0)) none
  have hs := World.size_alloc w2 (.cells X 3 (0, 0))
  have s1 := g2.size
  have s2 := g3.size
  refine ⟨amb_new H h3 ((g3.block w2.heap.size (by rw [hs]; omega) (by simp)).trans (heap_alloc_new w2 _)) hXl hXs hk (fun hm => by have := o3 _ hm; omega) rfl, grown_trans g2 (grown_trans ga (grown_trans g3 (World.grownBy_alloc _ _ none))), fun b hb => ?_⟩
  rcases AmP.mem.1 hb with e | e | e
  · have e : b = w3.heap.size := e; omega
  · have e : b = w2.heap.size := e; omega
  · have := o3 b e; omega

theorem turnA_nat {L : AmL} {i : Nat} {x : Option AmV} : turnA L ((i : Int) + 1) x = L.set i x := by unfold turnA; rw [show ((i : Int) + 1 - 1).toNat = i by omega]
/-- In a loop that turns the anons of one amap, and makes a row. -/
structure LoopA (D : CD) (t : TypeId) (w5 wr : World) (P : AmP) (x : AmV) (v : Value) (out : List Int) : Prop where
  am : AmB D t wr x P
  own : ZOwn wr w5.heap.size v out
  turn : Turn [P.g] w5 wr
  old : ∀ b, b ∈ P.blk → b < w5.heap.size
section
variable {D : CD} {t : TypeId} {w5 wr w9 : World} {P : AmP} {x : AmV} {v v9 : Value} {out out9 : List Int}
theorem LoopA.start (H : StOk D) (h : AmB D t w5 x P) : LoopA D t w5 w5 P x (.slice none 0 0) [] := ⟨h, OwnOf.nil _ _, Turn.refl _ _, h.lt H⟩
theorem LoopA.gle (h : LoopA D t w5 wr P x v out) : P.g < w5.heap.size := h.old _ (AmP.mem.2 (.inr (.inl rfl)))
theorem LoopA.app (H : StOk D) {o : Obj} (h : LoopA D t w5 wr P x v out) (k : (wr.alloc o).grownBy w9 v.ownBlock) (hown : ZOwn w9 w5.heap.size v9 out9) : LoopA D t w5 w9 P x v9 out9 := by
  have ga := World.grownBy_alloc wr o none
  have hv : ∀ b, v.ownBlock = some b → w5.heap.size ≤ b := fun b e => (OwnOf.lt h.own e).1
  have hs := Nat.le_trans ga.size k.size
  refine ⟨h.am.kept H hs fun b hb => ?_, hown, ?_, h.old⟩
  · have h1 := h.old b hb
    have h2 := h.am.lt H b hb
    exact (k.block b (Nat.lt_of_lt_of_le h2 ga.size) fun e => by have := hv b e.symm; omega).trans (ga.block b h2 (by simp))
  · refine ⟨k.os.trans (ga.os.trans h.turn.os), k.tape.trans (ga.tape.trans h.turn.tape), k.output.trans (ga.output.trans h.turn.output), Nat.le_trans h.turn.size hs, fun b hb hO => ?_⟩
    have h2 := Nat.lt_of_lt_of_le hb h.turn.size
    exact ((k.block b (Nat.lt_of_lt_of_le h2 ga.size) fun e => by have := hv b e.symm; omega).trans (ga.block b h2 (by simp))).trans (h.turn.block b hb hO)
theorem LoopA.grow (H : StOk D) (h : LoopA D t w5 wr P x v out) (k : wr.grownBy w9 none) : LoopA D t w5 w9 P x v out := ⟨h.am.grow H k, OwnOf.grow h.own k, h.turn.trans' (Turn.grown k), h.old⟩
theorem LoopA.set (H : StOk D) (h : LoopA D t w5 wr P x v out) (j : Nat) (z : Int) : LoopA D t w5 (wr.setCell ⟨P.g, j, none⟩ (.int .i64 z)) P ⟨x.cs, x.as.set j z⟩ v out := by
  refine ⟨h.am.set H j z, OwnOf.kept h.own fun b e => heap_setCell_other wr ⟨P.g, j, none⟩ b _ ?_, h.turn.trans' (Turn.setCell [P.g] wr P.g j _ (by simp)), h.old⟩
  have h1 := (OwnOf.lt h.own e).1
  have h2 := h.gle
  first
    | exact fun e => by (have e : P.g = b := e); omega
    | exact fun e => by (have e : b = P.g := e); omega
end
theorem drop_eq {L : AmL} {i : Nat} {x : AmV} {lo hi : Int} (hx : L[i]? = some (some x)) (hs : spanA x lo hi) (hm : mayJ x.cs lo hi (-1)) : dropA L ((i : Int) + 1) lo hi = ⟨0, outA x.as (goneJ x.cs lo hi (-1)), 0, L.set i (if sumJ (moreJ x.cs lo hi (-1)) = 0 then none else some ⟨moreJ x.cs lo hi (-1), wipeA x.as (goneJ x.cs lo hi (-1))⟩)⟩ := by
  unfold dropA
  rw [ofA_at hx]
  simp only
  rw [if_pos ⟨hs, hm⟩, turnA_nat]
theorem drop_no {L : AmL} {i : Nat} {x : AmV} {lo hi : Int} (hx : L[i]? = some (some x)) (hs : ¬ (spanA x lo hi ∧ mayJ x.cs lo hi (-1))) : dropA L ((i : Int) + 1) lo hi = ⟨0, [], 2, L⟩ := by
  unfold dropA
  rw [ofA_at hx]
  simp only
  rw [if_neg hs]
theorem set_same {L : AmL} {i : Nat} {x : AmV} (hx : L[i]? = some (some x)) : L.set i (some x) = L := by
  refine List.ext_getElem? fun j => ?_
  rw [List.getElem?_set]
  by_cases e : i = j
  · subst e
    rw [if_pos rfl, if_pos (List.getElem?_eq_some_iff.1 hx).1, hx]
  · rw [if_neg e]
/-- What a Drop answers. -/
def DropR (D : World → Nat → Nat → AmL → List Nat → Prop) (w : World) (q most : Nat) (O : List Nat) (r : AR) (e : Ending) (w' : World) : Prop :=
  ∃ u, e = .returned (.tuple #[u, .int .i64 r.e]) ∧ RowOf zCells 1 w' u r.l ∧ (∀ b, u.ownBlock = some b → w.heap.size ≤ b) ∧ ALa D w w' q most O r.L
/-- A part copied, as far as it is. -/
def fillA (zs : List Int) (lo : Int) (k t : Nat) : List Int := partA zs lo (lo + t) ++ List.replicate (k - t) 0
section
variable {zs : List Int} {lo hi : Int} {k t j : Nat}
theorem fill_none : fillA zs lo k 0 = List.replicate k 0 := by unfold fillA; rw [show (lo + (0 : Nat)) = lo by omega, part_none]; rfl
theorem fill_all (hk : hi - lo = k) : fillA zs lo k k = partA zs lo hi := by unfold fillA; rw [Nat.sub_self, show lo + (k : Int) = hi by omega]; simp
theorem fill_len (h0 : 0 ≤ lo) (h : lo + k ≤ zs.length) (ht : t ≤ k) : (fillA zs lo k t).length = k := by
  unfold fillA
  rw [List.length_append, List.length_replicate, part_len (by omega) (by omega) (by omega)]
  omega
theorem fill_step (h0 : 0 ≤ lo) (h : lo + k ≤ zs.length) (ht : t < k) (hj : (j : Int) = lo + t) : (fillA zs lo k t).set t (zs.getD j 0) = fillA zs lo k (t + 1) := by
  have hp : (partA zs lo (lo + t)).length = t := by rw [part_len (by omega) (by omega) (by omega)]; omega
  have hs := part_step (lo := lo) (j := j) (by omega) (by omega) (show j < zs.length by omega)
  unfold fillA
  rw [List.set_append_right _ _ (by omega), hp, Nat.sub_self, show k - t = (k - (t + 1)) + 1 by omega, List.replicate_succ, List.set_cons_zero]
  rw [show (lo + ((t + 1 : Nat) : Int)) = (j : Int) + 1 by omega, hs, show (j : Int) = lo + t by omega, List.append_assoc]
  rfl
theorem part_more (h0 : 0 ≤ lo) (h : j < zs.length) (hj : (j : Int) = lo + t) : (partA zs lo (lo + ((t + 1 : Nat) : Int))).filter (fun x => x != 0) = (partA zs lo (lo + t)).filter (fun x => x != 0) ++ if zs.getD j 0 ≠ 0 then [zs.getD j 0] else [] := by
  have hs := part_step (lo := lo) (j := j) (by omega) (by omega) h
  rw [show (lo + ((t + 1 : Nat) : Int)) = (j : Int) + 1 by omega, hs, show (j : Int) = lo + t by omega, List.filter_append]
  congr 1
  by_cases e : zs.getD j 0 = 0
  · rw [if_neg (by omega), List.filter_cons_of_neg (by rw [e]; decide)]; rfl
  · rw [if_pos e, List.filter_cons_of_pos (by simpa using e)]; rfl
end
/-- What a Copy answers. -/
def CopyR (D : World → Nat → Nat → AmL → List Nat → Prop) (w : World) (q most : Nat) (O : List Nat) (r : AR) (e : Ending) (w' : World) : Prop :=
  ∃ u, e = .returned (.tuple #[.int .i64 r.n, u, .int .i64 r.e]) ∧ RowOf zCells 1 w' u r.l ∧ (∀ b, u.ownBlock = some b → w.heap.size ≤ b) ∧ ALa D w w' q most O r.L
theorem copy_eq {L : AmL} {most i : Nat} {x : AmV} {lo hi : Int} {k : Nat} (hx : L[i]? = some (some x)) (hs : spanA x lo hi) (hk : hi - lo = k) (hr : ¬ most ≤ (idsA L).length) : copyA most L ((i : Int) + 1) lo hi = ⟨(firstA L : Int) + 1, (partA x.as lo hi).filter fun x => x != 0, 0, putA L (firstA L) (some ⟨List.replicate k 1, partA x.as lo hi⟩)⟩ := by
  unfold copyA
  rw [ofA_at hx]
  simp only
  rw [if_pos hs, if_neg hr, hk, Int.toNat_natCast]
theorem copy_full {L : AmL} {most i : Nat} {x : AmV} {lo hi : Int} (hx : L[i]? = some (some x)) (hs : spanA x lo hi) (hr : most ≤ (idsA L).length) : copyA most L ((i : Int) + 1) lo hi = ⟨0, [], 5, L⟩ := by
  unfold copyA
  rw [ofA_at hx]
  simp only
  rw [if_pos hs, if_pos hr]
theorem copy_no {L : AmL} {most i : Nat} {x : AmV} {lo hi : Int} (hx : L[i]? = some (some x)) (hs : ¬ spanA x lo hi) : copyA most L ((i : Int) + 1) lo hi = ⟨0, [], 2, L⟩ := by
  unfold copyA
  rw [ofA_at hx]
  simp only
  rw [if_neg hs]
theorem put_set {L : AmL} {i : Nat} {x y : AmV} (h : i ≤ L.length) : (putA L i (some x)).set i (some y) = putA L i (some y) := by
  refine List.ext_getElem? fun j => ?_
  rw [List.getElem?_set, put_at h, put_at h, putA_len]
  by_cases e : i = j
  · subst e
    rw [if_pos rfl, if_pos rfl, if_pos (by split <;> omega)]
  · rw [if_neg e, if_neg (fun k => e k.symm), if_neg (fun k => e k.symm)]
theorem upd_upd {S : Nat → AmP} {i : Nat} {P Q : AmP} : updA (updA S i P) i Q = updA S i Q := by
  funext j
  unfold updA
  by_cases e : j = i
  · rw [if_pos e, if_pos e]
  · rw [if_neg e, if_neg e, if_neg e]
end Go.Proofs.Ytfmihbiongnpnaa
