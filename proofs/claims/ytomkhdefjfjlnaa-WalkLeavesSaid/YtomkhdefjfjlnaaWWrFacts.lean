/- WalkWrites: what its calls tell, in numbers; a word that is stored back; the pages of eight frames. -/
import Derived.Test.YtomkhdefjfjlnaaWWalks
namespace Go.Proofs.Ytomkhdefjfjlnaa
open Go.ChangeShapes Go.WideShapes Go.ChangeAt Go.RowKit Go.Deep
open Extern.Stop (cell)
set_option linter.unusedVariables false

theorem wordOf_get : ∀ (xs : List UInt8) (k : Nat), k < xs.length → UInt8.ofNat (wordOf xs / 256 ^ k) = xs.getD k 0
  | [], k, h => by simp at h
  | b :: r, 0, _ => by
    show UInt8.ofNat ((b.toNat + 256 * wordOf r) / 256 ^ 0) = b
    rw [Nat.pow_zero, Nat.div_one]
    have hb := b.toNat_lt
    apply UInt8.toNat_inj.1
    simp
  | b :: r, k + 1, h => by
    have ih := wordOf_get r k (by simpa using h)
    show UInt8.ofNat ((b.toNat + 256 * wordOf r) / 256 ^ (k + 1)) = r.getD k 0
    have hb := b.toNat_lt
    have e : (b.toNat + 256 * wordOf r) / 256 ^ (k + 1) = wordOf r / 256 ^ k := by
      rw [Nat.pow_succ, Nat.mul_comm (256 ^ k) 256, ← Nat.div_div_eq_div_mul]
      congr 1
      omega
    rw [e, ih]

theorem bytesOf_wordOf (xs : List UInt8) (h : xs.length = 8) : bytesOf (wordOf xs) = xs := by
  apply List.ext_getElem?
  intro k
  by_cases hk : k < 8
  · rw [bytesOf_get _ _ hk, wordOf_get xs k (by omega)]
    simp [List.getD, List.getElem?_eq_getElem (show k < xs.length by omega)]
  · rw [List.getElem?_eq_none (by rw [bytesOf_length]; omega), List.getElem?_eq_none (by omega)]

theorem splice_self {L : List UInt8} {o : Nat} (h : o + 8 ≤ L.length) : splice L o ((L.drop o).take 8) = L := by
  have hl : ((L.drop o).take 8).length = 8 := by simp; omega
  apply List.ext_getElem?
  intro j
  rw [get_splice _ _ _ (by rw [hl]; exact h), hl]
  split
  · rfl
  · split
    · rw [List.getElem?_take, if_pos (by omega), List.getElem?_drop]
      congr 1
      omega
    · rfl
theorem splice_twice {L xs ys : List UInt8} {o : Nat} (h : o + xs.length ≤ L.length) (e : ys.length = xs.length) : splice (splice L o xs) o ys = splice L o ys := by
  apply List.ext_getElem?
  intro j
  rw [get_splice _ _ _ (by rw [length_splice _ _ _ h, e]; exact h), get_splice _ _ _ h, get_splice _ _ _ (by rw [e]; exact h), e]
  repeat' split
  all_goals rfl

theorem setL_back {n : Nat} {L : List UInt8} {f i v : Int} (hl : L.length = n * 4096) (hf : 0 ≤ f ∧ f < n) (hi : 0 ≤ i ∧ i < 512) : setL n (setL n L f i v) f i (wordI n L f i) = L ∧ setL n L f i (wordI n L f i) = L := by
  have hb : f.toNat * 4096 + i.toNat * 8 + 8 ≤ L.length := by omega
  have hx : (wordI n L f i).toNat = wordOf ((L.drop (f.toNat * 4096 + i.toNat * 8)).take 8) := by
    unfold wordI wordV
    rw [if_pos ⟨hf, hi⟩]
    rfl
  have h8 : ((L.drop (f.toNat * 4096 + i.toNat * 8)).take 8).length = 8 := by simp; omega
  have e1 : ∀ M : List UInt8, setL n M f i (wordI n L f i) = splice M (f.toNat * 4096 + i.toNat * 8) ((L.drop (f.toNat * 4096 + i.toNat * 8)).take 8) := fun M => by
    unfold setL
    rw [if_pos ⟨hf, hi⟩, hx, bytesOf_wordOf _ h8]
  have e2 : setL n L f i v = splice L (f.toNat * 4096 + i.toNat * 8) (bytesOf v.toNat) := by unfold setL; rw [if_pos ⟨hf, hi⟩]
  refine ⟨?_, ?_⟩
  · rw [e1, e2, splice_twice (by rw [bytesOf_length]; exact hb) (by rw [h8, bytesOf_length]), splice_self hb]
  · rw [e1, splice_self hb]

theorem Tabs.look {L : List UInt8} (h : Tabs L) {k F P : Int} (hk : 0 ≤ k ∧ k < 512) (hw : flagOf (wordI 8 L 2 k) = F ∧ ppnOf (wordI 8 L 2 k) = P) : lookV 8 L k (placeOf 8 L 0 k) = .tuple #[.agg #[.int .i64 F, .int .i64 P], .bool true] := by
  rw [h.place k hk]
  show Value.tuple #[.agg #[.int .i64 (flagOf (wordI 8 L 2 (indexOf k 0))), .int .i64 (ppnOf (wordI 8 L 2 (indexOf k 0)))], .bool true] = _
  have : indexOf k 0 = k := by show k % 512 = k; omega
  rw [this, hw.1, hw.2]

theorem may_leaf {F a : Int} {u : Bool} (h : mayOf F a u = true) : kindOf F = 2 := by
  unfold mayOf at h
  simp at h
  exact h.1.1

theorem writes_facts (k fl a : Int) (u : Bool) (hk : 0 ≤ k ∧ k < 512) (hfl : 0 ≤ fl ∧ fl < 256) (LL : List UInt8) (hT : Tabs LL) (hw : wordI 8 LL 2 k = encOf fl 3) (hl : LL.length = 8 * 4096) :
    ∃ (L2 : List UInt8) (pw pf pa F2 : Int), lookV 8 LL k (placeOf 8 LL 0 k) = .tuple #[.agg #[.int .i64 fl, .int .i64 3], .bool true] ∧
      walkV 8 LL 0 (k * 4096 + 5) a u = .tuple #[.int .i64 pw, .int .i64 pf, .int .i64 pa] ∧ walkL 8 LL 0 (k * 4096 + 5) a u = L2 ∧
      lookV 8 L2 k (placeOf 8 L2 0 k) = .tuple #[.agg #[.int .i64 F2, .int .i64 3], .bool true] ∧ setL 8 L2 2 k (encOf fl 3) = LL ∧
      ((mayOf fl a u = true ∧ pw = 0 ∧ pf = 3 ∧ pa = 5 ∧ F2 = markF fl a) ∨ (mayOf fl a u = false ∧ pw ≠ 0 ∧ F2 = fl)) := by
  have h5 : (0 : Int) ≤ 5 ∧ (5 : Int) < 4096 := by decide
  have ef : flagOf (encOf fl 3) = fl := by unfold flagOf encOf; omega
  have ep : ppnOf (encOf fl 3) = 3 := by unfold ppnOf encOf; omega
  have hV := hT.walkV (a := a) (u := u) hk h5
  have hL := hT.walkL (a := a) (u := u) hk h5
  have hT2 := hT.walk (a := a) (u := u) hl hk h5
  have hlk := hT.look hk (F := fl) (P := 3) (by rw [hw]; exact ⟨ef, ep⟩)
  rw [hw] at hV hL
  cases hm : mayOf fl a u with
  | true =>
    have p0 : pageWay (encOf fl 3) a u = 0 := by
      unfold pageWay
      rw [ef, ep, if_neg (by simp [may_leaf hm]), if_neg (by simp [hm])]
    rw [if_pos p0, ep] at hV
    rw [if_pos p0] at hL
    refine ⟨_, 0, 3, 5, markF fl a, hlk, hV, rfl, ?_, ?_, .inl ⟨rfl, rfl, rfl, rfl, rfl⟩⟩
    · refine hT2.look hk ?_
      rw [hL, wordI_set hl (by decide) hk (okU_mark _ _ (okU_encOf _ _)), if_pos ⟨rfl, rfl⟩, mark_flag _ _ (okU_encOf _ _), mark_ppn _ _ (okU_encOf _ _), ef, ep]
      exact ⟨rfl, rfl⟩
    · rw [hL, ← hw]
      exact (setL_back hl (by decide) hk).1
  | false =>
    have p0 : pageWay (encOf fl 3) a u ≠ 0 := by
      unfold pageWay
      rw [ef, ep]
      split
      · decide
      · decide
    rw [if_neg p0] at hV hL
    refine ⟨_, _, 0, 0, fl, hlk, hV, rfl, ?_, ?_, .inr ⟨rfl, p0, rfl⟩⟩
    · rw [hL]; exact hlk
    · rw [hL, ← hw]
      exact (setL_back (v := 0) hl (by decide) hk).2

theorem or_same (f k : Int) (hf : 0 ≤ f ∧ f < 512) (hk : 0 ≤ k ∧ k < 512) : bits .or .i64 f k = bits .or .u64 f k := by
  obtain ⟨a, rfl⟩ := Int.eq_ofNat_of_zero_le hf.1
  obtain ⟨b, rfl⟩ := Int.eq_ofNat_of_zero_le hk.1
  rw [bits_or_u64_nat a b (by omega) (by omega)]
  exact (bits_nat .i64 63 (by decide) (fun n h0 h1 => by rw [IntKind.wrap_i64]; omega) a b (by omega) (by omega)).2
theorem want_mark (fl a : Int) (hfl : 0 ≤ fl ∧ fl < 256) : (a = 2 → bits .or .i64 (bits .or .i64 fl 64) 128 = markF fl a) ∧ (a ≠ 2 → bits .or .i64 fl 64 = markF fl a) := by
  have hu : okU fl := ⟨by omega, by omega⟩
  have e1 := or_64 fl hu
  have e0 := or_same fl 64 (by omega) (by decide)
  have hb : 0 ≤ bits .or .u64 fl 64 ∧ bits .or .u64 fl 64 < 512 := by rw [e1]; split <;> omega
  refine ⟨fun ha => ?_, fun ha => ?_⟩
  · rw [e0, or_same _ 128 hb (by decide), or_128 _ ⟨by omega, by omega⟩, e1]
    unfold markF
    rw [if_pos ha]
    repeat' split
    all_goals omega
  · rw [e0, e1]
    unfold markF
    rw [if_neg ha]
    omega

/-- The array of pages: the first q are the pages of L. -/
structure Pages8 (wr : World) (x d q : Nat) (L : List UInt8) : Prop where
  block : ∃ cur, wr.heap[x]? = some (.cells cur 56 (0, 0)) ∧ cur.size = 8 ∧ ∀ j, j < q → ∃ p, cur[j]? = some (.slice (some ⟨p, 0, none⟩) 4096 4096) ∧ p ≠ d ∧ p ≠ x ∧ wr.heap[p]? = some (.cells ((pageOf L j).map cell).toArray 102 (0, 0))

theorem Pages8.kept {wr w' : World} {x d q : Nat} {L : List UInt8} (h : Pages8 wr x d q L) (hx : x ≠ d) (G : wr.grownBy w' (some d)) : Pages8 w' x d q L := by
  obtain ⟨cur, hc, hs, hp⟩ := h.block
  refine ⟨cur, blk_kept hc G (by simpa using Ne.symm hx), hs, fun j hj => ?_⟩
  obtain ⟨p, h1, h2, h3, h4⟩ := hp j hj
  exact ⟨p, h1, h2, h3, blk_kept h4 G (by simpa using Ne.symm h2)⟩

theorem Pages8.put {wr : World} {x d q p : Nat} {L : List UInt8} (h : Pages8 wr x d q L) (hq : q < 8) (hpd : p ≠ d) (hpx : p ≠ x) (hp : wr.heap[p]? = some (.cells ((pageOf L q).map cell).toArray 102 (0, 0))) :
    Pages8 (wr.setCell ⟨x, q, none⟩ (.slice (some ⟨p, 0, none⟩) 4096 4096)) x d (q + 1) L := by
  obtain ⟨cur, hc, hs, hpp⟩ := h.block
  refine ⟨_, heap_setCell_same wr x q cur _ _ hc, by simpa using hs, fun j hj => ?_⟩
  by_cases hjq : j = q
  · subst hjq
    refine ⟨p, by simp [Array.getElem?_setIfInBounds, hs, hq], hpd, hpx, ?_⟩
    rw [heap_setCell_other _ _ _ _ (by simpa using hpx)]; exact hp
  · obtain ⟨p', h1, h2, h3, h4⟩ := hpp j (by omega)
    refine ⟨p', by rw [Array.getElem?_setIfInBounds, if_neg (Ne.symm hjq)]; exact h1, h2, h3, ?_⟩
    rw [heap_setCell_other _ _ _ _ (by simpa using h3)]; exact h4

theorem Pages8.spot {wr : World} {x d q : Nat} {L : List UInt8} (h : Pages8 wr x d q L) (j : Nat) (hj : j < 8) : (∃ u, wr.cell? ⟨x, j, none⟩ = some u) ∧ wr.frozen? ⟨x, j, none⟩ = false := by
  obtain ⟨cur, hc, hs, _⟩ := h.block
  exact ⟨⟨_, by rw [cell_of_row _ _ _ _ _ _ hc]; exact Array.getElem?_eq_getElem (by omega)⟩, frozen_of_row _ _ _ _ _ hc⟩

theorem Pages8.told {wr : World} {x d q : Nat} {L : List UInt8} (h : Pages8 wr x d q L) (j : Nat) (hj : j < q) : ∃ p, p ≠ d ∧ wr.cell? ⟨x, j, none⟩ = some (.slice (some ⟨p, 0, none⟩) 4096 4096) ∧ wr.heap[p]? = some (.cells ((pageOf L j).map cell).toArray 102 (0, 0)) := by
  obtain ⟨cur, hc, hs, hp⟩ := h.block
  obtain ⟨p, h1, h2, h3, h4⟩ := hp j hj
  exact ⟨p, h2, by rw [cell_of_row _ _ _ _ _ _ hc]; exact h1, h4⟩
theorem Pages8.lt {wr : World} {x d q : Nat} {L : List UInt8} (h : Pages8 wr x d q L) : x < wr.heap.size := by
  obtain ⟨cur, hc, _⟩ := h.block; exact (Array.getElem?_eq_some_iff.1 hc).1
end Go.Proofs.Ytomkhdefjfjlnaa
