/- What package swap must be shown to say of its devices (D: a device by its plain state and its blocks); the document's in the same words; the example. -/
import Derived.Test.YtnfofhnjeinmfaaVRef3
namespace Go.Proofs.Ytnfofhnjeinmfaa
open Go.ChangeShapes Go.WideShapes Go.ChangeAt Go.RowKit Go.Deep
open Extern.Stop (cell)
set_option linter.unusedVariables false

structure SwOk (D : World → Nat → VS → List Nat → Prop) : Prop where
  lt : ∀ {w p s O}, D w p s O → ∀ b, b ∈ O → b < w.heap.size
  kept : ∀ {w w' p s O}, D w p s O → w.heap.size ≤ w'.heap.size → (∀ b, b ∈ O → w'.heap[b]? = w.heap[b]?) → D w' p s O
  new : ∀ (w : World) (n : Nat), n ≤ 256 → Calls Try.prog 10 #[.int .i64 n] w fun e w' => ∃ p O, e = .returned (.pointer (some ⟨p, 0, none⟩)) ∧ D w' p (newV n) O ∧ w.grownBy w' none ∧ ∀ b, b ∈ O → w.heap.size ≤ b
  newNo : ∀ (w : World) (n : Int), ¬ (0 ≤ n ∧ n ≤ 256) → Calls Try.prog 10 #[.int .i64 n] w fun e w' => e = .returned (.pointer none) ∧ w.grownBy w' none
  write : ∀ {w p s O k}, D w p s O → s.Ok k → k ≤ 1000000 → ∀ (i : Int) (a : Option Addr) (l c : Nat) (bs : List UInt8), okI i → Src w a l bs → l ≤ 1000000 → (0 < l → ∀ ad, a = some ad → ad.block ∉ O) →
    Calls Try.prog 12 #[.pointer (some ⟨p, 0, none⟩), .int .i64 i, .slice a l c] w fun e w' => e = .returned (.int .i64 (writeV s i bs).1) ∧ VLeft D w w' p O (writeV s i bs).2
  read : ∀ {w p s O k}, D w p s O → s.Ok k → k ≤ 1000000 → ∀ i, okI i → Calls Try.prog 15 #[.pointer (some ⟨p, 0, none⟩), .int .i64 i] w fun e w' => ∃ u O', e = .returned (.tuple #[u, .int .i64 (readV s i).1]) ∧ D w' p (readV s i).2.2 O' ∧ Turn O w w' ∧ (∀ b, b ∈ O' → b ∈ O ∨ w.heap.size ≤ b) ∧ Fresh w w' O' u (readV s i).2.1
  plan : ∀ {w p s O k}, D w p s O → s.Ok k → ∀ b n, okI n → Calls Try.prog 18 #[.pointer (some ⟨p, 0, none⟩), .bool b, .int .i64 n] w fun e w' => e = .returned (.int .i64 (planV s b n).1) ∧ VLeft D w w' p O (planV s b n).2
  count : ∀ {w p s O}, D w p s O → Calls Try.prog 20 #[.pointer (some ⟨p, 0, none⟩)] w fun e w' => e = .returned (.tuple #[.int .i64 s.cw, .int .i64 s.cr]) ∧ w.grownBy w' none
  places : ∀ {w p s O}, D w p s O → Calls Try.prog 23 #[.pointer (some ⟨p, 0, none⟩)] w fun e w' => e = .returned (.int .i64 (s.L.length : Int)) ∧ w.grownBy w' none
  peek : ∀ {w p s O k}, D w p s O → s.Ok k → ∀ i, okI i → Calls Try.prog 21 #[.pointer (some ⟨p, 0, none⟩), .int .i64 i] w fun e w' => ∃ u, e = .returned u ∧ Fresh w w' O u (peekV s i) ∧ w.grownBy w' none

section
variable {D : World → Nat → VS → List Nat → Prop} {w w' w2 : World} {p : Nat} {s s' : VS} {O O2 : List Nat} {k : Int}
theorem SwOk.grow (H : SwOk D) (h : D w p s O) (g : w.grownBy w' none) : D w' p s O := H.kept h g.size fun b hb => g.block b (H.lt h b hb) (by simp)
theorem SwOk.turn (H : SwOk D) (h : D w p s O) (g : Turn O2 w w') (ho : ∀ b, b ∈ O → b ∉ O2) : D w' p s O := H.kept h g.size fun b hb => g.block b (H.lt h b hb) (ho b hb)

/-- A device of the law's own. -/
structure LV (D : World → Nat → VS → List Nat → Prop) (w wx : World) (p : Nat) (s : VS) (O : List Nat) (k : Int) : Prop where
  d : D wx p s O
  own : ∀ b, b ∈ O → w.heap.size ≤ b
  grown : w.grownBy wx none
  ok : s.Ok k
theorem LV.grow (H : SwOk D) (h : LV D w w' p s O k) (g : w'.grownBy w2 none) : LV D w w2 p s O k := ⟨H.grow h.d g, h.own, grown_trans h.grown g, h.ok⟩
theorem LV.left (h : LV D w w' p s O k) (t : VLeft D w' w2 p O s') {k' : Int} (hk : s'.Ok k') : ∃ O', LV D w w2 p s' O' k' ∧ Turn O w' w2 ∧ ∀ b, b ∈ O' → b ∈ O ∨ w'.heap.size ≤ b := by
  obtain ⟨O', h2, t2, o2⟩ := t
  refine ⟨O', ⟨h2, fun b hb => ?_, ((Turn.grown h.grown).trans' t2).noGrown h.own, hk⟩, t2, o2⟩
  rcases o2 b hb with h3 | h3
  · exact h.own b h3
  · have := h.grown.size; omega
end

-- The document's, in the same words.
section
variable {w w' : World} {q : Nat} {s : VS} {O : List Nat} {k : Int}
theorem rd_lt (h : RD w q s O) : ∀ b, b ∈ O → b < w.heap.size := by
  obtain ⟨v, P, rfl, h⟩ := h
  exact h.lt
theorem rd_kept (h : RD w q s O) (hb : ∀ b, b ∈ O → w'.heap[b]? = w.heap[b]?) : RD w' q s O := by
  obtain ⟨v, P, rfl, h⟩ := h
  exact ⟨v, P, rfl, h.kept hb⟩
theorem rd_q (h : RD w q s O) : q ∈ O := by
  obtain ⟨v, P, rfl, h⟩ := h
  simp [blocksV]
theorem rd_write (h : RD w q s O) (hk : s.Ok k) (hk2 : k ≤ 1000000) (i : Int) (a : Option Addr) (l c : Nat) (bs : List UInt8) (hs : Src w a l bs) (hl : l ≤ 1000000) (hne : 0 < l → ∀ ad, a = some ad → ad.block ∉ O) :
    Calls Try.prog 14 #[.pointer (some ⟨q, 0, none⟩), .int .i64 i, .slice a l c] w fun e w' => e = .returned (.int .i64 (writeV s i bs).1) ∧ VLeft RD w w' q O (writeV s i bs).2 := by
  have hq := rd_q h
  obtain ⟨v, P, rfl, h⟩ := h
  refine (rf_write h hk hk2 i a l c bs hs hl fun h0 ad e e2 => hne h0 ad e (e2 ▸ hq)).mono ?_
  rintro e w' ⟨rfl, v', P', h1, h2, h3⟩
  exact ⟨rfl, _, ⟨v', P', rfl, h1⟩, h2.mono fun b hb => by rw [List.mem_singleton.1 hb]; exact hq, h3⟩
theorem rd_read (h : RD w q s O) (hk : s.Ok k) (hk2 : k ≤ 1000000) (i : Int) :
    Calls Try.prog 16 #[.pointer (some ⟨q, 0, none⟩), .int .i64 i] w fun e w' => ∃ u, e = .returned (.tuple #[u, .int .i64 (readV s i).1]) ∧ VLeft RD w w' q O (readV s i).2.2 ∧ Fresh w w' O u (readV s i).2.1 := by
  have hq := rd_q h
  obtain ⟨v, P, rfl, h⟩ := h
  refine (rf_read h hk hk2 i).mono ?_
  rintro e w' ⟨u, rfl, h1, h2, h3⟩
  exact ⟨u, rfl, ⟨_, ⟨v, P, rfl, h2⟩, Turn.one h3 hq, fun b hb => .inl hb⟩, h1⟩
theorem rd_plan (h : RD w q s O) (b : Bool) (n : Int) :
    Calls Try.prog 19 #[.pointer (some ⟨q, 0, none⟩), .bool b, .int .i64 n] w fun e w' => e = .returned (.int .i64 (planV s b n).1) ∧ VLeft RD w w' q O (planV s b n).2 := by
  have hq := rd_q h
  obtain ⟨v, P, rfl, h⟩ := h
  refine (rf_plan h b n).mono ?_
  rintro e w' ⟨rfl, h2, h3⟩
  exact ⟨rfl, _, ⟨v, P, rfl, h2⟩, Turn.one h3 hq, fun b hb => .inl hb⟩
theorem rd_peek (h : RD w q s O) (i : Int) :
    Calls Try.prog 22 #[.pointer (some ⟨q, 0, none⟩), .int .i64 i] w fun e w' => ∃ u, e = .returned u ∧ Fresh w w' O u (peekV s i) ∧ w.grownBy w' none := by
  obtain ⟨v, P, rfl, h⟩ := h
  exact rf_peek h i
end

theorem lz1 : planV (newV 2) true 2 = (0, ⟨[pageZ, pageZ], 0, 2, 0, 0⟩) := rfl
theorem lz2 (a : List UInt8) (ha : a.length = 4096) : writeV ⟨[pageZ, pageZ], 0, 2, 0, 0⟩ 0 a = (0, ⟨[a, pageZ], 0, 1, 0, 1⟩) := by
  unfold writeV
  rw [if_pos ⟨⟨by decide, by show (0 : Int) < 2; decide⟩, ha⟩, if_neg (by show ¬ (2 : Int) = 1; decide)]
  rfl
theorem lz3 (a b : List UInt8) (hb : b.length = 4096) : writeV ⟨[a, pageZ], 0, 1, 0, 1⟩ 0 b = (6, ⟨[a, pageZ], 0, 0, 0, 2⟩) := by
  unfold writeV
  rw [if_pos ⟨⟨by decide, by show (0 : Int) < 2; decide⟩, hb⟩, if_pos rfl]
  rfl
theorem lz4 (a b : List UInt8) (hb : b.length = 4096) : writeV ⟨[a, pageZ], 0, 0, 0, 2⟩ 1 b = (0, ⟨[a, b], 0, 0, 0, 3⟩) := by
  unfold writeV
  rw [if_pos ⟨⟨by decide, by show (1 : Int) < 2; decide⟩, hb⟩, if_neg (by show ¬ (0 : Int) = 1; decide)]
  rfl
/-- A row of one byte that the law writes out. -/
theorem one_src (w : World) (x : Nat) (hx : x < 256) : Src (w.alloc (.cells #[.int .u8 (x : Int)] 5 (0, 0))) (some ⟨w.heap.size, 0, none⟩) 1 [UInt8.ofNat x] := by
  have h : (w.alloc (.cells #[.int .u8 (x : Int)] 5 (0, 0))).heap[w.heap.size]? = some (.cells (([UInt8.ofNat x]).map cell).toArray 5 (0, 0)) := by
    rw [heap_alloc_new w _]
    congr 3
    simp [cell]
    omega
  exact Src.of_block h

set_option maxRecDepth 100000 in
set_option maxHeartbeats 2000000 in
theorem lives9 {D : World → Nat → VS → List Nat → Prop} (H : SwOk D) (w : World) :
    Calls Try.prog 9 #[] w fun e w' => e = .returned (.bool true) ∧ w.grownBy w' none := by
  have HN := Lib.hid (H.new w 2 (by decide))
  have HT := Lib.hid H
  clear H
  go_enter Try.func9, Try.ntmps9
  go_wp2_with fail
  refine HN.out.mono ?_
  rintro e w1 ⟨p, O, rfl, h1, g1, o1⟩
  have H1 := Lib.hid (show LV D w w1 p (newV 2) O 0 from ⟨h1, o1, g1, newV_ok 2 (by decide)⟩)
  have hk := HT.out.plan h1 H1.out.ok true 2 (okS (by decide) (by decide))
  rw [lz1] at hk
  have HK := Lib.hid hk
  clear hk h1 g1 o1 HN
  go_wp2_with fail
  refine HK.out.mono ?_
  rintro e w2 ⟨rfl, h2⟩
  obtain ⟨O2, h2, -, -⟩ := H1.out.left h2 (k' := 0) (by have := H1.out.ok.plan (b := true) (n := 2) (okS (by decide) (by decide)); rw [lz1] at this; exact this)
  have H2 := Lib.hid h2
  have ga := World.grownBy_alloc w2 (.cells #[.int .u8 1] 5 (0, 0)) none
  have HP := Lib.hid (page_ok 1 (one_src w2 1 (by decide)) (by decide))
  have H2a := Lib.hid (h2.grow HT.out ga)
  clear h2 ga HK H1
  go_wp2_with fail
  refine HP.out.mono ?_
  rintro e w3 ⟨g, rfl, hg, hb, g3⟩
  have H3 := Lib.hid (H2a.out.grow HT.out g3)
  have hsrc := hb.src
  rw [fillOf_len] at hsrc
  have hk := HT.out.write H3.out.d H3.out.ok (by decide) 0 (some ⟨g, 0, none⟩) 4096 4096 (fillOf [UInt8.ofNat 1]) (okS (by decide) (by decide)) hsrc (by decide) (fun _ ad e hm => by cases e; have h9 := HT.out.lt H2a.out.d g hm; simp only [World.size_alloc] at h9 hg; omega)
  rw [lz2 _ (fillOf_len _)] at hk
  have hok := H3.out.ok.write (i := 0) (bs := fillOf [UInt8.ofNat 1])
  rw [lz2 _ (fillOf_len _)] at hok
  have HK := Lib.hid hk
  have HO := Lib.hid hok
  clear hk hsrc hb hg g3 HP H2 H2a hok
  go_wp2_with fail
  refine HK.out.mono ?_
  rintro e w4 ⟨rfl, h4⟩
  obtain ⟨O4, h4, -, -⟩ := H3.out.left h4 HO.out
  have ga := World.grownBy_alloc w4 (.cells #[.int .u8 2] 5 (0, 0)) none
  have HP := Lib.hid (page_ok 1 (one_src w4 2 (by decide)) (by decide))
  have H4 := Lib.hid (h4.grow HT.out ga)
  clear h4 ga HK H3 HO
  generalize fillOf [UInt8.ofNat 1] = pa at *
  go_wp2_with fail
  refine HP.out.mono ?_
  rintro e w5 ⟨g, rfl, hg, hb, g5⟩
  have H5 := Lib.hid (H4.out.grow HT.out g5)
  have hsrc := hb.src
  rw [fillOf_len] at hsrc
  have hk := HT.out.write H5.out.d H5.out.ok (by decide) 0 (some ⟨g, 0, none⟩) 4096 4096 (fillOf [UInt8.ofNat 2]) (okS (by decide) (by decide)) hsrc (by decide) (fun _ ad e hm => by cases e; have h9 := HT.out.lt H4.out.d g hm; simp only [World.size_alloc] at h9 hg; omega)
  rw [lz3 _ _ (fillOf_len _)] at hk
  have hok := H5.out.ok.write (i := 0) (bs := fillOf [UInt8.ofNat 2])
  rw [lz3 _ _ (fillOf_len _)] at hok
  have HK := Lib.hid hk
  have HO := Lib.hid hok
  clear hk hsrc hb hg g5 HP H4 hok
  go_wp2_with fail
  refine HK.out.mono ?_
  rintro e w6 ⟨rfl, h6⟩
  obtain ⟨O6, h6, -, -⟩ := H5.out.left h6 HO.out
  have ga := World.grownBy_alloc w6 (.cells #[.int .u8 3] 5 (0, 0)) none
  have HP := Lib.hid (page_ok 1 (one_src w6 3 (by decide)) (by decide))
  have H6 := Lib.hid (h6.grow HT.out ga)
  clear h6 ga HK H5 HO
  go_wp2_with fail
  refine HP.out.mono ?_
  rintro e w7 ⟨g, rfl, hg, hb, g7⟩
  have H7 := Lib.hid (H6.out.grow HT.out g7)
  have hsrc := hb.src
  rw [fillOf_len] at hsrc
  have hk := HT.out.write H7.out.d H7.out.ok (by decide) 1 (some ⟨g, 0, none⟩) 4096 4096 (fillOf [UInt8.ofNat 3]) (okS (by decide) (by decide)) hsrc (by decide) (fun _ ad e hm => by cases e; have h9 := HT.out.lt H6.out.d g hm; simp only [World.size_alloc] at h9 hg; omega)
  rw [lz4 _ _ (fillOf_len _)] at hk
  have hok := H7.out.ok.write (i := 1) (bs := fillOf [UInt8.ofNat 3])
  rw [lz4 _ _ (fillOf_len _)] at hok
  have HK := Lib.hid hk
  have HO := Lib.hid hok
  clear hk hsrc hb hg g7 HP H6 hok
  go_wp2_with fail
  refine HK.out.mono ?_
  rintro e w8 ⟨rfl, h8⟩
  obtain ⟨O8, h8, -, -⟩ := H7.out.left h8 HO.out
  have HG := Lib.hid h8.grown
  clear h8 HK H7 HO
  go_wp2_with fail
  go_ret
  exact ⟨rfl, HG.out⟩
end Go.Proofs.Ytnfofhnjeinmfaa
