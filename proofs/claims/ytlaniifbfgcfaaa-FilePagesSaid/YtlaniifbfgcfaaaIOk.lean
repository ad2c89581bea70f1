/- What package file must be shown to say of its files (D: files by their plain state, their blocks, and how much was written at most); the example. -/
import Derived.Test.YtlaniifbfgcfaaaIRef6
namespace Go.Proofs.Ytlaniifbfgcfaaa
open Go.ChangeShapes Go.WideShapes Go.ChangeAt Go.RowKit Go.Deep
open Extern.Stop (cell)
set_option linter.unusedVariables false

def IL (D : World → Nat → IS → List Nat → Nat → Prop) (w w' : World) (p : Nat) (O : List Nat) (s : IS) (k : Nat) : Prop := ∃ O', D w' p s O' k ∧ Turn O w w' ∧ ∀ b, b ∈ O' → b ∈ O ∨ w.heap.size ≤ b
def idsI (s : IS) : List Int := (List.range s.Z.length).map fun i : Nat => (i : Int) + 1
structure FlOk (D : World → Nat → IS → List Nat → Nat → Prop) : Prop where
  lt : ∀ {w p s O k}, D w p s O k → ∀ b, b ∈ O → b < w.heap.size
  kept : ∀ {w w' p s O k}, D w p s O k → w.heap.size ≤ w'.heap.size → (∀ b, b ∈ O → w'.heap[b]? = w.heap[b]?) → D w' p s O k
  new : ∀ (w : World), Calls Try.prog 11 #[] w fun e w' => ∃ p O, e = .returned (.pointer (some ⟨p, 0, none⟩)) ∧ D w' p newI O 0 ∧ w.grownBy w' none ∧ ∀ b, b ∈ O → w.heap.size ≤ b
  make : ∀ {w p s O k}, D w p s O k → s.Ok → ∀ n, okI n → Calls Try.prog 12 #[.pointer (some ⟨p, 0, none⟩), .int .i64 n] w fun e w' => e = .returned (.tuple #[.int .i64 (makeI s n).1, .int .i64 (makeI s n).2.1]) ∧ IL D w w' p O (makeI s n).2.2 k
  size : ∀ {w p s O k}, D w p s O k → s.Ok → ∀ i, okI i → Calls Try.prog 24 #[.pointer (some ⟨p, 0, none⟩), .int .i64 i] w fun e w' => e = .returned (.tuple #[.int .i64 (sizeI s i).1, .bool (sizeI s i).2]) ∧ w.grownBy w' none
  resize : ∀ {w p s O k}, D w p s O k → s.Ok → k ≤ 100000 → ∀ i n, okI i → okI n → Calls Try.prog 14 #[.pointer (some ⟨p, 0, none⟩), .int .i64 i, .int .i64 n] w fun e w' => e = .returned (.int .i64 (resizeI s i n).1) ∧ IL D w w' p O (resizeI s i n).2 k
  read : ∀ {w p s O k}, D w p s O k → s.Ok → k ≤ 100000 → ∀ i n, okI i → okI n → Calls Try.prog 16 #[.pointer (some ⟨p, 0, none⟩), .int .i64 i, .int .i64 n] w fun e w' => ∃ u O', e = .returned (.tuple #[u, .int .i64 (readI s i n).1]) ∧ D w' p (readI s i n).2.2 O' k ∧ Turn O w w' ∧ (∀ b, b ∈ O' → b ∈ O ∨ w.heap.size ≤ b) ∧ Fresh w w' O' u (readI s i n).2.1
  write : ∀ {w p s O k}, D w p s O k → s.Ok → k ≤ 100000 → ∀ (i n : Int) (a : Option Addr) (l c : Nat) (bs : List UInt8), okI i → okI n → Src w a l bs → l ≤ 1000000 → (0 < l → ∀ ad, a = some ad → ad.block ∉ O) →
    Calls Try.prog 19 #[.pointer (some ⟨p, 0, none⟩), .int .i64 i, .int .i64 n, .slice a l c] w fun e w' => e = .returned (.int .i64 (writeI s i n bs).1) ∧ IL D w w' p O (writeI s i n bs).2 (k + 1)
  plan : ∀ {w p s O k}, D w p s O k → s.Ok → ∀ n, okI n → Calls Try.prog 22 #[.pointer (some ⟨p, 0, none⟩), .int .i64 n] w fun e w' => e = .returned (.int .i64 (planI s n).1) ∧ IL D w w' p O (planI s n).2 k
  ids : ∀ {w p s O k}, D w p s O k → s.Ok → Calls Try.prog 28 #[.pointer (some ⟨p, 0, none⟩)] w fun e w' => ∃ u, e = .returned u ∧ RowOf zCells 1 w' u (idsI s) ∧ w.grownBy w' none
  peek : ∀ {w p s O k}, D w p s O k → s.Ok → k ≤ 100000 → ∀ i n, okI i → okI n → Calls Try.prog 26 #[.pointer (some ⟨p, 0, none⟩), .int .i64 i, .int .i64 n] w fun e w' => ∃ u, e = .returned u ∧ Fresh w w' O u (peekI s i n) ∧ w.grownBy w' none

section
variable {D : World → Nat → IS → List Nat → Nat → Prop} {w w' w2 : World} {p : Nat} {s s' : IS} {O O2 : List Nat} {k k' : Nat}
theorem FlOk.grow (H : FlOk D) (h : D w p s O k) (g : w.grownBy w' none) : D w' p s O k := H.kept h g.size fun b hb => g.block b (H.lt h b hb) (by simp)
theorem FlOk.turn (H : FlOk D) (h : D w p s O k) (g : Turn O2 w w') (ho : ∀ b, b ∈ O → b ∉ O2) : D w' p s O k := H.kept h g.size fun b hb => g.block b (H.lt h b hb) (ho b hb)

/-- Files of the law's own. -/
structure LI (D : World → Nat → IS → List Nat → Nat → Prop) (w wx : World) (p : Nat) (s : IS) (O : List Nat) (k : Nat) : Prop where
  d : D wx p s O k
  own : ∀ b, b ∈ O → w.heap.size ≤ b
  grown : w.grownBy wx none
  ok : s.Ok
theorem LI.grow (H : FlOk D) (h : LI D w w' p s O k) (g : w'.grownBy w2 none) : LI D w w2 p s O k := ⟨H.grow h.d g, h.own, grown_trans h.grown g, h.ok⟩
theorem LI.left (h : LI D w w' p s O k) (t : IL D w' w2 p O s' k') (hk : s'.Ok) : ∃ O', LI D w w2 p s' O' k' ∧ Turn O w' w2 ∧ ∀ b, b ∈ O' → b ∈ O ∨ w'.heap.size ≤ b := by
  obtain ⟨O', h2, t2, o2⟩ := t
  refine ⟨O', ⟨h2, fun b hb => ?_, ((Turn.grown h.grown).trans' t2).noGrown h.own, hk⟩, t2, o2⟩
  rcases o2 b hb with h3 | h3
  · exact h.own b h3
  · have := h.grown.size; omega
end

def zerosI : Int → Int → List UInt8 := fun _ _ => pageZ
theorem mz1 : makeI newI 2 = (1, 0, ⟨[2], zerosI, 0⟩) := rfl
theorem mz2 (a : List UInt8) (ha : a.length = 4096) : writeI ⟨[2], zerosI, 0⟩ 1 1 a = (0, ⟨[2], putI zerosI 1 1 a, 0⟩) := by
  unfold writeI
  rw [if_pos (by decide), if_pos ⟨by decide, ha⟩, if_neg (by show ¬ (0 : Int) = 1; decide)]
  rfl
theorem mz3 (P : Int → Int → List UInt8) : resizeI ⟨[2], P, 0⟩ 1 1 = (0, ⟨[1], cutI P 1 1, 0⟩) := rfl
theorem mz4 (P : Int → Int → List UInt8) : resizeI ⟨[1], P, 0⟩ 1 2 = (0, ⟨[2], cutI P 1 2, 0⟩) := rfl
theorem mz5 (P : Int → Int → List UInt8) : readI ⟨[2], cutI (cutI P 1 1) 1 2, 0⟩ 1 1 = (0, pageZ, ⟨[2], cutI (cutI P 1 1) 1 2, 0⟩) := rfl
theorem fill_nil : fillOf [] = pageZ := rfl
/-- A row of one byte that the law writes out. -/
theorem one_src (w : World) (x : Nat) (hx : x < 256) : Src (w.alloc (.cells #[.int .u8 (x : Int)] 5 (0, 0))) (some ⟨w.heap.size, 0, none⟩) 1 [UInt8.ofNat x] := by
  have h : (w.alloc (.cells #[.int .u8 (x : Int)] 5 (0, 0))).heap[w.heap.size]? = some (.cells (([UInt8.ofNat x]).map cell).toArray 5 (0, 0)) := by
    rw [heap_alloc_new w _]
    congr 3
    simp [cell]
    omega
  exact Src.of_block h

set_option maxRecDepth 100000 in
set_option maxHeartbeats 2000000 in
theorem lives10 {D : World → Nat → IS → List Nat → Nat → Prop} (H : FlOk D) (w : World) :
    Calls Try.prog 10 #[] w fun e w' => e = .returned (.bool true) ∧ w.grownBy w' none := by
  have HN := Lib.hid (H.new w)
  have HT := Lib.hid H
  clear H
  go_enter Try.func10, Try.ntmps10
  go_wp2_with fail
  refine HN.out.mono ?_
  rintro e w1 ⟨p, O, rfl, h1, g1, o1⟩
  have H1 := Lib.hid (show LI D w w1 p newI O 0 from ⟨h1, o1, g1, newI_ok⟩)
  have hk := HT.out.make h1 H1.out.ok 2 (okS (by decide) (by decide))
  have hok := H1.out.ok.make (n := 2)
  rw [mz1] at hk hok
  have HK := Lib.hid hk
  have HO := Lib.hid hok
  clear hk h1 g1 o1 HN hok
  go_wp2_with fail
  refine HK.out.mono ?_
  rintro e w2 ⟨rfl, h2⟩
  obtain ⟨O2, h2, -, -⟩ := H1.out.left h2 HO.out
  have H2 := Lib.hid h2
  have ga := World.grownBy_alloc w2 (.cells #[.int .u8 7] 5 (0, 0)) none
  have HP := Lib.hid (page_ok 1 (one_src w2 7 (by decide)) (by decide))
  have H2a := Lib.hid (h2.grow HT.out ga)
  clear h2 ga HK H1 HO
  go_wp2_with fail
  refine HP.out.mono ?_
  rintro e w3 ⟨g, rfl, hg, hb, g3⟩
  have H3 := Lib.hid (H2a.out.grow HT.out g3)
  have hsrc := hb.src
  rw [fillOf_len] at hsrc
  have hk := HT.out.write H3.out.d H3.out.ok (by decide) 1 1 (some ⟨g, 0, none⟩) 4096 4096 (fillOf [UInt8.ofNat 7]) (okS (by decide) (by decide)) (okS (by decide) (by decide)) hsrc (by decide) (fun _ ad e hm => by cases e; have h9 := HT.out.lt H2a.out.d g hm; simp only [World.size_alloc] at h9 hg; omega)
  have hok := H3.out.ok.write (i := 1) (n := 1) (bs := fillOf [UInt8.ofNat 7])
  rw [mz2 _ (fillOf_len _)] at hk hok
  generalize putI zerosI 1 1 (fillOf [UInt8.ofNat 7]) = P at *
  have HK := Lib.hid hk
  have HO := Lib.hid hok
  clear hk hsrc hb hg g3 HP H2 H2a hok
  go_wp2_with fail
  refine HK.out.mono ?_
  rintro e w4 ⟨rfl, h4⟩
  obtain ⟨O4, h4, -, -⟩ := H3.out.left h4 HO.out
  have H4 := Lib.hid h4
  have hk := HT.out.resize h4.d h4.ok (by decide) 1 1 (okS (by decide) (by decide)) (okS (by decide) (by decide))
  have hok := h4.ok.resize (i := 1) (n := 1)
  rw [mz3] at hk hok
  have HK := Lib.hid hk
  have HO := Lib.hid hok
  clear h4 H3 hk hok
  go_wp2_with fail
  refine HK.out.mono ?_
  rintro e w5 ⟨rfl, h5⟩
  obtain ⟨O5, h5, -, -⟩ := H4.out.left h5 HO.out
  have H5 := Lib.hid h5
  have hk := HT.out.resize h5.d h5.ok (by decide) 1 2 (okS (by decide) (by decide)) (okS (by decide) (by decide))
  have hok := h5.ok.resize (i := 1) (n := 2)
  rw [mz4] at hk hok
  have HK := Lib.hid hk
  have HO := Lib.hid hok
  clear h5 H4 hk hok
  go_wp2_with fail
  refine HK.out.mono ?_
  rintro e w6 ⟨rfl, h6⟩
  obtain ⟨O6, h6, -, -⟩ := H5.out.left h6 HO.out
  have H6 := Lib.hid h6
  have hk := HT.out.read h6.d h6.ok (by decide) 1 1 (okS (by decide) (by decide)) (okS (by decide) (by decide))
  rw [mz5] at hk
  have HK := Lib.hid hk
  clear h6 H5 hk
  go_wp2_with fail
  refine HK.out.mono ?_
  rintro e w7 ⟨u, O7, rfl, h7, t7, o7, f7⟩
  obtain ⟨us, uc, rfl, usrc⟩ := f7.src
  rw [pageZ_length] at usrc ⊢
  have HG := Lib.hid (((Turn.grown H6.out.grown).trans' t7).noGrown H6.out.own)
  have HU := Lib.hid usrc
  have HP := Lib.hid (page_ok (w := w7) (s := none) (l := 0) (bs := []) 0 ⟨rfl, .inl rfl⟩ (by decide))
  clear h7 t7 o7 f7 usrc HK
  go_wp2_with fail
  refine HP.out.mono ?_
  rintro e w8 ⟨g, rfl, hg, hb, g8⟩
  have hsrc := hb.src
  rw [fillOf_len, fill_nil] at hsrc
  have HB := Lib.hid (bytesEq (HU.out.grown g8) hsrc uc 4096 true (by rw [beq_self_eq_true]))
  have HG8 := Lib.hid (grown_trans HG.out g8)
  clear hsrc hb hg g8
  go_wp2_with fail
  refine HB.out.mono ?_
  rintro e w9 ⟨rfl, e9⟩
  subst w9
  go_wp2_with fail
  go_ret
  exact ⟨rfl, HG8.out⟩
end Go.Proofs.Ytlaniifbfgcfaaa
