/- ObjectPages, walked out of what package object says. -/
import Derived.Test.YtefcefclncbimaaObPg
import Derived.Test.YtefcefclncbimaaZUints
import Derived.OwnWalk
namespace Go.Proofs.Ytefcefclncbimaa
open Go.ChangeShapes Go.WideShapes Go.ChangeAt Go.RowKit Go.Deep
set_option linter.unusedVariables false
attribute [local go_sem] Oper.semAt_some

def rBool (b : Bool) : Obj := .cells #[.bool b] 4
def iInt (x : Int) : Obj := .cells #[.int .i64 x] 3
/-- The law's own blocks: the slice of puts, the bounds, the answer. -/
def pB (y : Nat) (v : Value) (lo hi : Int) : List (Nat × Obj) := [(y + 1 + 1 + 1, rBool false), (y + 1 + 1, iInt hi), (y + 1, iInt lo), (y, .cells #[v] 61)]
section
variable {w wx w2 : World} {y : Nat} {v : Value} {lo hi : Int}
theorem pB_at (h : FixB w wx (pB y v lo hi)) : wx.cell? ⟨y, 0, none⟩ = some v ∧ wx.cell? ⟨y + 1, 0, none⟩ = some (.int .i64 lo) ∧ wx.cell? ⟨y + 1 + 1, 0, none⟩ = some (.int .i64 hi) := by
  have h0 := h.at (k := y) (o := .cells #[v] 61) (by simp [pB])
  have h1 := h.at (k := y + 1) (o := iInt lo) (by simp [pB])
  have h2 := h.at (k := y + 1 + 1) (o := iInt hi) (by simp [pB])
  unfold iInt at h1 h2
  exact ⟨by rw [cell_of_row _ _ _ _ _ _ h0]; rfl, by rw [cell_of_row _ _ _ _ _ _ h1]; rfl, by rw [cell_of_row _ _ _ _ _ _ h2]; rfl⟩
theorem pB_res (h : FixB w wx (pB y v lo hi)) : wx.heap[y + 1 + 1 + 1]? = some (rBool false) := h.at (by simp [pB])
end
/-- A pool, and the law's blocks beside it. -/
structure PJ (D : World → Nat → Nat → ObL → List Nat → Prop) (w wx : World) (p m : Nat) (L : ObL) (O : List Nat) (B : List (Nat × Obj)) : Prop where
  d : D wx p m L O
  f : FixB w wx B
  own : ∀ b, b ∈ O → w.heap.size ≤ b
  ap : ∀ b, b ∈ B → b.1 ∉ O
section
variable {D : World → Nat → Nat → ObL → List Nat → Prop} {w wx w2 : World} {p m : Nat} {L L' : ObL} {O : List Nat} {B : List (Nat × Obj)}
theorem PJ.grow (H : StOkO D) (h : PJ D w wx p m L O B) (g : wx.grownBy w2 none) : PJ D w w2 p m L O B := ⟨H.grow h.d g, h.f.grow g, h.own, h.ap⟩
theorem PJ.left (h : PJ D w wx p m L O B) (t : ALo D wx w2 p m O L') : ∃ O', PJ D w w2 p m L' O' B := by
  obtain ⟨O', h2, t2, o2⟩ := t
  refine ⟨O', h2, ⟨((Turn.grown h.f.grown).trans' t2).noGrown h.own, fun b hb => (t2.block _ (h.f.lt hb) (h.ap b hb)).trans (h.f.fix b hb), h.f.own⟩, fun b hb => ?_, fun b hb hm => ?_⟩
  · rcases o2 b hb with h3 | h3
    · exact h.own b h3
    · exact Nat.le_trans h.f.grown.size h3
  · rcases o2 _ hm with h3 | h3
    · exact h.ap b hb h3
    · have := h.f.lt hb; omega
theorem PJ.make (h : FixB w wx B) (g : wx.grownBy w2 none) (h2 : D w2 p m L O) (o : ∀ b, b ∈ O → wx.heap.size ≤ b) : PJ D w w2 p m L O B :=
  ⟨h2, h.grow g, fun b hb => Nat.le_trans h.grown.size (o b hb), fun b hb hm => by have := o _ hm; have := h.lt hb; omega⟩
end

/-- What lies while the pages are ranged over. -/
structure PgW (D : World → Nat → Nat → ObL → List Nat → Prop) (w W : World) (p : Nat) (L : ObL) (O : List Nat) (B : List (Nat × Obj)) (La : Nat) (a b : Int) : Prop where
  j : PJ D w W p 1 L O B
  la : W.heap[La]? = some (iInt a)
  na : W.heap[La + 1]? = some (iInt b)
  lw : w.heap.size ≤ La
  ol : ∀ b, b ∈ O → b < La
  bl : ∀ b, b ∈ B → b.1 < La
section
variable {D : World → Nat → Nat → ObL → List Nat → Prop} {w W W2 : World} {p : Nat} {L : ObL} {O : List Nat} {B : List (Nat × Obj)} {La : Nat} {a b : Int}
theorem PgW.grow (H : StOkO D) (h : PgW D w W p L O B La a b) (g : W.grownBy W2 none) : PgW D w W2 p L O B La a b :=
  ⟨h.j.grow H g, (g.block _ (Array.getElem?_eq_some_iff.1 h.la).1 (by simp)).trans h.la, (g.block _ (Array.getElem?_eq_some_iff.1 h.na).1 (by simp)).trans h.na, h.lw, h.ol, h.bl⟩
theorem PgW.turn (H : StOkO D) (h : PgW D w W p L O B La a b) {base : Nat} {row : Option Nat} (hb : La + 1 < base) (g : W.grownBy W2 row) (hr : ∀ r, row = some r → base ≤ r) : PgW D w W2 p L O B La a b := by
  have hne : ∀ k, k < base → some k ≠ row := fun k hk e => by have := hr _ e.symm; omega
  exact ⟨⟨H.kept h.j.d g.size fun b hb2 => g.block _ (H.lt h.j.d b hb2) (hne _ (by have := h.ol b hb2; omega)), h.j.f.ofOwn (fun b hb2 => by have := h.bl b hb2; omega) (by have := h.lw; omega) g hr, h.j.own, h.j.ap⟩,
    (g.block _ (Array.getElem?_eq_some_iff.1 h.la).1 (hne _ (by omega))).trans h.la, (g.block _ (Array.getElem?_eq_some_iff.1 h.na).1 (hne _ hb)).trans h.na, h.lw, h.ol, h.bl⟩
theorem PgW.cells (h : PgW D w W p L O B La a b) : W.cell? ⟨La, 0, none⟩ = some (.int .i64 a) ∧ W.frozen? ⟨La, 0, none⟩ = false ∧ W.cell? ⟨La + 1, 0, none⟩ = some (.int .i64 b) ∧ W.frozen? ⟨La + 1, 0, none⟩ = false := by
  have h1 := h.la
  have h2 := h.na
  unfold iInt at h1 h2
  exact ⟨by rw [cell_of_row _ _ _ _ _ _ h1]; rfl, frozen_of_row W La 0 _ _ h1, by rw [cell_of_row _ _ _ _ _ _ h2]; rfl, frozen_of_row W (La + 1) 0 _ _ h2⟩
theorem PgW.setL (H : StOkO D) (h : PgW D w W p L O B La a b) (x : Int) : PgW D w (W.setCell ⟨La, 0, none⟩ (.int .i64 x)) p L O B La x b := by
  have gs := grown_set W La 0 (.int .i64 x)
  have h1 := h.la
  unfold iInt at h1
  refine ⟨⟨H.kept h.j.d gs.size fun b hb => heap_setCell_other _ _ b _ (by have := h.ol b hb; show b ≠ La; omega), ⟨grown_at h.j.f.grown gs h.lw, fun b hb => (heap_setCell_other _ _ b.1 _ (by have := h.bl b hb; show b.1 ≠ La; omega)).trans (h.j.f.fix b hb), h.j.f.own⟩, h.j.own, h.j.ap⟩, ?_, ?_, h.lw, h.ol, h.bl⟩
  · exact heap_setCell_same W La 0 _ _ _ h1
  · exact (heap_setCell_other _ _ (La + 1) _ (by show La + 1 ≠ La; omega)).trans h.na
theorem PgW.setN (H : StOkO D) (h : PgW D w W p L O B La a b) (x : Int) : PgW D w (W.setCell ⟨La + 1, 0, none⟩ (.int .i64 x)) p L O B La a x := by
  have gs := grown_set W (La + 1) 0 (.int .i64 x)
  have h1 := h.na
  unfold iInt at h1
  refine ⟨⟨H.kept h.j.d gs.size fun b hb => heap_setCell_other _ _ b _ (by have := h.ol b hb; show b ≠ La + 1; omega), ⟨grown_at h.j.f.grown gs (by have := h.lw; omega), fun b hb => (heap_setCell_other _ _ b.1 _ (by have := h.bl b hb; show b.1 ≠ La + 1; omega)).trans (h.j.f.fix b hb), h.j.f.own⟩, h.j.own, h.j.ap⟩, ?_, ?_, h.lw, h.ol, h.bl⟩
  · exact (heap_setCell_other _ _ La _ (by show La ≠ La + 1; omega)).trans h.la
  · exact heap_setCell_same W (La + 1) 0 _ _ _ h1
end
theorem kpG_set {G : List Nat} {W : World} {k : Nat} {v : Value} (h : k ∉ G) : KpG G W (W.setCell ⟨k, 0, none⟩ v) := fun i hi => heap_setCell_other _ _ i _ (show i ≠ k from fun e => h (by rw [← e]; exact hi))
theorem page_at {W : World} {Be : Nat} {x : PgV} (h : W.heap[Be]? = some (.cells #[.int .i64 x.fr, .int .i64 x.sl, .bool x.d] 30 (0, 0))) : W.cell? ⟨Be, 0, none⟩ = some (.int .i64 x.fr) := by
  rw [cell_of_row _ _ _ _ _ _ h]; rfl
theorem run_slice_tail {w : World} {g o l c a : Nat} (ha : a ≤ l) (hc : l ≤ c) : (Instr.slice 61 (.slice (some ⟨g, o, none⟩) l c) (some (.int .i64 (a : Int))) none none).run Try.prog w = .ok (.slice (if c = a then some ⟨g, o, none⟩ else some ⟨g, o + a, none⟩) (l - a) (c - a)) w := by
  have hs : (Try.prog.info? 60).map (·.size) = some 1 := by kernel_rfl
  have h1 : (a : Int) ≤ l := by omega
  cases hq : Try.prog.info? 60 with
  | none => simp [hq] at hs
  | some i =>
    have hi' : i.size = 1 := by simpa [hq] using hs
    simp [Instr.slice, run_underlying Try.underlying61, Instr.sliceBounds, run_sliceBound, sizeOf, typeInfo, *]
    by_cases e : c = a
    · simp [e]
    · simp [e, Addr.add_mid]
theorem want_len {l : PgL} {lo hi : Int} {K : Nat} : (wantTo l lo hi K).length ≤ K := by
  unfold wantTo
  refine Nat.le_trans (List.length_filter_le _ _) ?_
  simp

set_option maxRecDepth 100000 in
set_option maxHeartbeats 4000000 in
theorem pages_walk14 {D : World → Nat → Nat → ObL → List Nat → Prop} (H : ObOk D) (w : World) (sa : Option Addr) (l c : Nat) (ds : List Int) (lo hi : Int) (hlo : okI lo) (hhi : okI hi) (hU : UintsAre w sa l ds) (hlc : l ≤ c) :
    Calls Try.prog 5 #[.slice sa l c, .int .i64 lo, .int .i64 hi] w fun e w' => e = .returned (.bool true) ∧ w.grownBy w' none := by
  have HLv := Lib.hid (fun wx => lives14 H wx)
  have HT := Lib.hid H
  have HU := Lib.hid hU
  have hsq := eql_seq14
  obtain ⟨y, hy⟩ : ∃ y, w.heap.size = y := ⟨_, rfl⟩
  have f1 : FixB w (w.alloc (.cells #[.slice sa l c] 61)) [(y, .cells #[.slice sa l c] 61)] := (FixB.nil w).new (World.grownBy_alloc _ _ none) (by rw [← hy]; exact heap_alloc_new w _) (by omega)
  have s1 : (w.alloc (.cells #[.slice sa l c] 61)).heap.size = y + 1 := by rw [World.size_alloc]; omega
  have f2 : FixB w ((w.alloc (.cells #[.slice sa l c] 61)).alloc (iInt lo)) [(y + 1, iInt lo), (y, .cells #[.slice sa l c] 61)] := f1.new (World.grownBy_alloc _ _ none) (by rw [← s1]; exact heap_alloc_new _ _) (by omega)
  have s2 : ((w.alloc (.cells #[.slice sa l c] 61)).alloc (iInt lo)).heap.size = y + 1 + 1 := by rw [World.size_alloc, s1]
  have f3 : FixB w (((w.alloc (.cells #[.slice sa l c] 61)).alloc (iInt lo)).alloc (iInt hi)) [(y + 1 + 1, iInt hi), (y + 1, iInt lo), (y, .cells #[.slice sa l c] 61)] := f2.new (World.grownBy_alloc _ _ none) (by rw [← s2]; exact heap_alloc_new _ _) (by omega)
  have s3 : (((w.alloc (.cells #[.slice sa l c] 61)).alloc (iInt lo)).alloc (iInt hi)).heap.size = y + 1 + 1 + 1 := by rw [World.size_alloc, s2]
  have f4 : FixB w ((((w.alloc (.cells #[.slice sa l c] 61)).alloc (iInt lo)).alloc (iInt hi)).alloc (rBool false)) (pB y (.slice sa l c) lo hi) := f3.new (World.grownBy_alloc _ _ none) (by rw [← s3]; exact heap_alloc_new _ _) (by omega)
  have H4 := Lib.hid f4
  clear H f1 s1 f2 s2 f3 s3 f4 hU
  unfold iInt rBool at H4
  have HNw := Lib.hid (fun W => HT.out.new 1 W (by decide))
  refine (callsIn_wide (n := 9)).1 ?_
  refine callsIn_of_wp_marks Try.func5 rfl trivial ?_ rfl
  simp only [Try.ntmps5, List.size_toArray, List.length_cons, List.length_nil, Nat.reduceAdd, Nat.reduceSub, Array.replicate_succ, Array.replicate_zero, List.push_toArray, List.append_toArray, List.nil_append, List.cons_append]
  refine wpIn_wide.2 ?_
  go_wp2_with fail
  refine (HNw.out _).mono ?_
  rintro e w1 ⟨p, O, rfl, h1, g1, o1⟩
  have H5 := Lib.hid (PJ.make H4.out g1 h1 o1)
  have hk := HT.out.make H5.out.d 0 (okS (by decide) (by decide))
  rw [make_one] at hk
  have HK := Lib.hid hk
  clear h1 g1 o1 H4 hk HNw
  go_wp2_with fail
  refine HK.out.mono ?_
  rintro e w2 ⟨rfl, h2⟩
  obtain ⟨O2, h2⟩ := H5.out.left h2
  have H6 := Lib.hid h2
  obtain ⟨b0, b1, b2⟩ := pB_at h2.f
  clear h2 HK H5
  by_cases hl60 : l ≤ 60
  · have d60 : decide ((l : Int) > 60) = false := decide_eq_false (by omega)
    go_wp2_with fail
    go_loopw [43] (fun iv wr => ∃ (j : Nat) (O : List Nat), j ≤ l ∧ iv = .int .i64 (j : Int) ∧ Hid (PJ D w wr p 1 [some ⟨0, 1, putsTo ds j⟩] O (pB y (.slice sa l c) lo hi))) (fun iv _ => l - (intOf iv).toNat)
    case atStart => exact ⟨0, O2, by omega, rfl, H6⟩
    case round =>
      clear H6 b0 b1 b2
      obtain ⟨j, O, hj, rfl, HJ⟩ := hrel
      by_cases hlt : j < l
      · obtain ⟨d, g, o, hd, hs, cd, hdo⟩ := HU.out.get j hlt
        have cd2 := HJ.out.f.grown.cell (a := ⟨g, o + j, none⟩) cd (by simp)
        subst hs
        obtain ⟨k, hk1, hk2⟩ : ∃ k : Nat, d % 20 = k ∧ k < 20 := ⟨(d % 20).toNat, by omega, by omega⟩
        have hkm : d.tmod 20 = (k : Int) := by rw [Int.tmod_eq_emod_of_nonneg hdo.1]; exact hk1
        have hk := HT.out.put HJ.out.d 1 (k : Int) (j : Int) 0 ((j : Int) % 2 == 0) (okS (by decide) (by decide)) (okS (by omega) (by omega))
        rw [one_put (by omega)] at hk
        simp only at hk
        rw [show insO (putsTo ds j) (k : Int) ⟨(j : Int), 0, ((j : Int) % 2 == 0)⟩ = putsTo ds (j + 1) by
          show _ = insO (putsTo ds j) (ds.getD j 0 % 20) _
          rw [List.getD_eq_getElem?_getD, hd, ← hk1]; rfl] at hk
        have HK := Lib.hid hk
        clear hk hk1 hd cd hdo
        go_wp2_with fail
        refine HK.out.mono ?_
        rintro e w5 ⟨rfl, h5⟩
        obtain ⟨O5, h5⟩ := HJ.out.left h5
        have H5 := Lib.hid h5
        clear h5 HK HJ
        go_wp2_with fail
        go_roundw
        case rel => exact ⟨j + 1, O5, by omega, by go_num, H5⟩
        case measure => simp [intOf]; omega
      · obtain rfl : j = l := by omega
        have HPu := Lib.hid (puts_ok ds j)
        obtain ⟨lp, hlp⟩ : ∃ lp, putsTo ds j = lp := ⟨_, rfl⟩
        rw [hlp] at HJ HPu
        clear hlp
        have ga := World.grownBy_alloc wr (iInt (-1)) none
        have gb := World.grownBy_alloc (wr.alloc (iInt (-1))) (iInt 0) none
        have hs1 : (wr.alloc (iInt (-1))).heap.size = wr.heap.size + 1 := World.size_alloc _ _
        have hJ6 := HJ.out.grow HT.out.toStOkO (grown_trans ga gb)
        have hl0 : ((wr.alloc (iInt (-1))).alloc (iInt 0)).heap[wr.heap.size]? = some (iInt (-1)) := (gb.block _ (by rw [hs1]; omega) (by simp)).trans (heap_alloc_new wr _)
        have hn0 : ((wr.alloc (iInt (-1))).alloc (iInt 0)).heap[wr.heap.size + 1]? = some (iInt 0) := by rw [← hs1]; exact heap_alloc_new _ _
        have HJ6 := Lib.hid hJ6
        have HL0 := Lib.hid hl0
        have HN0 := Lib.hid hn0
        obtain ⟨c0, c1, c2⟩ := pB_at hJ6.f
        have hk := HT.out.pages hJ6.d 1 lo hi (okS (by decide) (by decide))
        rw [one_pages] at hk
        have HK := Lib.hid hk
        have hwr := HJ.out.f.grown.size
        have hol := fun b hb => HT.out.lt HJ.out.d b hb
        have hbl := fun b hb => HJ.out.f.lt (b := b) hb
        clear hk ga gb hs1 hJ6 hl0 hn0 HJ h2
        unfold iInt at HJ6 HL0 HN0 c0 c1 c2 HK
        go_wp2_with fail
        refine HK.out.mono ?_
        rintro e wa ⟨Bs, u, rfl, hBs, hr, ho, hB, ga⟩
        have h9 : PgW D w wa p [some ⟨0, 1, lp⟩] O (pB y (.slice sa j c) lo hi) wr.heap.size (-1) 0 :=
          ⟨HJ6.out.grow HT.out.toStOkO ga, (ga.block _ (Array.getElem?_eq_some_iff.1 HL0.out).1 (by simp)).trans HL0.out, (ga.block _ (Array.getElem?_eq_some_iff.1 HN0.out).1 (by simp)).trans HN0.out, hwr, hol, hbl⟩
        have hwa : wr.heap.size + 1 < wa.heap.size := Nat.lt_of_lt_of_le (Array.getElem?_eq_some_iff.1 HN0.out).1 ga.size
        have hou : ∀ b, u.ownBlock = some b → wr.heap.size + 1 < b := fun b e => by
          have h1 := ho b e
          rw [World.size_alloc, World.size_alloc] at h1
          omega
        have H9 := Lib.hid h9
        have HBs := Lib.hid hBs
        have HR := Lib.hid hr
        have HOu := Lib.hid hou
        have hyL : y + 1 + 1 + 1 < wr.heap.size := hbl (y + 1 + 1 + 1, rBool false) (by simp [pB])
        have hzl : (cutO lp lo hi).length ≤ 4096 := Nat.le_trans cut_len2 HPu.out.good.len
        clear hBs hr HK c0 c1 c2 h9 ho hB ga hou HJ6 HL0 HN0 hwr hol hbl
        go_wp2_with fail
        generalize wr.heap.size = La at *
        refine (wpIn_wide (n := 9)).1 ?_
        refine wpIn_rangeFunc_ownH rfl (by omega) (gf := 40) (lb := #[.pointer (some ⟨Bs, 0, none⟩)]) rfl trivial (enters_of Try.func40 (by kernel_rfl) rfl)
          (pages2_stops 8 (by omega) Bs u (cutO lp lo hi) hzl u.ownBlock.toList (fun g e => by rw [e]; simp) wa HBs.out HR.out) (fun h k => kpG_t h k) (fun W l o o' hl ho hc _ => kpG_b (B := wa.heap.size) (fun k hk => row_lt HR.out (by simpa using hk)) W l o' hl) (Below.refl _ _) (fun _ => rfl)
          (fun pre W => PgW D w W p [some ⟨0, 1, lp⟩] O (pB y (.slice sa j c) lo hi) La (lastK pre) (pre.length : Int) ∧ wa.heap.size ≤ W.heap.size)
          (fun cx xs _ => cx = .ret ∧ ∃ pre x, xs = pre ++ [x] ∧ x.1.1 ≤ lastK pre)
          (fun s A9 B9 row hs hg hr => ⟨hs.1.turn HT.out.toStOkO hwa hg fun r e => (hr r e).1, Nat.le_trans hs.2 hg.size⟩)
          (fun cx s A9 B9 row hs hg hr => hs)
          ⟨H9.out, Nat.le_refl _⟩
          (fun x a' W => ∃ Be, wa.heap.size ≤ Be ∧ W.heap[Be]? = some (.cells #[.int .i64 x.1.2.fr, .int .i64 x.1.2.sl, .bool x.1.2.d] 30 (0, 0)) ∧ a' = { tmps := #[Value.slice sa j c, .int .i64 lo, .int .i64 hi, .pointer (some ⟨y, 0, none⟩), .pointer (some ⟨y + 1, 0, none⟩), .pointer (some ⟨y + 1 + 1, 0, none⟩), .pointer (some ⟨y + 1 + 1 + 1, 0, none⟩), .pointer (some ⟨p, 0, none⟩), .int .i64 1, .int .i64 0, u10, u11, .pointer (some ⟨La, 0, none⟩), .pointer (some ⟨La + 1, 0, none⟩), .func (.func 40) #[] #[.pointer (some ⟨Bs, 0, none⟩)], .int .i64 x.1.1, .pointer (some ⟨Be, 0, none⟩), undef, undef, undef, undef, undef, undef, .pointer (some ⟨p, 0, none⟩), .tuple #[.int .i64 1, .int .i64 0], .pointer (some ⟨p, 0, none⟩), .tuple #[.int .i64 1, .int .i64 0], .int .i64 1, .int .i64 0, .int .i64 0, .bool false, .bool false, .slice sa j c, .int .i64 (j : Int), .bool false, .bool false, undef, undef, undef, undef, undef, .slice sa j c, .int .i64 (j : Int), .int .i64 (j : Int), .bool false, u45, u46, u47, u48, u49, u50, u51, u52, u53, u54, u55, u56, u57, u58, u59, .pointer (some ⟨p, 0, none⟩), .int .i64 1, .int .i64 lo, .int .i64 hi, .func (.func 40) #[] #[.pointer (some ⟨Bs, 0, none⟩)], .func (.func 40) #[] #[.pointer (some ⟨Bs, 0, none⟩)], .bool false, .func (.func 40) #[] #[.pointer (some ⟨Bs, 0, none⟩)], .int .i64 x.1.1, pgAgg x.1.2, undef, undef, undef, undef, undef, undef, undef, undef, undef, undef, undef, undef, undef, undef, undef, undef, undef, undef, undef, undef, undef, undef, undef, undef, undef, undef, undef, undef, undef, undef, undef, undef, undef, undef, undef, undef, undef, undef, undef, undef, undef, undef, undef, undef, undef, undef, undef, undef, undef, undef, undef, undef, undef, undef, undef, undef, undef, undef, undef, undef, undef, undef, undef, undef, undef, undef, undef, undef, undef, undef, undef, undef, undef, undef, undef, undef, undef, undef, undef, undef, undef, undef, undef, undef, undef], defers := [] })
          (fun x a' _ A9 B9 row hs hg hr => by
            obtain ⟨Be, h1, h2, h3⟩ := hs
            refine ⟨Be, h1, (hg.block Be (Array.getElem?_eq_some_iff.1 h2).1 (fun e => ?_)).trans h2, h3⟩
            obtain ⟨o, ho, hc⟩ := (hr Be e.symm).2
            rw [h2] at ho
            cases ho
            cases hc)
          ?assign ?body ?done ?stop
        case assign =>
          rintro ll pre ⟨⟨k, ⟨fr, sl, d⟩⟩, hm⟩ Wd K ⟨hJ, hsz⟩ hK
          have ga := World.grownBy_alloc Wd (.cells #[.int .i64 fr, .int .i64 sl, .bool d] 30 (0, 0)) none
          have hkp : KpG u.ownBlock.toList Wd (Wd.alloc (.cells #[.int .i64 fr, .int .i64 sl, .bool d] 30 (0, 0))) := fun k hk => ga.block k (Nat.lt_of_lt_of_le (row_lt HR.out (by simpa using hk)) hsz) (by simp)
          unfold encQ encP pgAgg
          gi_wp2
          exact hK _ _ ((KeepsOthers.alloc _ _).from _) hkp ⟨hJ.grow HT.out.toStOkO ga, Nat.le_trans hsz ga.size⟩ ⟨Wd.heap.size, hsz, heap_alloc_new Wd _, rfl⟩
        case body =>
          rintro ll pre ⟨⟨k, ⟨fr, sl, d⟩⟩, hm⟩ a' Wd hlw hlp ⟨hJ, hsz⟩ ⟨Be, hBe, hE, rfl⟩ hlt2
          have hm2 := List.mem_filter.1 hm
          have hmb : lo ≤ k ∧ k < hi := by simpa using hm2.2
          obtain ⟨i, hi1, hi2, hi3, hi4⟩ := HPu.out.each _ hm2.1
          obtain rfl : fr = (i : Int) := hi2
          have hi3 : ds.getD i 0 % 20 = k := hi3
          have hi4 : ∀ m : Nat, i < m → m < j → ds.getD m 0 % 20 ≠ k := hi4
          have e0 := page_at (x := ⟨(i : Int), sl, d⟩) hE
          obtain ⟨b0, b1, b2⟩ := pB_at hJ.j.f
          have b3 := pB_res hJ.j.f
          unfold rBool at b3
          have cr : Wd.cell? ⟨y + 1 + 1 + 1, 0, none⟩ = some (.bool false) := by rw [cell_of_row _ _ _ _ _ _ b3]; rfl
          have cf : Wd.frozen? ⟨y + 1 + 1 + 1, 0, none⟩ = false := frozen_of_row Wd _ 0 _ _ b3
          obtain ⟨c0, f0, c1, f1⟩ := hJ.cells
          obtain ⟨dd, g, o, hd, hs, cd, hdo⟩ := HU.out.get i hi1
          have cd2 := hJ.j.f.grown.cell (a := ⟨g, o + i, none⟩) cd (by simp)
          rw [List.getD_eq_getElem?_getD, hd] at hi3
          have hi3 : dd % 20 = k := hi3
          have hdo0 := hdo.1
          obtain ⟨kn, rfl, hkn⟩ : ∃ kn : Nat, k = (kn : Int) ∧ kn < 20 := ⟨k.toNat, by omega, by omega⟩
          have hkm : dd.tmod 20 = (kn : Int) := by rw [Int.tmod_eq_emod_of_nonneg hdo.1]; exact hi3
          have HJ := Lib.hid hJ
          have H4 := Lib.hid hi4
          subst hs
          simp only at *
          clear hJ hi4 hm2 hE hd cd b3
          by_cases hla : (kn : Int) ≤ lastK pre
          · have dla : decide ((kn : Int) ≤ lastK pre) = true := decide_eq_true hla
            simp only [pgAgg]
            gi_wp2_with fail
            exact ⟨(KeepsOthers.setCell _ _ _).from _, rfl, pre, _, rfl, hla⟩
          · have dla : decide ((kn : Int) ≤ lastK pre) = false := decide_eq_false hla
            have d1 : decide ((kn : Int) < lo) = false := decide_eq_false (by omega)
            have d2 : decide ((kn : Int) ≥ hi) = false := decide_eq_false (by omega)
            have d3 : decide ((i : Int) ≥ (j : Int)) = false := decide_eq_false (by omega)
            have d4 : decide ((i : Int) < 0) = false := decide_eq_false (by omega)
            have hsl : ∀ W, (Instr.slice 61 (.slice (some ⟨g, o, none⟩) j c) (some (.int .i64 ((i : Int) + 1))) none none).run Try.prog W = .ok (.slice (if c = i + 1 then some ⟨g, o, none⟩ else some ⟨g, o + (i + 1), none⟩) (j - (i + 1)) (c - (i + 1))) W := fun W => by
              have := run_slice_tail (w := W) (g := g) (o := o) (l := j) (c := c) (a := i + 1) (by omega) hlc
              rw [← this]
              rfl
            obtain ⟨sz, hsz2⟩ : ∃ sz, (if c = i + 1 then some (⟨g, o, none⟩ : Addr) else some ⟨g, o + (i + 1), none⟩) = sz := ⟨_, rfl⟩
            rw [hsz2] at hsl
            simp only [pgAgg]
            gi_wp2_with fail
            gi_loopw [112] (fun iv wr2 => ∃ m : Nat, m ≤ j - (i + 1) ∧ iv = .int .i64 (m : Int) ∧ Hid (Wd = wr2)) (fun iv _ => (j - (i + 1)) - (intOf iv).toNat)
            case atStart => exact ⟨0, Nat.zero_le _, rfl, Lib.hid rfl⟩
            case round =>
              obtain ⟨m, hm3, rfl, HW⟩ := hrel
              have hw := HW.out
              subst hw
              by_cases hlt3 : m < j - (i + 1)
              · obtain rfl : sz = some ⟨g, o + (i + 1), none⟩ := by rw [← hsz2, if_neg (by omega)]
                obtain ⟨d3, g3, o3, hd3, hs3, cd3, hdo3⟩ := HU.out.get (i + 1 + m) (by omega)
                obtain ⟨rfl, rfl⟩ : g = g3 ∧ o = o3 := by injection hs3 with h; injection h with h1 h2; exact ⟨h1, h2⟩
                have cd4 : Wd.cell? ⟨g, o + (i + 1) + m, none⟩ = some (.int .u64 d3) := by rw [Nat.add_assoc]; exact HJ.out.j.f.grown.cell cd3 (by simp)
                have hno := H4.out (i + 1 + m) (by omega) (by omega)
                rw [List.getD_eq_getElem?_getD, hd3] at hno
                have hno : d3 % 20 ≠ (kn : Int) := hno
                have hdo30 := hdo3.1
                obtain ⟨k3, hk3, hk4⟩ : ∃ k3 : Nat, d3 % 20 = (k3 : Int) ∧ k3 < 20 := ⟨(d3 % 20).toNat, by omega, by omega⟩
                have hk5 : d3.tmod 20 = (k3 : Int) := by rw [Int.tmod_eq_emod_of_nonneg hdo30]; exact hk3
                have hbne : ((k3 : Int) == (kn : Int)) = false := by
                  have : (k3 : Int) ≠ kn := by omega
                  simpa using this
                clear hs3 hd3 cd3
                gi_wp2_with fail
                go_roundw
                case rel => exact ⟨m + 1, by omega, by go_num, by first | exact Lib.hid rfl | exact Lib.hid trivial⟩
                case measure => simp [intOf]; omega
              · obtain rfl : m = j - (i + 1) := by omega
                have hLu : La ∉ u.ownBlock.toList := fun h => by have := HOu.out La (by simpa using h); omega
                have hNu : La + 1 ∉ u.ownBlock.toList := fun h => by have := HOu.out (La + 1) (by simpa using h); omega
                have h1 := (HJ.out.setL HT.out.toStOkO (kn : Int)).setN HT.out.toStOkO ((pre.length : Int) + 1)
                have hs1 := Nat.le_trans hsz (Nat.le_trans (grown_set Wd La 0 (.int .i64 (kn : Int))).size (grown_set (Wd.setCell ⟨La, 0, none⟩ (.int .i64 (kn : Int))) (La + 1) 0 (.int .i64 ((pre.length : Int) + 1))).size)
                have c3 := (HJ.out.setL HT.out.toStOkO (kn : Int)).cells
                obtain ⟨-, -, c3, f3⟩ := c3
                have H1 := Lib.hid h1
                clear h1
                gi_wp2_with fail
                refine ⟨((KeepsOthers.setCell _ _ _).trans (KeepsOthers.setCell _ _ _)).from _, kpG_t (kpG_set hLu) (kpG_set hNu), ?_, hs1⟩
                rw [lastK_snoc, List.length_append, List.length_singleton]
                exact H1.out
        case done =>
          rintro Dn ys Wd hD hys ⟨hJ, hsz⟩ hK
          have hyl : ys.length = (cutO lp lo hi).length := by rw [hys, List.length_attach]
          rw [hyl] at hJ
          obtain ⟨la, hla⟩ : ∃ la, lastK ys = la := ⟨_, rfl⟩
          rw [hla] at hJ
          have hDL : La + 1 < Dn := by omega
          have HJ := Lib.hid (show PgW D w Wd p [some ⟨0, 1, lp⟩] O (pB y (.slice sa j c) lo hi) La la ((cutO lp lo hi).length : Int) ∧ Wd.heap[Dn]? = some (.deferred (some [])) from ⟨hJ, hK⟩)
          clear hJ hK hys hyl hla hsz
          go_wp2_with fail
          go_loopw [19, 20] (fun nv kv wx => ∃ k : Nat, k ≤ 20 ∧ kv = .int .i64 (k : Int) ∧ nv = .int .i64 ((wantTo lp lo hi k).length : Int) ∧ Hid (PgW D w wx p [some ⟨0, 1, lp⟩] O (pB y (.slice sa j c) lo hi) La la ((cutO lp lo hi).length : Int) ∧ wx.heap[Dn]? = some (.deferred (some [])))) (fun _ kv _ => 20 - (intOf kv).toNat)
          case atStart => exact ⟨0, by omega, rfl, rfl, HJ⟩
          case round =>
            clear HJ
            obtain ⟨k, hk, rfl, rfl, HJ⟩ := hrel
            by_cases hlt : k < 20
            · have hg := HT.out.get HJ.out.1.j.d 1 (k : Int) (okS (by decide) (by decide)) (okS (by omega) (by omega))
              rw [one_get] at hg
              simp only at hg
              have hwl := want_len (l := lp) (lo := lo) (hi := hi) (K := k)
              have hst := want_step (l := lp) (lo := lo) (hi := hi) (K := k)
              obtain ⟨x, b, hx, hgv, hst2⟩ : ∃ (x : PgV) (b : Bool), getVO (lookO lp (k : Int)) = .tuple #[.agg #[.int .i64 x.fr, .int .i64 x.sl, .bool x.d], .bool b] ∧ (b = true ∨ b = false) ∧ ((lookO lp (k : Int)).isSome = b) := by
                cases lookO lp (k : Int) with
                | none => exact ⟨zeroP, false, rfl, .inr rfl, rfl⟩
                | some x => exact ⟨x, true, rfl, .inl rfl, rfl⟩
              rw [hx] at hg
              rw [hst2] at hst
              have HG := Lib.hid hg
              clear hg hx hst2
              go_wp2_with fail
              refine HG.out.mono ?_
              rintro e w5 ⟨rfl, g5⟩
              have g6 := grown_trans g5 (World.grownBy_alloc w5 (.cells #[.int .i64 x.fr, .int .i64 x.sl, .bool x.d] 30 (0, 0)) none)
              have h6 := HJ.out.1.grow HT.out.toStOkO g6
              have H6 := Lib.hid (show PgW D w (w5.alloc (.cells #[.int .i64 x.fr, .int .i64 x.sl, .bool x.d] 30 (0, 0))) p [some ⟨0, 1, lp⟩] O (pB y (.slice sa j c) lo hi) La la ((cutO lp lo hi).length : Int) ∧ (w5.alloc (.cells #[.int .i64 x.fr, .int .i64 x.sl, .bool x.d] 30 (0, 0))).heap[Dn]? = some (.deferred (some [])) from
                ⟨h6, (g6.block _ (Array.getElem?_eq_some_iff.1 HJ.out.2).1 (by simp)).trans HJ.out.2⟩)
              obtain ⟨b0, b1, b2⟩ := pB_at h6.j.f
              clear h6 g5 g6 HG HJ
              rcases hgv with rfl | rfl
              · by_cases h1 : lo ≤ (k : Int)
                · have d1 : decide ((k : Int) ≥ lo) = true := decide_eq_true h1
                  by_cases h2 : (k : Int) < hi
                  · have d2 : decide ((k : Int) < hi) = true := decide_eq_true h2
                    rw [if_pos ⟨rfl, h1, h2⟩] at hst
                    go_wp2_with fail
                    go_roundw
                    case rel => exact ⟨k + 1, by omega, by go_num, by rw [hst]; first | rfl | go_num, H6⟩
                    case measure => simp [intOf]; omega
                  · have d2 : decide ((k : Int) < hi) = false := decide_eq_false h2
                    rw [if_neg (fun h => h2 h.2.2)] at hst
                    go_wp2_with fail
                    go_roundw
                    case rel => exact ⟨k + 1, by omega, by go_num, by rw [hst]; first | rfl | go_num, H6⟩
                    case measure => simp [intOf]; omega
                · have d1 : decide ((k : Int) ≥ lo) = false := decide_eq_false h1
                  rw [if_neg (fun h => h1 h.2.1)] at hst
                  go_wp2_with fail
                  go_roundw
                  case rel => exact ⟨k + 1, by omega, by go_num, by rw [hst]; first | rfl | go_num, H6⟩
                  case measure => simp [intOf]; omega
              · rw [if_neg (fun h => by cases h.1)] at hst
                go_wp2_with fail
                go_roundw
                case rel => exact ⟨k + 1, by omega, by go_num, by rw [hst]; first | rfl | go_num, H6⟩
                case measure => simp [intOf]; omega
            · obtain rfl : k = 20 := by omega
              rw [want_all HPu.out lo hi]
              obtain ⟨-, -, c1, f1⟩ := HJ.out.1.cells
              go_wp2_with fail
              refine (HLv.out _).mono ?_
              rintro e w6 ⟨rfl, g6⟩
              have h6 := HJ.out.1.grow HT.out.toStOkO g6
              have hK6 := (g6.block _ (Array.getElem?_eq_some_iff.1 HJ.out.2).1 (by simp)).trans HJ.out.2
              have hres := pB_res h6.j.f
              unfold rBool at hres
              have cr : w6.cell? ⟨y + 1 + 1 + 1, 0, none⟩ = some (.bool false) := by rw [cell_of_row _ _ _ _ _ _ hres]; rfl
              have cf : w6.frozen? ⟨y + 1 + 1 + 1, 0, none⟩ = false := frozen_of_row w6 _ 0 _ _ hres
              have H6 := Lib.hid h6.j.f.grown
              have HRes := Lib.hid hres
              have HK6 := Lib.hid hK6
              clear g6 h6 hres hK6 HJ c1 f1
              go_wp2_with fail
              have hne : y + 1 + 1 + 1 ≠ Dn := by omega
              refine leaves_marks [Dn] _ (by simp) (fun E hE => ?_) fun w' t => ?_
              · obtain rfl : E = Dn := by simpa using hE
                exact (heap_setCell_other _ _ E _ (by show E ≠ y + 1 + 1 + 1; omega)).trans HK6.out
              · have h1 : (w6.setCell ⟨y + 1 + 1 + 1, 0, none⟩ (.bool true)).heap[y + 1 + 1 + 1]? = some (.cells #[.bool true] 4) := heap_setCell_same w6 (y + 1 + 1 + 1) 0 _ _ _ HRes.out
                have h2 : w'.heap[y + 1 + 1 + 1]? = some (.cells #[.bool true] 4) := (t.block _ (Array.getElem?_eq_some_iff.1 h1).1 (fun hm => hne (by simpa using hm))).trans h1
                refine ⟨_, results_cell_bool rfl _ _ (y + 1 + 1 + 1) (.bool true) rfl (by rw [cell_of_row _ _ _ _ _ _ h2]; rfl), rfl, ?_⟩
                exact ((Turn.grown (grown_at H6.out (grown_set w6 (y + 1 + 1 + 1) 0 _) (by omega))).trans' t).noGrown (O := [Dn]) fun E hE => by
                  obtain rfl : E = Dn := by simpa using hE
                  omega
        case stop =>
          rintro Dn cx xs Wd hD hp ⟨rfl, pre, x, rfl, hx⟩ hK
          have h1 := last_rise (HPu.out.good.filter _).up (fun n hn => by have := HPu.out.low (List.mem_filter.1 hn).1; omega) hp
          exact absurd hx (Int.not_le.2 h1)
  · have d60 : decide ((l : Int) > 60) = true := decide_eq_true (by omega)
    go_wp2_with fail
    refine (HLv.out _).mono ?_
    rintro e w3 ⟨rfl, g3⟩
    have h3 := H6.out.f.grow g3
    have hres := pB_res h3
    unfold rBool at hres
    have cr : w3.cell? ⟨y + 1 + 1 + 1, 0, none⟩ = some (.bool false) := by rw [cell_of_row _ _ _ _ _ _ hres]; rfl
    have cf : w3.frozen? ⟨y + 1 + 1 + 1, 0, none⟩ = false := frozen_of_row w3 _ 0 _ _ hres
    have H7 := Lib.hid h3.grown
    have HRes := Lib.hid hres
    clear g3 h3 hres
    go_wp2_with fail
    have h1 : (w3.setCell ⟨y + 1 + 1 + 1, 0, none⟩ (.bool true)).heap[y + 1 + 1 + 1]? = some (.cells #[.bool true] 4) := heap_setCell_same w3 (y + 1 + 1 + 1) 0 _ _ _ HRes.out
    exact ⟨_, results_cell_bool rfl _ _ (y + 1 + 1 + 1) (.bool true) rfl (by rw [cell_of_row _ _ _ _ _ _ h1]; rfl), rfl, grown_at H7.out (grown_set w3 (y + 1 + 1 + 1) 0 _) (by omega)⟩
end Go.Proofs.Ytefcefclncbimaa
