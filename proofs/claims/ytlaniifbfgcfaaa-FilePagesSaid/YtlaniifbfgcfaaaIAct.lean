/- Layer 10: acts that came in; their bytes; light. -/
import Derived.Test.YtlaniifbfgcfaaaIMem
namespace Go.Proofs.Ytlaniifbfgcfaaa
open Go.ChangeShapes Go.WideShapes Go.ChangeAt Go.RowKit Go.Deep
open Extern.Stop (cell)
set_option linter.unusedVariables false

structure IActV where
  k : Int
  i : Int
  n : Int
  s : Option Addr
  l : Nat
  c : Nat
  bs : List UInt8
  raw : Bool
def iactCells (A : IActV) : List Value := [.int .i64 A.k, .int .i64 A.i, .int .i64 A.n, .slice A.s A.l A.c, .bool A.raw]
structure IActV.Ok (w : World) (A : IActV) : Prop where
  k : okI A.k
  i : okI A.i
  n : okI A.n
  src : Src w A.s A.l A.bs
def bytesV (A : IActV) : List UInt8 := if A.raw then A.bs else fillOf A.bs
theorem IActV.Ok.len {w : World} {A : IActV} (h : A.Ok w) : A.bs.length = A.l := h.src.1
theorem Src.grown {w w' : World} {s : Option Addr} {l : Nat} {bs : List UInt8} (h : Src w s l bs) (g : w.grownBy w' none) : Src w' s l bs := h.kept g (by simp)
theorem IActV.Ok.grow {w w' : World} {A : IActV} (h : A.Ok w) (g : w.grownBy w' none) : A.Ok w' := ⟨h.k, h.i, h.n, h.src.grown g⟩
structure IActsAre (w : World) (s : Option Addr) (l : Nat) (As : List IActV) : Prop where
  len : As.length = l
  cells : l = 0 ∨ ∃ g o, s = some ⟨g, o, none⟩ ∧ ∀ (i : Nat) A, As[i]? = some A → ∀ (j : Nat) u, (iactCells A)[j]? = some u → w.cell? ⟨g, o + i * 5 + j, none⟩ = some u
  ok : ∀ A, A ∈ As → A.Ok w
theorem IActsAre.grow {w w' : World} {s : Option Addr} {l : Nat} {As : List IActV} (h : IActsAre w s l As) (g : w.grownBy w' none) : IActsAre w' s l As := by
  refine ⟨h.len, ?_, fun A hA => (h.ok A hA).grow g⟩
  rcases h.cells with h0 | ⟨b, o, hs, hc⟩
  · exact .inl h0
  · refine .inr ⟨b, o, hs, fun i A hA j u hu => ?_⟩
    have h1 := hc i A hA j u hu
    exact (World.cell?_of_block (a := ⟨b, o + i * 5 + j, none⟩) (g.block b (World.block_lt_of_cell? w _ h1) (by simp))).trans h1
theorem IActsAre.at {w wr : World} {s : Option Addr} {l : Nat} {As : List IActV} (h : IActsAre w s l As) (g : w.grownBy wr none) {j : Nat} {A : IActV} (hA : As[j]? = some A) :
    ∃ b o, s = some ⟨b, o, none⟩ ∧ wr.cell? ⟨b, o + j * 5, none⟩ = some (.int .i64 A.k) ∧ wr.cell? ⟨b, o + j * 5 + 1, none⟩ = some (.int .i64 A.i) ∧ wr.cell? ⟨b, o + j * 5 + 2, none⟩ = some (.int .i64 A.n) ∧ wr.cell? ⟨b, o + j * 5 + 3, none⟩ = some (.slice A.s A.l A.c) ∧ wr.cell? ⟨b, o + j * 5 + 4, none⟩ = some (.bool A.raw) := by
  have hj := (List.getElem?_eq_some_iff.1 hA).1
  rcases h.cells with h0 | ⟨b, o, hs, hc⟩
  · have := h.len; omega
  · have key : ∀ q u, (iactCells A)[q]? = some u → wr.cell? ⟨b, o + j * 5 + q, none⟩ = some u := fun q u hq => by
      have h1 := hc j A hA q u hq
      exact (World.cell?_of_block (a := ⟨b, o + j * 5 + q, none⟩) (g.block b (World.block_lt_of_cell? w _ h1) (by simp))).trans h1
    exact ⟨b, o, hs, key 0 _ rfl, key 1 _ rfl, key 2 _ rfl, key 3 _ rfl, key 4 _ rfl⟩

/-- A round's box. -/
def IActB (w : World) (y : Nat) (A : IActV) : Prop := w.heap[y]? = some (.cells #[.int .i64 A.k, .int .i64 A.i, .int .i64 A.n, .slice A.s A.l A.c, .bool A.raw] 34 (0, 0))
section
variable {w wx w2 w' : World} {y : Nat} {A : IActV}
theorem IActB.at (h : IActB w y A) : w.cell? ⟨y, 0, none⟩ = some (.int .i64 A.k) ∧ w.cell? ⟨y, 1, none⟩ = some (.int .i64 A.i) ∧ w.cell? ⟨y, 2, none⟩ = some (.int .i64 A.n) ∧ w.cell? ⟨y, 3, none⟩ = some (.slice A.s A.l A.c) ∧ w.cell? ⟨y, 4, none⟩ = some (.bool A.raw) :=
  ⟨by rw [cell_of_row _ _ _ _ _ _ h]; rfl, by rw [cell_of_row _ _ _ _ _ _ h]; rfl, by rw [cell_of_row _ _ _ _ _ _ h]; rfl, by rw [cell_of_row _ _ _ _ _ _ h]; rfl, by rw [cell_of_row _ _ _ _ _ _ h]; rfl⟩
theorem IActB.lt (h : IActB w y A) : y < w.heap.size := (Array.getElem?_eq_some_iff.1 h).1
theorem IActB.grow (h : IActB w y A) (g : w.grownBy w' none) : IActB w' y A := (g.block _ h.lt (by simp)).trans h
theorem IActB.turn {O : List Nat} (h : IActB w y A) (g : Turn O w w') (ho : y ∉ O) : IActB w' y A := (g.block _ h.lt ho).trans h
theorem IActB.new (w : World) (A : IActV) : IActB (w.alloc (.cells #[.int .i64 A.k, .int .i64 A.i, .int .i64 A.n, .slice A.s A.l A.c, .bool A.raw] 34 (0, 0))) w.heap.size A := heap_alloc_new w _

theorem bytes_ok (A : IActV) (h : A.Ok w) (hl : A.l ≤ 5000) :
    Calls Try.prog 20 #[.agg #[.int .i64 A.k, .int .i64 A.i, .int .i64 A.n, .slice A.s A.l A.c, .bool A.raw]] w fun e w' => ∃ s c, e = .returned (.slice s (bytesV A).length c) ∧ Src w' s (bytesV A).length (bytesV A) ∧ w.grownBy w' none ∧ ((s = A.s ∧ A.raw = true) ∨ ∃ g, s = some ⟨g, 0, none⟩ ∧ w.heap.size ≤ g) := by
  have hsz := World.size_alloc w (.cells #[.int .i64 A.k, .int .i64 A.i, .int .i64 A.n, .slice A.s A.l A.c, .bool A.raw] 34 (0, 0))
  have hb := IActB.new w A
  have ga := World.grownBy_alloc w (.cells #[.int .i64 A.k, .int .i64 A.i, .int .i64 A.n, .slice A.s A.l A.c, .bool A.raw] 34 (0, 0)) none
  have hs := h.src.grown ga
  have hlen := h.len
  generalize hwA : w.alloc (.cells #[.int .i64 A.k, .int .i64 A.i, .int .i64 A.n, .slice A.s A.l A.c, .bool A.raw] 34 (0, 0)) = wA at *
  obtain ⟨b0, b1, b2, b3, b4⟩ := hb.at
  have HS := Lib.hid hs
  have HG := Lib.hid ga
  have HP := Lib.hid (page_ok A.c hs (by omega))
  obtain ⟨k, i, n, s, l, c, bs, raw⟩ := A
  simp only at *
  clear h hb ga hs
  cases raw
  · rw [show bytesV ⟨k, i, n, s, l, c, bs, false⟩ = fillOf bs from rfl, fillOf_len]
    go_enter Try.func20, Try.ntmps20
    go_wp2_with fail
    refine HP.out.mono ?_
    rintro e w2 ⟨g, rfl, hg, h2, g2⟩
    have H2 := Lib.hid h2
    have HG2 := Lib.hid (grown_trans HG.out g2)
    clear h2 g2
    go_wp2_with fail
    go_ret
    refine ⟨_, _, rfl, ?_, HG2.out, .inr ⟨g, rfl, by omega⟩⟩
    have := H2.out.src
    rw [fillOf_len] at this
    exact this
  · rw [show bytesV ⟨k, i, n, s, l, c, bs, true⟩ = bs from rfl, hlen]
    go_enter Try.func20, Try.ntmps20
    go_wp2_with fail
    go_ret
    exact ⟨s, c, rfl, HS.out, HG.out, .inl ⟨rfl, by first | rfl | trivial⟩⟩

def lightV (l : Nat) (As : List IActV) : Bool := decide (l ≤ 60) && As.all fun A => decide (A.l ≤ 5000)
theorem light_ok {s : Option Addr} {l : Nat} (c : Nat) {As : List IActV} (h : IActsAre w s l As) :
    Calls Try.prog 9 #[.slice s l c] w fun e w' => e = .returned (.bool (lightV l As)) ∧ w.grownBy w' none := by
  have HA := Lib.hid h
  have hlen := h.len
  clear h
  by_cases hl : l > 60
  · rw [show lightV l As = false by unfold lightV; rw [decide_eq_false (by omega)]; rfl]
    have hb : decide ((l : Int) > 60) = true := by simp; omega
    go_enter Try.func9, Try.ntmps9
    go_wp2_with fail
    go_ret
    exact ⟨rfl, grown_refl _ _⟩
  · have hb : decide ((l : Int) > 60) = false := by simp; omega
    have hl2 : l ≤ 60 := by omega
    have hlv : lightV l As = As.all fun A => decide (A.l ≤ 5000) := by unfold lightV; rw [decide_eq_true hl2]; rfl
    obtain ⟨d, hd⟩ : ∃ d, lightV l As = d := ⟨_, rfl⟩
    have HD := Lib.hid (hlv.symm.trans hd)
    rw [hd]
    clear hl hlv hd
    go_enter Try.func9, Try.ntmps9
    go_wp2_with fail
    go_loopw [4, 10] (fun _ iv wr => ∃ j : Nat, j ≤ l ∧ iv = .int .i64 j ∧ Hid (∀ (i : Nat) (B : IActV), i < j → As[i]? = some B → B.l ≤ 5000) ∧ Hid (w.grownBy wr none)) (fun _ iv _ => l - (intOf iv).toNat)
    case atStart => exact ⟨0, by omega, rfl, fun i B hi => by omega, grown_refl _ _⟩
    case round =>
      obtain ⟨j, hj, rfl, HI, HG⟩ := hrel
      by_cases hlt : j < l
      · obtain ⟨A, hAj⟩ : ∃ A, As[j]? = some A := ⟨_, List.getElem?_eq_getElem (by omega)⟩
        obtain ⟨b, o, hs, a0, a1, a2, a3, a4⟩ := HA.out.at HG.out hAj
        subst hs
        have g2 := World.grownBy_alloc wr (.cells #[.int .i64 A.k, .int .i64 A.i, .int .i64 A.n, .slice A.s A.l A.c, .bool A.raw] 34 (0, 0)) none
        have hb := IActB.new wr A
        generalize hwB : wr.alloc (.cells #[.int .i64 A.k, .int .i64 A.i, .int .i64 A.n, .slice A.s A.l A.c, .bool A.raw] 34 (0, 0)) = wB at *
        obtain ⟨b0, b1, b2, b3, b4⟩ := hb.at
        have HG2 := Lib.hid (grown_trans HG.out g2)
        have HAj := Lib.hid hAj
        clear hAj g2 hb
        by_cases hal : A.l > 5000
        · have hb2 : decide ((A.l : Int) > 5000) = true := by simp; omega
          have e : d = false := by
            rw [← HD.out, List.all_eq_false]
            exact ⟨A, List.mem_of_getElem? HAj.out, by simp; omega⟩
          subst e
          go_wp2_with fail
          go_ret
          exact ⟨rfl, HG2.out⟩
        · have hb2 : decide ((A.l : Int) > 5000) = false := by simp; omega
          have HN := Lib.hid (show ∀ (i : Nat) (B : IActV), i < j + 1 → As[i]? = some B → B.l ≤ 5000 from fun i B hi hB => by
            by_cases e : i = j
            · subst e; rw [HAj.out] at hB; cases hB; omega
            · exact HI.out i B (by omega) hB)
          go_wp2_with fail
          go_roundw
          case rel => exact ⟨j + 1, by omega, by go_num, HN.out, HG2.out⟩
          case measure => simp [intOf]; omega
      · obtain rfl : j = l := by omega
        have e : d = true := by
          rw [← HD.out, List.all_eq_true]
          intro A hA
          obtain ⟨i, hi⟩ := List.getElem?_of_mem hA
          exact decide_eq_true (HI.out i A (by have := (List.getElem?_eq_some_iff.1 hi).1; omega) hi)
        subst e
        go_wp2_with fail
        go_ret
        exact ⟨rfl, HG.out⟩
theorem lightV_all {l : Nat} {As : List IActV} (h : lightV l As = true) : l ≤ 60 ∧ ∀ A, A ∈ As → A.l ≤ 5000 := by
  unfold lightV at h
  rw [Bool.and_eq_true, decide_eq_true_iff, List.all_eq_true] at h
  exact ⟨h.1, fun A hA => by simpa using h.2 A hA⟩
end

set_option maxRecDepth 100000 in
theorem iacts_of_trod {H : Type} {enc : TypeId × Value → H} {w : World} {base : Nat} {spare : Nat → Bool} {held : Bool} {fuel : Nat} {s : Option Addr} {l c : Nat} {x : DataW H × List MemPlace}
    (h : DataW.trod enc Try.prog w base spare held fuel 22 [.slice s l c] = some x) : ∃ As, IActsAre w s l As := by
  obtain ⟨css, hr, hck⟩ := rows_of_trod (d := 5) (ks := [.int .i64, .int .i64, .int .i64, .slice 32, .bool]) Try.underlying22 (by kernel_rfl) (by kernel_rfl) (by simp) h
  have key : ∀ cs, cs ∈ css → ∃ A : IActV, iactCells A = cs ∧ A.Ok w := by
    intro cs hcs
    have hl := hr.each cs hcs
    have hk := hck cs hcs
    match cs, hl with
    | [a, b, b2, e, f], _ =>
      obtain ⟨k, rfl, hk0⟩ := hk 0 _ _ rfl rfl
      obtain ⟨i, rfl, hi0⟩ := hk 1 _ _ rfl rfl
      obtain ⟨n, rfl, hn0⟩ := hk 2 _ _ rfl rfl
      obtain ⟨fu, y, hy⟩ := hk 3 _ _ rfl rfl
      obtain ⟨raw, rfl⟩ := hk 4 _ _ rfl rfl
      obtain ⟨s1, l1, c1, rfl⟩ := slice_of_trod Try.underlying32 hy
      obtain ⟨bs, hsrc, -⟩ := src_of_trod Try.underlying32 Try.underlying5 (by kernel_rfl) hy
      exact ⟨⟨k, i, n, s1, l1, c1, bs, raw⟩, rfl, wf_ok64 hk0, wf_ok64 hi0, wf_ok64 hn0, hsrc⟩
  obtain ⟨As, hl, hAs⟩ := list_all l (fun i (A : IActV) => css[i]? = some (iactCells A) ∧ A.Ok w) fun i hi => by
    have hg : css[i]? = some (css[i]'(by rw [hr.len]; exact hi)) := List.getElem?_eq_getElem (by rw [hr.len]; exact hi)
    obtain ⟨A, h1, h2⟩ := key _ (List.mem_of_getElem? hg)
    exact ⟨A, by rw [hg, h1], h2⟩
  refine ⟨As, hl, ?_, fun A hA => ?_⟩
  · rcases hr.cells with h1 | ⟨g, o, hs, hc⟩
    · exact .inl h1
    · exact .inr ⟨g, o, hs, fun i A hi j u hu => hc i _ (hAs i A hi).1 j u hu⟩
  · obtain ⟨i, hi⟩ := List.getElem?_of_mem hA
    exact (hAs i A hi).2
end Go.Proofs.Ytlaniifbfgcfaaa
