/- WalkWalks, walked out of what package walk says: it answers true, and nothing that was there has turned. -/
import Derived.Test.YtomkhdefjfjlnaaWPlaces
import Derived.Test.YtomkhdefjfjlnaaWOpen
namespace Go.Proofs.Ytomkhdefjfjlnaa
open Go.ChangeShapes Go.WideShapes Go.ChangeAt Go.RowKit Go.Deep
set_option linter.unusedVariables false

/-- An address, and how it is to be reached. -/
structure AskV where
  root : Int
  va : Int
  a : Int
  u : Bool

structure AskAt (w : World) (g p : Nat) (A : AskV) : Prop where
  c0 : w.cell? ⟨g, p, none⟩ = some (.int .i64 A.root)
  c1 : w.cell? ⟨g, p + 1, none⟩ = some (.int .i64 A.va)
  c2 : w.cell? ⟨g, p + 2, none⟩ = some (.int .i64 A.a)
  c3 : w.cell? ⟨g, p + 3, none⟩ = some (.bool A.u)
  r : okI A.root
  v : okI A.va
  k : okI A.a

structure AsksAre (w : World) (s : Option Addr) (l : Nat) (As : List AskV) : Prop where
  len : As.length = l
  cells : l = 0 ∨ ∃ g o, s = some ⟨g, o, none⟩ ∧ ∀ i A, As[i]? = some A → AskAt w g (o + i * 4) A

theorem AskAt.below {w w' : World} {g p : Nat} {A : AskV} (h : AskAt w g p A) (b : Below w.heap.size w w') : AskAt w' g p A := by
  have hg : g < w.heap.size := World.block_lt_of_cell? w ⟨g, p, none⟩ h.c0
  have e : ∀ q, w'.cell? ⟨g, q, none⟩ = w.cell? ⟨g, q, none⟩ := fun q => b.cell (p := ⟨g, q, none⟩) hg
  exact ⟨(e _).trans h.c0, (e _).trans h.c1, (e _).trans h.c2, (e _).trans h.c3, h.r, h.v, h.k⟩
theorem AsksAre.get {w : World} {s : Option Addr} {l : Nat} {As : List AskV} (h : AsksAre w s l As) (q : Nat) (hq : q < l) : ∃ A g o, s = some ⟨g, o, none⟩ ∧ AskAt w g (o + q * 4) A := by
  rcases h.cells with h0 | ⟨g, o, hs, hc⟩
  · omega
  · exact ⟨_, g, o, hs, hc q _ (List.getElem?_eq_getElem (by rw [h.len]; exact hq))⟩

def AskCells (A : AskV) : List Value := [.int .i64 A.root, .int .i64 A.va, .int .i64 A.a, .bool A.u]

theorem ask_of_trod {H : Type} {enc : TypeId × Value → H} {w : World} {base : Nat} {spare : Nat → Bool} {held : Bool} {fuel : Nat} {cs : List Value} {x : DataW H × List MemPlace}
    (h : DataW.trod enc Try.prog w base spare held fuel 30 cs = some x) : ∃ A : AskV, cs = AskCells A ∧ okI A.root ∧ okI A.va ∧ okI A.a := by
  obtain ⟨hlen, m, hf⟩ := struct_cells Try.underlying30 (by kernel_rfl) (by kernel_rfl) h
  obtain ⟨v0, y0, e0, t0⟩ := hf 0 _ rfl
  obtain ⟨v1, y1, e1, t1⟩ := hf 1 _ rfl
  obtain ⟨v2, y2, e2, t2⟩ := hf 2 _ rfl
  obtain ⟨v3, y3, e3, t3⟩ := hf 3 _ rfl
  obtain ⟨a, rfl, wa⟩ := int_of_trod Try.underlying3 t0
  obtain ⟨b, rfl, wb⟩ := int_of_trod Try.underlying3 t1
  obtain ⟨c, rfl, wc⟩ := int_of_trod Try.underlying3 t2
  obtain ⟨d, rfl⟩ : ∃ d, v3 = .bool d := by
    obtain ⟨d, hd, _⟩ := DataW.trod_bool Try.underlying4 t3
    exact ⟨d, by simpa using hd⟩
  obtain ⟨p0, p1, p2, p3, rfl⟩ := len4 (l := cs) hlen
  simp at e0 e1 e2 e3
  subst e0 e1 e2 e3
  exact ⟨⟨a, b, c, d⟩, rfl, okI_wf wa, okI_wf wb, okI_wf wc⟩

theorem asks_of_trod {H : Type} {enc : TypeId × Value → H} {w : World} {base : Nat} {spare : Nat → Bool} {held : Bool} {fuel : Nat} {s : Option Addr} {l c : Nat} {x : DataW H × List MemPlace}
    (h : DataW.trod enc Try.prog w base spare held fuel 23 [.slice s l c] = some x) : ∃ As, AsksAre w s l As := by
  have hC : Try.prog.cellsOf 30 = 4 := by kernel_rfl
  rcases DataW.trod_slice Try.underlying23 h with ⟨hcs, _⟩ | ⟨a, len, cap, elems, rest, m, _, hcs, _, _, _, _, hlen, hel, _⟩
  · simp at hcs
    obtain ⟨rfl, rfl, rfl⟩ := hcs
    exact ⟨[], rfl, .inl rfl⟩
  · simp at hcs
    obtain ⟨rfl, rfl, rfl⟩ := hcs
    by_cases h0 : l = 0
    · subst h0
      exact ⟨[], rfl, .inl rfl⟩
    · have key : ∀ i, i < l → ∃ A : AskV, (∀ j, j < 4 → w.cell? ((a.add (i * 4)).add j) = (AskCells A)[j]?) ∧ okI A.root ∧ okI A.va ∧ okI A.a := by
        intro i hi
        have h1 := hel i hi
        rw [hC] at h1
        have he : elems[i]? = some (elems[i]'(by omega)) := List.getElem?_eq_getElem (by omega)
        rw [he] at h1
        obtain ⟨cs, hcells, htr⟩ := Option.bind_eq_some_iff.1 h1
        obtain ⟨_, _, hat⟩ := World.cells?_some hcells
        obtain ⟨A, rfl, q1, q2, q3⟩ := ask_of_trod htr
        exact ⟨A, hat, q1, q2, q3⟩
      obtain ⟨g, o, spot⟩ := a
      have hspot : spot = none := by
        obtain ⟨A, hat, _⟩ := key 0 (by omega)
        have h1 := hat 0 (by omega)
        simpa [Addr.add] using World.cell?_spot (v := .int .i64 A.root) (by simpa [Addr.add, AskCells] using h1)
      subst hspot
      obtain ⟨As, hl, hAs⟩ := list_of_forall l (fun i A => AskAt w g (o + i * 4) A) fun i hi => by
        obtain ⟨A, hat, q1, q2, q3⟩ := key i hi
        have hat' : ∀ j, j < 4 → w.cell? ⟨g, o + i * 4 + j, none⟩ = (AskCells A)[j]? := fun j hj => by have := hat j hj; rwa [Addr.add_mid, Addr.add_mid] at this
        exact ⟨A, hat' 0 (by omega), hat' 1 (by omega), hat' 2 (by omega), hat' 3 (by omega), q1, q2, q3⟩
      exact ⟨As, hl, .inr ⟨g, o, rfl, hAs⟩⟩

theorem walkV_form (n : Nat) (L : List UInt8) (r va a : Int) (u : Bool) : ∃ x y z : Int, walkV n L r va a u = .tuple #[.int .i64 x, .int .i64 y, .int .i64 z] := by
  unfold walkV
  split
  · exact ⟨_, _, _, rfl⟩
  · exact ⟨_, _, _, rfl⟩

/-- An ask that is boxed. -/
def AskB (w : World) (y : Nat) (A : AskV) : Prop := w.heap[y]? = some (.cells #[.int .i64 A.root, .int .i64 A.va, .int .i64 A.a, .bool A.u] 30 (0, 0))
theorem AskB.at {w : World} {y : Nat} {A : AskV} (h : AskB w y A) : w.cell? ⟨y, 0, none⟩ = some (.int .i64 A.root) ∧ w.cell? ⟨y, 1, none⟩ = some (.int .i64 A.va) ∧ w.cell? ⟨y, 2, none⟩ = some (.int .i64 A.a) ∧ w.cell? ⟨y, 3, none⟩ = some (.bool A.u) :=
  ⟨by rw [cell_of_row _ _ _ _ _ _ h]; rfl, by rw [cell_of_row _ _ _ _ _ _ h]; rfl, by rw [cell_of_row _ _ _ _ _ _ h]; rfl, by rw [cell_of_row _ _ _ _ _ _ h]; rfl⟩
theorem AskB.grow {w w' : World} {y : Nat} {A : AskV} {r : Option Nat} (h : AskB w y A) (g : w.grownBy w' r) (hr : r ≠ some y) : AskB w' y A := (g.block _ (Array.getElem?_eq_some_iff.1 h).1 (Ne.symm hr)).trans h

set_option maxHeartbeats 4000000 in
theorem walks_walk (HWalk : WalkOk) (w : World) (s : Option Addr) (l c : Nat) (Ws : List WordV) (hW : WordsAre w s l Ws) (s2 : Option Addr) (l2 c2 : Nat) (As : List AskV) (hA : AsksAre w s2 l2 As) :
    Calls Try.prog 3 #[.slice s l c, .slice s2 l2 c2] w fun e w' => e = .returned (.bool true) ∧ Below w.heap.size w w' := by
  have HLv := Lib.hid (lives4 HWalk)
  have HK := Lib.hid HWalk
  have HW := Lib.hid hW
  have HA := Lib.hid hA
  clear HWalk hW hA
  by_cases hbig : 60 < l
  · have d0 : decide ((l : Int) > 60) = true := by simp; omega
    clear hbig
    go_enter Try.func3, Try.ntmps3
    go_wp2_with fail
    refine (HLv.out _).mono ?_
    rintro e w2 ⟨rfl, g2⟩
    have HB := Lib.hid (below_of_grown g2 (Nat.le_refl _) (by simp))
    clear g2
    go_wp2_with fail
    go_ret
    exact ⟨rfl, HB.out⟩
  · have d0 : decide ((l : Int) > 60) = false := by simp; omega
    by_cases hbig2 : 40 < l2
    · have d1 : decide ((l2 : Int) > 40) = true := by simp; omega
      clear hbig hbig2
      go_enter Try.func3, Try.ntmps3
      go_wp2_with fail
      refine (HLv.out _).mono ?_
      rintro e w2 ⟨rfl, g2⟩
      have HB := Lib.hid (below_of_grown g2 (Nat.le_refl _) (by simp))
      clear g2
      go_wp2_with fail
      go_ret
      exact ⟨rfl, HB.out⟩
    · have d1 : decide ((l2 : Int) > 40) = false := by simp; omega
      have hl : l ≤ 1000 := by omega
      have hl2 : l2 ≤ 40 := by omega
      have HC := Lib.hid (clean_made Ws noL clean_noL)
      clear hbig hbig2
      go_enter Try.func3, Try.ntmps3
      go_wp2_with fail
      refine (made_ok w s l c Ws HW.out hl).mono ?_
      rintro e w2 ⟨m, d, r, f, R, rfl, h2⟩
      have HT2 := Lib.hid h2
      clear h2
      go_wp2_with fail
      go_loopw [31] (fun k wr => ∃ (q : Nat) (LL : List UInt8), q ≤ l2 ∧ k = .int .i64 q ∧ Hid (Two w wr m d r f 8 R LL LL) ∧ Hid (Clean 8 LL)) (fun k _ => l2 - (intOf k).toNat)
      case atStart => exact ⟨0, _, by omega, rfl, HT2.out, HC.out⟩
      case round =>
        obtain ⟨q, LL, hq, rfl, HT, HCl⟩ := hrel
        by_cases hlt : q < l2
        · obtain ⟨A, g, o, rfl, hat⟩ := HA.out.get q hlt
          obtain ⟨c0, c1, c2', c3, ok0, ok1, ok2⟩ := hat.below HT.out.st.below
          have HO := Lib.hid (And.intro ok0 (And.intro ok1 ok2))
          have HTA := Lib.hid (HT.out.grow (World.grownBy_alloc wr (.cells #[.int .i64 A.root, .int .i64 A.va, .int .i64 A.a, .bool A.u] 30) none))
          have HYA := Lib.hid (show AskB (wr.alloc (.cells #[.int .i64 A.root, .int .i64 A.va, .int .i64 A.a, .bool A.u] 30)) wr.heap.size A from heap_alloc_new wr _)
          have HYD := Lib.hid (show d ≠ wr.heap.size from fun e => by have := HT.out.st.dlt; omega)
          obtain ⟨k0, k1, k2, k3⟩ := HYA.out.at
          obtain ⟨x, y, z, hv⟩ := walkV_form 8 LL A.root A.va A.a A.u
          have HV := Lib.hid hv
          clear hat hv ok0 ok1 ok2
          go_wp2_with fail
          refine (HK.out w _ m d LL HTA.out.st HCl.out A.root A.va A.a A.u HO.out.1 HO.out.2.1 HO.out.2.2).mono ?_
          rw [HV.out]
          rintro e w5 ⟨rfl, h5, g5⟩
          have HT5 := Lib.hid (HTA.out.left h5 g5)
          have HY5 := Lib.hid (HYA.out.grow g5 (by simpa using HYD.out))
          clear h5 g5 k0 k1 k2 k3
          obtain ⟨k0, k1, k2, k3⟩ := HY5.out.at
          go_wp2_with fail
          refine (ref_walk HT5.out.rs A.root A.va A.a A.u HO.out.2.1).mono ?_
          rw [HV.out]
          rintro e w6 ⟨rfl, h6, k6⟩
          have HT6 := Lib.hid (HT5.out.right h6 k6)
          clear h6 k6
          go_wp2_with fail
          go_roundw
          case rel => exact ⟨q + 1, _, by omega, by go_num, HT6.out, HCl.out.walk _ _ _ _⟩
          case measure => simp [intOf]; omega
        · obtain rfl : q = l2 := by omega
          go_wp2_with fail
          refine (same_yes HT.out).mono ?_
          rintro e w7 ⟨rfl, g7⟩
          have HB7 := Lib.hid (HT.out.st.below.trans (below_of_grown g7 HT.out.st.below.size (by simp)))
          clear g7
          go_wp2_with fail
          refine (HLv.out _).mono ?_
          rintro e w8 ⟨rfl, g8⟩
          have HB := Lib.hid (HB7.out.trans (below_of_grown g8 HB7.out.size (by simp)))
          clear g8
          go_wp2_with fail
          go_ret
          exact ⟨rfl, HB.out⟩
end Go.Proofs.Ytomkhdefjfjlnaa
