/- Layer 4's laws: memories that are made of some words, the program's and the document's alike. -/
import Derived.Test.YtomkhdefjfjlnaaWRef3
import Derived.DataReads
import Derived.Deep.RegionHeld3
namespace Go.Proofs.Ytomkhdefjfjlnaa
open Go.ChangeShapes Go.WideShapes Go.ChangeAt Go.RowKit Go.Deep
set_option linter.unusedVariables false

/-- A word: its frame, its index, and the entry. -/
structure WordV where
  fr : Int
  ix : Int
  fl : Int
  pp : Int

/-- Four cells in memory are a word. -/
structure WordAt (w : World) (g p : Nat) (A : WordV) : Prop where
  c0 : w.cell? ⟨g, p, none⟩ = some (.int .i64 A.fr)
  c1 : w.cell? ⟨g, p + 1, none⟩ = some (.int .i64 A.ix)
  c2 : w.cell? ⟨g, p + 2, none⟩ = some (.int .i64 A.fl)
  c3 : w.cell? ⟨g, p + 3, none⟩ = some (.int .i64 A.pp)

/-- A slice of words. -/
structure WordsAre (w : World) (s : Option Addr) (l : Nat) (Ws : List WordV) : Prop where
  len : Ws.length = l
  cells : l = 0 ∨ ∃ g o, s = some ⟨g, o, none⟩ ∧ ∀ i A, Ws[i]? = some A → WordAt w g (o + i * 4) A

theorem WordAt.below {w w' : World} {g p : Nat} {A : WordV} (h : WordAt w g p A) (b : Below w.heap.size w w') : WordAt w' g p A := by
  have hg : g < w.heap.size := World.block_lt_of_cell? w ⟨g, p, none⟩ h.c0
  have e : ∀ q, w'.cell? ⟨g, q, none⟩ = w.cell? ⟨g, q, none⟩ := fun q => b.cell (p := ⟨g, q, none⟩) hg
  exact ⟨(e _).trans h.c0, (e _).trans h.c1, (e _).trans h.c2, (e _).trans h.c3⟩
theorem WordsAre.below {w w' : World} {s : Option Addr} {l : Nat} {Ws : List WordV} (h : WordsAre w s l Ws) (b : Below w.heap.size w w') : WordsAre w' s l Ws := by
  refine ⟨h.len, ?_⟩
  rcases h.cells with h0 | ⟨g, o, hs, hc⟩
  · exact .inl h0
  · exact .inr ⟨g, o, hs, fun i A hi => (hc i A hi).below b⟩
theorem WordsAre.get {w : World} {s : Option Addr} {l : Nat} {Ws : List WordV} (h : WordsAre w s l Ws) (q : Nat) (hq : q < l) : ∃ A g o, Ws[q]? = some A ∧ s = some ⟨g, o, none⟩ ∧ WordAt w g (o + q * 4) A := by
  rcases h.cells with h0 | ⟨g, o, hs, hc⟩
  · omega
  · exact ⟨_, g, o, List.getElem?_eq_getElem (by rw [h.len]; exact hq), hs, hc q _ (List.getElem?_eq_getElem (by rw [h.len]; exact hq))⟩

/-- The bytes that words leave. -/
def madeL (L : List UInt8) : List WordV → List UInt8
  | [] => L
  | A :: Ws => madeL (setL 8 L A.fr A.ix (encOf A.fl A.pp)) Ws
theorem madeL_snoc (A : WordV) : ∀ (Ws : List WordV) (L : List UInt8), madeL L (Ws ++ [A]) = setL 8 (madeL L Ws) A.fr A.ix (encOf A.fl A.pp)
  | [], _ => rfl
  | B :: Ws, L => madeL_snoc A Ws _
def noL : List UInt8 := List.replicate (8 * 4096) 0

theorem okU_encOf (F P : Int) : okU (encOf F P) := by unfold encOf; exact ⟨by omega, by omega⟩

theorem St.lower {w0 w1 w : World} {m d n : Nat} {L : List UInt8} (h : St w1 w m d n L) (b : Below w0.heap.size w0 w1) : St w0 w m d n L :=
  ⟨h.mem, b.trans (h.below.mono b.size), Nat.le_trans b.size h.dge, Nat.le_trans b.size h.mge⟩
theorem RS.lower {w0 w1 w : World} {r f n : Nat} {R : List Nat} {L : List UInt8} (h : RS w1 w r f n R L) (b : Below w0.heap.size w0 w1) : RS w0 w r f n R L :=
  ⟨h.mem, b.trans (h.below.mono b.size), Nat.le_trans b.size h.rge, Nat.le_trans b.size h.fge, fun p hp => Nat.le_trans b.size (h.Rge p hp)⟩
theorem Two.lower {w0 w1 w : World} {m d r f n : Nat} {R : List Nat} {L M : List UInt8} (h : Two w1 w m d r f n R L M) (b : Below w0.heap.size w0 w1) : Two w0 w m d r f n R L M :=
  ⟨h.st.lower b, h.rs.lower b, h.dR, h.mR, h.dr, h.df⟩

/-- One memory's word stored, and the other one's. -/
theorem Two.left {w0 w w' : World} {m d r f n : Nat} {R : List Nat} {L L' M : List UInt8} (h : Two w0 w m d r f n R L M) (s : St w0 w' m d n L') (g : w.grownBy w' (some d)) : Two w0 w' m d r f n R L' M :=
  ⟨s, h.rs.grow' g h.st.dge h.dr h.df h.dR, h.dR, h.mR, h.dr, h.df⟩
theorem Two.right {w0 w w' : World} {m d r f n : Nat} {R : List Nat} {L M M' : List UInt8} (h : Two w0 w m d r f n R L M) (s : RS w0 w' r f n R M') (k : Kept R w w') : Two w0 w' m d r f n R L M' :=
  ⟨h.st.past k s.below h.mR h.dR, s, h.dR, h.mR, h.dr, h.df⟩

/-- A word that is boxed. -/
def WordB (w : World) (y : Nat) (A : WordV) : Prop := w.heap[y]? = some (.cells #[.int .i64 A.fr, .int .i64 A.ix, .int .i64 A.fl, .int .i64 A.pp] 66 (0, 0))
theorem WordB.at {w : World} {y : Nat} {A : WordV} (h : WordB w y A) : w.cell? ⟨y, 0, none⟩ = some (.int .i64 A.fr) ∧ w.cell? ⟨y, 1, none⟩ = some (.int .i64 A.ix) ∧ w.cell? ⟨y, 2, none⟩ = some (.int .i64 A.fl) ∧ w.cell? ⟨y, 3, none⟩ = some (.int .i64 A.pp) :=
  ⟨by rw [cell_of_row _ _ _ _ _ _ h]; rfl, by rw [cell_of_row _ _ _ _ _ _ h]; rfl, by rw [cell_of_row _ _ _ _ _ _ h]; rfl, by rw [cell_of_row _ _ _ _ _ _ h]; rfl⟩
theorem WordB.lt {w : World} {y : Nat} {A : WordV} (h : WordB w y A) : y < w.heap.size := (Array.getElem?_eq_some_iff.1 h).1
theorem WordB.grow {w w' : World} {y : Nat} {A : WordV} {r : Option Nat} (h : WordB w y A) (g : w.grownBy w' r) (hr : r ≠ some y) : WordB w' y A := (g.block _ h.lt (Ne.symm hr)).trans h
theorem WordB.kept {w w' : World} {R : List Nat} {y : Nat} {A : WordV} (h : WordB w y A) (k : Kept R w w') (hy : y ∉ R) : WordB w' y A := (k _ h.lt hy).trans h

set_option maxHeartbeats 4000000 in
theorem made_ok (w : World) (s : Option Addr) (l c : Nat) (Ws : List WordV) (hW : WordsAre w s l Ws) (hl : l ≤ 1000) :
    Calls Try.prog 9 #[.slice s l c] w fun e w' => ∃ m d r f R, e = .returned (.tuple #[.pointer (some ⟨m, 0, none⟩), .pointer (some ⟨r, 0, none⟩)]) ∧ Two w w' m d r f 8 R (madeL noL Ws) (madeL noL Ws) := by
  have HW := Lib.hid hW
  clear hW
  go_enter Try.func9, Try.ntmps9
  go_wp2_with fail
  refine (newE w (Below.refl _ w) _ 8 rfl (by decide) (by decide)).mono ?_
  rintro e w2 ⟨rfl, h2, hG2⟩
  have hdm : w.heap.size ≠ w.heap.size + 1 := by omega
  have hd2 := h2.dlt
  have hm2 := h2.mlt
  have HS2 := Lib.hid h2
  have HD := Lib.hid (show ∃ m d, m = w.heap.size + 1 ∧ d = w.heap.size from ⟨_, _, rfl, rfl⟩)
  clear h2 hG2
  go_wp2_with fail
  refine (rnew_ok 8 _ (by decide) (by decide)).mono ?_
  rintro e w3 ⟨rfl, R, v, hN3⟩
  obtain ⟨f, hrs⟩ := hN3.rs HS2.out.below (by decide) (by decide)
  have hg3 := grown_of_below hN3.below none
  have HT3 : Hid (Two w w3 (w.heap.size + 1) w.heap.size w2.heap.size f 8 R noL noL) := by
    have hst := HS2.out.grow hg3
    have hRge := hN3.Rge
    refine ⟨hst, hrs, fun e => ?_, fun e => ?_, by omega, fun e => ?_⟩
    · have := hRge _ e; omega
    · have := hRge _ e; omega
    · obtain ⟨cur, hc, _⟩ := hrs.mem.table
      have hb := hst.mem.body
      rw [e, hc] at hb
      simp only [Option.some.injEq, Obj.cells.injEq] at hb
      exact absurd hb.2.1 (by decide)
  generalize w2.heap.size = r at *
  clear hN3 hrs hg3 HD hdm hd2 hm2
  go_wp2_with fail
  go_loopw [12] (fun k wr => ∃ q : Nat, q ≤ l ∧ k = .int .i64 q ∧ Hid (Two w wr (w.heap.size + 1) w.heap.size r f 8 R (madeL noL (Ws.take q)) (madeL noL (Ws.take q)))) (fun k _ => l - (intOf k).toNat)
  case atStart => exact ⟨0, by omega, rfl, HT3.out⟩
  case round =>
    obtain ⟨q, hq, rfl, HT⟩ := hrel
    by_cases hlt : q < l
    · obtain ⟨A, g, o, hA, rfl, hat⟩ := HW.out.get q hlt
      obtain ⟨c0, c1, c2, c3⟩ := hat.below HT.out.st.below
      have HAq := Lib.hid hA
      clear hA hat
      obtain ⟨LL, hLL⟩ : ∃ LL, madeL noL (Ws.take q) = LL := ⟨_, rfl⟩
      have hs : madeL noL (Ws.take (q + 1)) = setL 8 LL A.fr A.ix (encOf A.fl A.pp) := by
        rw [List.take_add_one, HAq.out, ← hLL]; exact madeL_snoc A _ _
      rw [hLL] at HT
      have HSn := Lib.hid hs
      have hga := grown_trans (World.grownBy_alloc wr (.cells #[.int .i64 A.fr, .int .i64 A.ix, .int .i64 A.fl, .int .i64 A.pp] 66) none) (grown_drew (wr.alloc (.cells #[.int .i64 A.fr, .int .i64 A.ix, .int .i64 A.fl, .int .i64 A.pp] 66)))
      have HTA := Lib.hid (HT.out.grow hga)
      have HYA := Lib.hid (show WordB (wr.alloc (.cells #[.int .i64 A.fr, .int .i64 A.ix, .int .i64 A.fl, .int .i64 A.pp] 66)).drew wr.heap.size A from heap_alloc_new wr _)
      have HYR := Lib.hid (show wr.heap.size ∉ R from fun e => by have := HT.out.rs.mem.Rlt _ e; omega)
      have HYD := Lib.hid (show w.heap.size ≠ wr.heap.size from fun e => by have := HT.out.st.dlt; omega)
      have hk := HYA.out.at
      clear hga hLL hs
      go_wp2_with fail
      go_region_held3 (fun w' => w'.cell? ⟨wr.heap.size, 0, none⟩ = some (.int .i64 A.fr) ∧ w'.cell? ⟨wr.heap.size, 1, none⟩ = some (.int .i64 A.ix) ∧ w'.cell? ⟨wr.heap.size, 2, none⟩ = some (.int .i64 A.fl) ∧ w'.cell? ⟨wr.heap.size, 3, none⟩ = some (.int .i64 A.pp)) (exact hk)
        (first
          | (go_at_call 24; with_reducible refine ((ref_encode_ok _ _ _).mono ?_); rintro e w5 ⟨rfl, h5⟩; replace HTA := Lib.hid (HTA.out.grow (grown_of_below' h5)); replace HYA := Lib.hid (HYA.out.grow (grown_of_below' h5) (by simp)); replace hk := HYA.out.at; clear h5)
          | (go_at_call 23; with_reducible refine ((setWordA HTA.out.st _ _ _ (okU_encOf _ _)).mono ?_); rintro e w6 ⟨⟨b6, rfl⟩, h6, g6⟩; replace HTA := Lib.hid (HTA.out.left h6 g6); replace HYA := Lib.hid (HYA.out.grow g6 (by simpa using HYD.out)); replace hk := HYA.out.at; clear h6 g6))
      all_goals
        have HTB := Lib.hid (HTA.out.grow (grown_drew _))
        have HYB := Lib.hid (HYA.out.grow (grown_drew _) (by simp))
        replace hk := HYB.out.at
        go_wp2_with fail
        go_region_held3 (fun w' => w'.cell? ⟨wr.heap.size, 0, none⟩ = some (.int .i64 A.fr) ∧ w'.cell? ⟨wr.heap.size, 1, none⟩ = some (.int .i64 A.ix) ∧ w'.cell? ⟨wr.heap.size, 2, none⟩ = some (.int .i64 A.fl) ∧ w'.cell? ⟨wr.heap.size, 3, none⟩ = some (.int .i64 A.pp)) (exact hk)
          (first
            | (go_at_call 24; with_reducible refine ((ref_encode_ok _ _ _).mono ?_); rintro e w7 ⟨rfl, h7⟩; replace HTB := Lib.hid (HTB.out.grow (grown_of_below' h7)); replace HYB := Lib.hid (HYB.out.grow (grown_of_below' h7) (by simp)); replace hk := HYB.out.at; clear h7)
            | (go_at_call 28; with_reducible refine ((rsetWordA HTB.out.rs _ _ _ (okU_encOf _ _)).mono ?_); rintro e w8 ⟨⟨b8, rfl⟩, h8, k8⟩; replace HTB := Lib.hid (HTB.out.right h8 k8); replace HYB := Lib.hid (HYB.out.kept k8 HYR.out); replace hk := HYB.out.at; clear h8 k8))
        all_goals
          go_wp2_with fail
          go_roundw
          case rel => exact ⟨q + 1, by omega, by go_num, by rw [HSn.out]; exact HTB.out⟩
          case measure => simp [intOf]; omega
    · obtain rfl : q = l := by omega
      have hx : Ws.take q = Ws := List.take_of_length_le (by rw [HW.out.len]; omega)
      rw [hx] at HT
      clear hx
      go_wp2_with fail
      go_ret2
      exact ⟨_, _, _, _, _, rfl, HT.out⟩
end Go.Proofs.Ytomkhdefjfjlnaa
