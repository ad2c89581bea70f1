/- PhysOwn answers true, whatever the bytes and the place, and changes nothing that was there. -/
import Derived.Test.YtdkfgniajlbifaaOwn
namespace Go.Proofs.Ytdkfgniajlbifaa
open Go.ChangeShapes Go.WideShapes Go.ChangeAt Go.RowKit
open Extern.Stop (cell)
set_option linter.unusedVariables false

/-- The world in PhysOwn's loop: the memory, the slice of the law's own, and the page that was told. -/
structure OwnW (w wr : World) (m d g l cap p : Nat) (L : List UInt8) : Prop where
  st : St w wr m d 1 L
  own : ∃ bs, Own wr g l cap bs
  page : wr.heap[p]? = some (.cells ((pageOf L 0).map cell).toArray 67 (0, 0))

theorem OwnW.step {w wr : World} {m d g l cap p : Nat} {L : List UInt8} (h : OwnW w wr m d g l cap p L) (q : Nat) (x : Int) (hq : q < l) (h0 : 0 ≤ x) (h1 : x < 256) (hgw : w.heap.size ≤ g) (hm : g ≠ m) (hd : g ≠ d) (hp : g ≠ p) :
    OwnW w (wr.setCell ⟨g, q, none⟩ (.int .u8 x)) m d g l cap p L := by
  obtain ⟨bs, hO⟩ := h.own
  have G := grown_setCells wr g q [.int .u8 x]
  exact ⟨h.st.grow' G hgw hm hd, ⟨_, hO.set q x hq h0 h1⟩, blk_kept h.page G (by simpa using hp)⟩

set_option maxHeartbeats 1000000 in
set_option maxRecDepth 100000 in
theorem own_walk0 (w : World) (s0 : Option Addr) (l0 c0 : Nat) (b0 : List UInt8) (S0 : Src w s0 l0 b0) (i : Nat) :
    Calls Try.prog 6 #[.slice s0 l0 c0, .int .u64 i] w fun e w' => e = .returned (.bool true) ∧ Below w.heap.size w w' := by
  have HS0 := Lib.hid S0
  clear S0
  by_cases hbig : 5000 < l0
  · have d0 : decide ((l0 : Int) > 5000) = true := by simp; omega
    clear hbig
    go_enter Try.func6, Try.ntmps6
    go_wp2_with fail
    refine (newE w (Below.refl _ _) _ 1 rfl (by omega) (by omega)).mono ?_
    rintro e w1 ⟨rfl, h1, -⟩
    have H1 := Lib.hid h1
    clear h1
    go_wp2_with fail
    refine (livesE H1.out).mono ?_
    rintro e w2 ⟨rfl, h2, -⟩
    have H2 := Lib.hid h2
    clear h2
    go_wp2_with fail
    go_ret
    exact ⟨rfl, H2.out.below⟩
  · have d0 : decide ((l0 : Int) > 5000) = false := by simp; omega
    have hl0 : l0 ≤ 5000 := by omega
    clear hbig
    obtain ⟨k, hk⟩ : ∃ k, k = i % 4096 := ⟨_, rfl⟩
    have hik : (i : Int) % 4096 = (k : Int) := by omega
    have hk4 : k < 4096 := by omega
    clear hk
    go_enter Try.func6, Try.ntmps6
    go_wp2_with fail
    refine (newE w (Below.refl _ _) _ 1 rfl (by omega) (by omega)).mono ?_
    rintro e w1 ⟨rfl, h1, -⟩
    generalize w.heap.size + 1 = m at *
    have HL0 : Hid ((List.replicate (1 * 4096) (0 : UInt8)).length = 1 * 4096) := List.length_replicate
    generalize List.replicate (1 * 4096) (0 : UInt8) = L0 at *
    have H1 := Lib.hid h1
    have hm1 := h1.mlt
    have hd1 := h1.dlt
    have hw1 := h1.below.size
    have HA : Hid (St w (w1.alloc (.cells #[] 5)) m w.heap.size 1 L0) := h1.grow (World.grownBy_alloc w1 _ none)
    clear h1
    go_wp2_with (at_builtin; refine wpList_clone rfl _ _ rfl w1.heap.size (heap_alloc_new w1 _) rfl s0 l0 c0 b0 rfl (HS0.out.below HA.out.below) (by omega) ?_; intro g cap w2 hgg hO hG2)
    have h2 := HA.out.grow' hG2 (by omega) (by omega) (by omega)
    have HO := Lib.hid hO
    have H2 := Lib.hid h2
    clear hO h2 hG2
    go_wp2_with fail
    refine (fillE H2.out _ 0 rfl (by omega) (some ⟨g, 0, none⟩) l0 cap b0 HO.out.src).mono ?_
    rintro e w3 ⟨rfl, h3, hG3⟩
    have hO3 := HO.out.kept hG3 (by simp; omega)
    generalize splice L0 (0 * 4096) (fillOf b0) = L3 at *
    have HO3 := Lib.hid hO3
    have H3 := Lib.hid h3
    clear h3 hG3 hO3
    go_wp2_with fail
    refine (pageE H3.out _ 0 rfl (by omega)).mono ?_
    rintro e w4 ⟨rfl, h4, hG4, hpage⟩
    have hgp := HO3.out.lt
    have hmp := H3.out.mlt
    have hdp := H3.out.dlt
    generalize w3.heap.size = p at *
    have HW4 : Hid (OwnW w w4 m w.heap.size g l0 cap p L3) := ⟨h4, ⟨_, HO3.out.kept hG4 (by simp)⟩, hpage⟩
    clear h4 hG4 hpage
    go_wp2_with fail
    go_loopw [33] (fun k wr => ∃ q : Nat, q ≤ l0 ∧ k = .int .i64 q ∧ OwnW w wr m w.heap.size g l0 cap p L3) (fun k _ => l0 - (intOf k).toNat)
    case atStart => exact ⟨0, by omega, rfl, HW4.out⟩
    case round =>
      obtain ⟨q, hq, rfl, hW⟩ := hrel
      have HW := Lib.hid hW
      by_cases hlt : q < l0
      · obtain ⟨bs, hO⟩ := hW.own
        have hc := (hO.at q hlt).1
        have hf := (hO.at q hlt).2
        have hx := (bs.getD q 0).toNat_lt
        generalize (bs.getD q 0).toNat = x at *
        clear hW hO
        go_wp2_with fail
        go_roundw
        case rel => exact ⟨q + 1, by omega, by go_num, HW.out.step q _ hlt (by omega) (by omega) (by omega) (by omega) (by omega) (by omega)⟩
        case measure => simp [intOf]; omega
      · clear hW
        go_wp2_with fail
        refine (pageE HW.out.st _ 0 rfl (by omega)).mono ?_
        rintro e w5 ⟨rfl, h5, hG5, hpage5⟩
        have hp5 := blk_kept HW.out.page hG5 (by simp)
        have hpr := (Array.getElem?_eq_some_iff.1 HW.out.page).1
        have hmr := HW.out.st.mlt
        have hdr := HW.out.st.dlt
        have hwr := HW.out.st.below.size
        generalize wr.heap.size = r at *
        have hplen := pageOf_length HW.out.st.len 0 (by omega)
        have hc := cell_of_bytes hpage5 k (by rw [hplen]; omega)
        have hf := frozen_of_row w5 r k _ _ hpage5
        have hx := ((pageOf L3 0).getD k 0).toNat_lt
        generalize ((pageOf L3 0).getD k 0).toNat = x at *
        have G6 := grown_setCells w5 r k [.int .u8 (((x : Int) + 1) % 256)]
        have HN : Hid (St w (w5.setCell ⟨r, k, none⟩ (.int .u8 (((x : Int) + 1) % 256))) m w.heap.size 1 L3) := h5.grow' G6 (by omega) (by omega) (by omega)
        have HP6 : Hid ((w5.setCell ⟨r, k, none⟩ (.int .u8 (((x : Int) + 1) % 256))).heap[p]? = some (.cells ((pageOf L3 0).map cell).toArray 67 (0, 0))) := blk_kept hp5 G6 (by simp; omega)
        have HPL := Lib.hid hplen
        clear h5 hG5 hpage5 hp5 G6 hplen
        go_wp2_with fail
        generalize w5.setCell ⟨r, k, none⟩ (.int .u8 (((x : Int) + 1) % 256)) = w6 at *
        refine (pageE HN.out _ 0 rfl (by omega)).mono ?_
        rintro e w7 ⟨rfl, h7, hG7, hpage7⟩
        have HA7 := Lib.hid (Src.of_block hpage7)
        have HB7 := Lib.hid (Src.of_block (blk_kept HP6.out hG7 (by simp)))
        rw [HPL.out] at HA7 HB7
        have H7 := Lib.hid h7
        clear h7 hG7 hpage7
        go_wp2_with fail
        refine (bytesEq HA7.out HB7.out _ _ true (by simp)).mono ?_
        rintro e w8 ⟨rfl, rfl⟩
        go_wp2_with fail
        refine (livesE H7.out).mono ?_
        rintro e w9 ⟨rfl, h9, -⟩
        have H9 := Lib.hid h9
        clear h9
        go_wp2_with fail
        go_ret
        exact ⟨rfl, H9.out.below⟩

theorem own_walk (w : World) (s0 : Option Addr) (l0 c0 : Nat) (b0 : List UInt8) (S0 : Src w s0 l0 b0) (i : Int) (wi : (Lit.int .u64 i).wf = true) :
    Calls Try.prog 6 #[.slice s0 l0 c0, .int .u64 i] w fun e w' => e = .returned (.bool true) ∧ Below w.heap.size w w' := by
  have hi := u64_of_wf wi
  obtain ⟨a, rfl⟩ := Int.eq_ofNat_of_zero_le hi.1
  exact own_walk0 w s0 l0 c0 b0 S0 a
end Go.Proofs.Ytdkfgniajlbifaa
