/- The document's own memory of layer 1: Fill, Zero, Page, Copy, Same. -/
import Derived.Test.YtdkfgniajlbifaaRefB
import Derived.RegionTactic
import Derived.BigRegion
namespace Go.Proofs.Ytdkfgniajlbifaa
open Go.ChangeShapes Go.WideShapes Go.ChangeAt Go.RowKit Go.Deep
open Extern.Stop (cell)
set_option linter.unusedVariables false

/-- Bytes that lie in no row read the same past a call of the document's. -/
theorem Src.past {w w' : World} {R : List Nat} {s : Option Addr} {l : Nat} {bs : List UInt8} (h : Src w s l bs) (K : Kept R w w') (hs : l ≠ 0 → ∀ a, s = some a → a.block ∉ R) : Src w' s l bs := by
  refine ⟨h.1, ?_⟩
  by_cases hl : l = 0
  · exact .inl hl
  · rcases h.2 with h0 | ⟨g, o, rfl, hr⟩
    · exact absurd h0 hl
    · refine .inr ⟨g, o, rfl, range_kept hr (K g ?_ (hs hl _ rfl))⟩
      obtain ⟨x, hx⟩ : ∃ x, (bs.map Extern.Stop.cell)[0]? = some x := by
        cases bs with
        | nil => simp [← h.1] at hl
        | cons x r => exact ⟨_, rfl⟩
      exact World.block_lt_of_cell? w _ (hr 0 x hx)

section
variable {w0 w w' : World} {r f n : Nat} {R : List Nat} {L : List UInt8}

theorem RS.alike (h : RS w0 w r f n R L) (e1 : w'.heap = w.heap) (e2 : w'.os = w.os) (e3 : w'.tape = w.tape) (e4 : w'.output = w.output) : RS w0 w' r f n R L :=
  ⟨h.mem.same (by rw [e1]) (by rw [e1]) fun p _ => by rw [e1], ⟨e2.trans h.below.os, e3.trans h.below.tape, e4.trans h.below.output, by rw [e1]; exact h.below.size, fun k hk => by rw [e1]; exact h.below.block k hk⟩, h.rge, h.fge, h.Rge⟩
theorem Kept.alike {w'' : World} (h : Kept R w w') (e : w''.heap = w'.heap) : Kept R w w'' := fun g hg hR => by rw [e]; exact h g hg hR

theorem rfill_no (h : RS w0 w r f n R L) (i : Int) (s : Option Addr) (l c : Nat) (hi : ¬ (0 ≤ i ∧ i < n)) :
    Calls Try.prog 35 #[.pointer (some ⟨r, 0, none⟩), .int .i64 i, .slice s l c] w fun e w' => e = .returned (.bool false) ∧ w = w' := by
  have HI := Lib.hid (is_any h i false (by simpa using hi))
  clear h hi
  go_enter Try.func35, Try.ntmps35
  go_wp2_with (go_at_call 37; refine (Calls.mono HI.out ?_); rintro e w' ⟨rfl, rfl⟩)
  go_ret
  exact ⟨rfl, rfl⟩

set_option maxHeartbeats 1000000 in
set_option maxRecDepth 100000 in
theorem rfill_ok (h : RS w0 w r f n R L) (i : Nat) (hi : i < n) (s : Option Addr) (l c : Nat) (bs : List UInt8) (hs : Src w s l bs) (hl63 : l ≤ 9223372036854775807) (hsep : l ≠ 0 → ∀ a, s = some a → a.block ∉ R) :
    Calls Try.prog 35 #[.pointer (some ⟨r, 0, none⟩), .int .i64 i, .slice s l c] w fun e w' =>
      e = .returned (.bool true) ∧ RS w0 w' r f n R (splice L (i * 4096) (fillOf bs)) ∧ Kept R w w' := by
  have HI := Lib.hid (is_any h i true (by simp; omega))
  have H := Lib.hid h
  have HL := Lib.hid h.mem.len
  have hle := h.mem.le
  have HS0 := Lib.hid hs
  have HSEP := Lib.hid hsep
  clear h hs hsep hl63
  go_enter Try.func35, Try.ntmps35
  go_wp2_with (go_at_call 37; refine (Calls.mono HI.out ?_); rintro e w' ⟨rfl, rfl⟩)
  go_loopw [7] (fun k wr => ∃ q : Nat, q ≤ 4096 ∧ k = .int .i64 q ∧ RS w0 wr r f n R (splice L (i * 4096) ((fillOf bs).take q)) ∧ Kept R w wr ∧ w.heap.size ≤ wr.heap.size) (fun k _ => 4096 - (intOf k).toNat)
  case atStart => exact ⟨0, by omega, rfl, by rw [List.take_zero, splice_nil]; exact H.out, Kept.refl, Nat.le_refl _⟩
  case round =>
    obtain ⟨q, hq, rfl, hS, hK, hsz⟩ := hrel
    have HS := Lib.hid hS
    have HK := Lib.hid hK
    by_cases hlt : q < 4096
    · obtain ⟨cap, hc, hcap⟩ := hS.mem.cellR
      obtain ⟨p, hp, hpc, hrow⟩ := hS.mem.row i hi
      have hcx := cell_of_bytes hrow q (by rw [pageOf_length hS.mem.len i hi]; omega)
      have hf := frozen_of_row wr p q _ _ hrow
      have hlen : ((fillOf bs).take q).length = q := by simp [fillOf_length]; omega
      have hpm : p ∈ R := List.mem_of_getElem? hp
      have hpr : p ≠ r := fun e => hS.mem.rR (e ▸ hpm)
      have hpf : p ≠ f := fun e => hS.mem.fR (e ▸ hpm)
      have key : ∀ y : UInt8, y = (fillOf bs).getD q 0 → RS w0 (wr.setCells p q [cell y]) r f n R (splice L (i * 4096) ((fillOf bs).take (q + 1))) ∧ Kept R w (wr.setCells p q [cell y]) ∧ w.heap.size ≤ (wr.setCells p q [cell y]).heap.size := by
        intro y hy
        have h1 := hS.stored i q p [y] hi hp (by simp; omega)
        have hs : (fillOf bs).take (q + 1) = (fillOf bs).take q ++ [y] := by
          rw [List.take_add_one, List.getElem?_eq_getElem (by rw [fillOf_length]; omega), hy]
          simp [List.getD, List.getElem?_eq_getElem (show q < (fillOf bs).length by rw [fillOf_length]; omega)]
        have e2 := splice_snoc (L := L) (xs := (fillOf bs).take q) (o := i * 4096) (y := y) (by rw [hlen, HL.out]; omega)
        rw [hlen] at e2
        rw [e2, ← hs] at h1
        exact ⟨h1, hK.trans (Kept.grown hpm (grown_setCells _ _ _ _)) hsz, by rw [size_setCells]; exact hsz⟩
      by_cases hin : q < l
      · have hget : (fillOf bs).getD q 0 = bs.getD q 0 := fillOf_getD_in bs q (by rw [HS0.out.1]; exact hin) hlt
        have hb : s ≠ none := by
          rintro rfl
          rcases HS0.out.2 with h0 | ⟨g, o, h0, _⟩
          · omega
          · simp at h0
        obtain ⟨g, o, rfl, hc1⟩ := (HS0.out.past HK.out HSEP.out).cell q hin
        have hgR := HSEP.out (by omega) _ rfl
        have hgp : g ≠ p := fun e => hgR (e ▸ hpm)
        have G := grown_setCells wr p q [.int .u8 0]
        have hw5 : ∃ w5, w5 = wr.setCell ⟨p, q, none⟩ (.int .u8 0) := ⟨_, rfl⟩
        obtain ⟨w5, hw5⟩ := hw5
        have h5 : wr.setCells p q [.int .u8 0] = w5 := hw5.symm
        rw [h5] at G
        have hother : ∀ b o, b ≠ p → w5.cell? ⟨b, o, none⟩ = wr.cell? ⟨b, o, none⟩ := fun b o hb => by rw [hw5]; exact World.cell?_setCell_other _ _ _ _ (by simp [hb])
        have HC5 : Hid (w5.cell? ⟨r, 0, none⟩ = some (.slice (some ⟨f, 0, none⟩) n cap) ∧ w5.cell? ⟨f, i, none⟩ = some (.slice (some ⟨p, 0, none⟩) 4096 4096) ∧ w5.cell? ⟨g, o + q, none⟩ = some (.int .u8 (bs.getD q 0).toNat) ∧ w5.cell? ⟨p, q, none⟩ = some (.int .u8 0) ∧ w5.frozen? ⟨p, q, none⟩ = false) :=
          ⟨(hother _ _ (Ne.symm hpr)).trans hc, (hother _ _ (Ne.symm hpf)).trans hpc, (hother _ _ hgp).trans hc1, by rw [hw5]; exact World.cell?_setCell_same _ _ _ hcx, by rw [hw5, World.frozen?_setCell]; exact hf⟩
        have hfin : ∀ w6, w6.heap = ((w5.setCell ⟨p, q, none⟩ (.int .u8 (bs.getD q 0).toNat))).heap → w6.os = w5.os → w6.tape = w5.tape → w6.output = w5.output → RS w0 w6 r f n R (splice L (i * 4096) ((fillOf bs).take (q + 1))) ∧ Kept R w w6 ∧ w.heap.size ≤ w6.heap.size := by
          intro w6 e1 e2 e3 e4
          have h1 := hS.stored i q p [0] hi hp (by simp; omega)
          have h2 := h1.stored i q p [bs.getD q 0] hi hp (by simp; omega)
          have hb2 : i * 4096 + q + 1 ≤ (splice L (i * 4096) ((fillOf bs).take q)).length := by rw [hS.mem.len]; omega
          rw [splice_over hb2] at h2
          have hs : (fillOf bs).take (q + 1) = (fillOf bs).take q ++ [bs.getD q 0] := by
            rw [List.take_add_one, List.getElem?_eq_getElem (by rw [fillOf_length]; omega), ← hget]
            simp [List.getD, List.getElem?_eq_getElem (show q < (fillOf bs).length by rw [fillOf_length]; omega)]
          have e5 := splice_snoc (L := L) (xs := (fillOf bs).take q) (o := i * 4096) (y := bs.getD q 0) (by rw [hlen, HL.out]; omega)
          rw [hlen] at e5
          rw [e5, ← hs] at h2
          have e6 : (wr.setCells p q ([0].map cell)).setCells p q ([bs.getD q 0].map cell) = w5.setCell ⟨p, q, none⟩ (.int .u8 (bs.getD q 0).toNat) := by rw [hw5]; rfl
          rw [e6] at h2
          have G6 := grown_setCells w5 p q [.int .u8 (bs.getD q 0).toNat]
          have K6 : Kept R w (w5.setCell ⟨p, q, none⟩ (.int .u8 (bs.getD q 0).toNat)) := (hK.trans (Kept.grown hpm G) hsz).trans (Kept.grown hpm G6) (by have := G.size; omega)
          refine ⟨h2.alike e1 (e2.trans G6.os.symm) (e3.trans G6.tape.symm) (e4.trans G6.output.symm), K6.alike e1, ?_⟩
          rw [e1]
          have := G.size
          have := G6.size
          show w.heap.size ≤ (w5.setCells p q [.int .u8 (bs.getD q 0).toNat]).heap.size
          omega
        have HFIN := Lib.hid hfin
        have HW5 := Lib.hid hw5
        obtain ⟨k1, k2, k3, k4, k5⟩ := HC5.out
        generalize (bs.getD q 0).toNat = y at *
        generalize (((pageOf (splice L (i * 4096) ((fillOf bs).take q)) i).getD q 0).toNat : Int) = z at *
        clear hS hK hrow hp hlen key hget hother hfin hw5 h5 G
        go_wp2_with fail
        rw [← HW5.out]
        go_region
        go_wp2_with fail
        go_roundw
        case rel =>
          have hh := HFIN.out (w5.setCell ⟨p, q, none⟩ (.int .u8 y)).drew rfl rfl rfl rfl
          exact ⟨q + 1, by omega, by go_num, hh.1, hh.2.1, hh.2.2⟩
        case measure => simp [intOf]; omega
      · have hget : (fillOf bs).getD q 0 = 0 := fillOf_getD_out bs q (by rw [HS0.out.1]; omega)
        have HF := Lib.hid (key 0 hget.symm)
        have hout : l ≤ q := by omega
        generalize (((pageOf (splice L (i * 4096) ((fillOf bs).take q)) i).getD q 0).toNat : Int) = z at *
        clear hS hK hrow hp hlen key hget
        go_wp2
        go_roundw
        case rel => exact ⟨q + 1, by omega, by go_num, HF.out.1, HF.out.2.1, HF.out.2.2⟩
        case measure => simp [intOf]; omega
    · have hx : (fillOf bs).take q = fillOf bs := List.take_of_length_le (by rw [fillOf_length]; omega)
      rw [hx] at HS
      clear hS hK hx
      go_wp2
      go_ret
      exact ⟨rfl, HS.out, HK.out⟩

theorem fillOf_nil : fillOf [] = zeroPage := rfl

theorem rzero_no (h : RS w0 w r f n R L) (i : Int) (hi : ¬ (0 ≤ i ∧ i < n)) :
    Calls Try.prog 33 #[.pointer (some ⟨r, 0, none⟩), .int .i64 i] w fun e w' => e = .returned (.bool false) ∧ w = w' := by
  have HF := Lib.hid (rfill_no h i none 0 0 hi)
  clear h hi
  go_enter Try.func33, Try.ntmps33
  go_wp2_with (go_at_call 35; refine (Calls.mono HF.out ?_); rintro e w' ⟨rfl, rfl⟩)
  go_ret
  exact ⟨rfl, rfl⟩

theorem rzero_ok (h : RS w0 w r f n R L) (i : Nat) (hi : i < n) :
    Calls Try.prog 33 #[.pointer (some ⟨r, 0, none⟩), .int .i64 i] w fun e w' => e = .returned (.bool true) ∧ RS w0 w' r f n R (splice L (i * 4096) zeroPage) ∧ Kept R w w' := by
  have HF := Lib.hid (rfill_ok h i hi none 0 0 [] ⟨rfl, .inl rfl⟩ (by omega) (by simp))
  rw [fillOf_nil] at HF
  clear h hi
  go_enter Try.func33, Try.ntmps33
  go_wp2_with fail
  refine (Calls.mono HF.out ?_)
  rintro e w2 ⟨rfl, h2, hk2⟩
  have H2 := Lib.hid h2
  have HK2 := Lib.hid hk2
  clear h2 hk2
  go_wp2_with fail
  go_ret
  exact ⟨rfl, H2.out, HK2.out⟩

theorem grown_alloc_then {w w2 : World} {o : Obj} (h : (w.alloc o).grownBy w2 (some w.heap.size)) : w.grownBy w2 none := by
  refine ⟨h.os, h.tape, h.output, by have := h.size; simp at this; omega, fun k hk _ => ?_⟩
  rw [h.block k (by simp; omega) (by simp; omega)]
  exact heap_alloc_old w o hk

theorem rpage_no (h : RS w0 w r f n R L) (i : Int) (hi : ¬ (0 ≤ i ∧ i < n)) :
    Calls Try.prog 25 #[.pointer (some ⟨r, 0, none⟩), .int .i64 i] w fun e w' => e = .returned (.slice none 0 0) ∧ w = w' := by
  have HI := Lib.hid (is_any h i false (by simpa using hi))
  clear h hi
  go_enter Try.func25, Try.ntmps25
  go_wp2_with (go_at_call 37; refine (Calls.mono HI.out ?_); rintro e w' ⟨rfl, rfl⟩)
  go_ret
  exact ⟨rfl, rfl⟩

/-- A page that the document's memory tells. -/
def Told (w : World) (xs : List UInt8) (e : Ending) (w' : World) : Prop := ∃ g cap, e = .returned (.slice (some ⟨g, 0, none⟩) 4096 cap) ∧ Own w' g 4096 cap xs ∧ w.grownBy w' none ∧ w.heap.size ≤ g

theorem rpage_ok (h : RS w0 w r f n R L) (i : Nat) (hi : i < n) :
    Calls Try.prog 25 #[.pointer (some ⟨r, 0, none⟩), .int .i64 i] w (Told w (pageOf L i)) := by
  have HI := Lib.hid (is_any h i true (by simp; omega))
  obtain ⟨cap, hc, hcap⟩ := h.mem.cellR
  obtain ⟨p, hp, hpc, hrow⟩ := h.mem.row i hi
  have hle := h.mem.le
  have hlen := pageOf_length h.mem.len i hi
  have hs := Src.of_block hrow
  rw [hlen] at hs
  have HS : Hid (Src (w.alloc (.cells #[] 5)) (some ⟨p, 0, none⟩) 4096 (pageOf L i)) := hs.kept (World.grownBy_alloc w _ none) (by simp)
  generalize pageOf L i = xs at *
  have hcA := Lib.cell?_alloc_some (.cells #[] 5) hc
  have hpA := Lib.cell?_alloc_some (.cells #[] 5) hpc
  clear h hrow hp hs hlen
  go_enter Try.func25, Try.ntmps25
  go_wp2_with (first | (go_at_call 37; refine (Calls.mono HI.out ?_); rintro e w' ⟨rfl, rfl⟩) | (at_builtin; go_must (refine wpList_clone rfl _ _ rfl w.heap.size (_root_.Go.heap_alloc_new w _) rfl (some ⟨p, 0, none⟩) 4096 4096 xs rfl HS.out (by omega) ?_); intro g cap2 w2 hgg hO hG2))
  go_ret
  exact ⟨g, cap2, rfl, hO, grown_alloc_then hG2, hgg⟩

theorem rcopy_no (h : RS w0 w r f n R L) (i j : Int) (hij : ¬ ((0 ≤ i ∧ i < n) ∧ (0 ≤ j ∧ j < n))) :
    Calls Try.prog 34 #[.pointer (some ⟨r, 0, none⟩), .int .i64 i, .int .i64 j] w fun e w' => e = .returned (.bool false) ∧ w = w' := by
  by_cases h1 : 0 ≤ i ∧ i < n
  · have HI := Lib.hid (is_any h i true (by simpa using h1))
    have HJ := Lib.hid (is_any h j false (by simpa using fun a => by have := hij; omega))
    clear h hij h1
    go_enter Try.func34, Try.ntmps34
    go_wp2_with fail
    refine (Calls.mono HI.out ?_)
    rintro e w' ⟨rfl, rfl⟩
    go_wp2_with fail
    refine (Calls.mono HJ.out ?_)
    rintro e w' ⟨rfl, rfl⟩
    go_wp2_with fail
    go_ret
    exact ⟨rfl, rfl⟩
  · have HI := Lib.hid (is_any h i false (by simpa using h1))
    clear h hij h1
    go_enter Try.func34, Try.ntmps34
    go_wp2_with fail
    refine (Calls.mono HI.out ?_)
    rintro e w' ⟨rfl, rfl⟩
    go_wp2_with fail
    go_ret
    exact ⟨rfl, rfl⟩

theorem rcopy_ok (h : RS w0 w r f n R L) (i j : Nat) (hi : i < n) (hj : j < n) :
    Calls Try.prog 34 #[.pointer (some ⟨r, 0, none⟩), .int .i64 i, .int .i64 j] w fun e w' => e = .returned (.bool true) ∧ RS w0 w' r f n R (splice L (i * 4096) (pageOf L j)) ∧ Kept R w w' := by
  have HI := Lib.hid (is_any h i true (by simp; omega))
  have HJ := Lib.hid (is_any h j true (by simp; omega))
  have HP := Lib.hid (rpage_ok h j hj)
  have H := Lib.hid h
  clear h
  go_enter Try.func34, Try.ntmps34
  go_wp2_with fail
  refine (Calls.mono HI.out ?_)
  rintro e w' ⟨rfl, rfl⟩
  go_wp2_with fail
  refine (Calls.mono HJ.out ?_)
  rintro e w' ⟨rfl, rfl⟩
  go_wp2_with fail
  refine (Calls.mono HP.out ?_)
  rintro e w2 ⟨g, cap, rfl, hO, hG, hg⟩
  have hfill : fillOf (pageOf L j) = pageOf L j := by
    have := pageOf_length H.out.mem.len j hj
    simp [fillOf, this, List.take_of_length_le]
  have hgR : g ∉ R := fun e => by have := H.out.mem.Rlt g e; omega
  have HF := Lib.hid (rfill_ok (H.out.grow hG) i hi (some ⟨g, 0, none⟩) 4096 cap (pageOf L j) hO.src (by omega) (by rintro _ a ha; cases ha; exact hgR))
  rw [hfill] at HF
  have HG := Lib.hid hG
  clear hO hG hfill hg hgR
  go_wp2_with fail
  refine (Calls.mono HF.out ?_)
  rintro e w3 ⟨rfl, h3, hk3⟩
  have H3 := Lib.hid h3
  have HK3 : Hid (Kept R w w3) := (Kept.none HG.out).trans hk3 HG.out.size
  clear h3 hk3
  go_wp2_with fail
  go_ret
  exact ⟨rfl, H3.out, HK3.out⟩

theorem rsame_no (h : RS w0 w r f n R L) (i j : Int) (hij : ¬ ((0 ≤ i ∧ i < n) ∧ (0 ≤ j ∧ j < n))) :
    Calls Try.prog 21 #[.pointer (some ⟨r, 0, none⟩), .int .i64 i, .int .i64 j] w fun e w' => e = .returned (.bool false) ∧ ∃ k, w' = w.drewN k := by
  have HD : Hid (∀ k, RS w0 (w.drewN k) r f n R L) := fun k => h.alike rfl rfl rfl rfl
  by_cases h1 : 0 ≤ i ∧ i < n
  · have HI : Hid (∀ k, Calls Try.prog 37 #[.pointer (some ⟨r, 0, none⟩), .int .i64 i] (w.drewN k) fun e w' => e = .returned (.bool true) ∧ w' = w.drewN k) := fun k => (is_any (HD.out k) i true (by simpa using h1)).mono fun _ _ ⟨a, b⟩ => ⟨a, b.symm⟩
    have HJ : Hid (∀ k, Calls Try.prog 37 #[.pointer (some ⟨r, 0, none⟩), .int .i64 j] (w.drewN k) fun e w' => e = .returned (.bool false) ∧ w' = w.drewN k) := fun k => (is_any (HD.out k) j false (by simpa using fun a => by have := hij; omega)).mono fun _ _ ⟨a, b⟩ => ⟨a, b.symm⟩
    clear h hij h1
    go_enter Try.func21, Try.ntmps21
    go_wp2_with fail
    go_quiet (first | (with_reducible exact Calls.quiet_of_same (HI.out _)) | (with_reducible exact Calls.quiet_of_same (HJ.out _)))
    go_wp2_with fail
    go_ret
    exact ⟨rfl, _, rfl⟩
  · have HI : Hid (∀ k, Calls Try.prog 37 #[.pointer (some ⟨r, 0, none⟩), .int .i64 i] (w.drewN k) fun e w' => e = .returned (.bool false) ∧ w' = w.drewN k) := fun k => (is_any (HD.out k) i false (by simpa using h1)).mono fun _ _ ⟨a, b⟩ => ⟨a, b.symm⟩
    clear h hij h1
    go_enter Try.func21, Try.ntmps21
    go_wp2_with fail
    go_quiet (exact Calls.quiet_of_same (HI.out _))
    go_wp2_with fail
    go_ret
    exact ⟨rfl, _, rfl⟩

theorem rsame_ok (h : RS w0 w r f n R L) (i j : Nat) (hi : i < n) (hj : j < n) :
    Calls Try.prog 21 #[.pointer (some ⟨r, 0, none⟩), .int .i64 i, .int .i64 j] w fun e w' => e = .returned (.bool (pageOf L i == pageOf L j)) ∧ ∃ k, w' = w.drewN k := by
  have HD : Hid (∀ k, RS w0 (w.drewN k) r f n R L) := fun k => h.alike rfl rfl rfl rfl
  have HI : Hid (∀ k, Calls Try.prog 37 #[.pointer (some ⟨r, 0, none⟩), .int .i64 (i : Int)] (w.drewN k) fun e w' => e = .returned (.bool true) ∧ w' = w.drewN k) := fun k => (is_any (HD.out k) i true (by simp; omega)).mono fun _ _ ⟨a, b⟩ => ⟨a, b.symm⟩
  have HJ : Hid (∀ k, Calls Try.prog 37 #[.pointer (some ⟨r, 0, none⟩), .int .i64 (j : Int)] (w.drewN k) fun e w' => e = .returned (.bool true) ∧ w' = w.drewN k) := fun k => (is_any (HD.out k) j true (by simp; omega)).mono fun _ _ ⟨a, b⟩ => ⟨a, b.symm⟩
  obtain ⟨cap, hc, hcap⟩ := h.mem.cellR
  obtain ⟨p, hp, hpc, hrow⟩ := h.mem.row i hi
  obtain ⟨q, hq, hqc, hrow2⟩ := h.mem.row j hj
  have hle := h.mem.le
  have s1 : ∀ k, (convert 31 9 (.slice (some ⟨p, 0, none⟩) 4096 4096)).run Try.prog (w.drewN k) = .ok (.string ⟨(pageOf L i).toArray⟩) (w.drewN k) := by
    intro k
    have hs := Src.of_block (w := w.drewN k) hrow
    rw [pageOf_length h.mem.len i hi] at hs
    exact run_str hs 4096
  have s2 : ∀ k, (convert 31 9 (.slice (some ⟨q, 0, none⟩) 4096 4096)).run Try.prog (w.drewN k) = .ok (.string ⟨(pageOf L j).toArray⟩) (w.drewN k) := by
    intro k
    have hs := Src.of_block (w := w.drewN k) hrow2
    rw [pageOf_length h.mem.len j hj] at hs
    exact run_str hs 4096
  generalize pageOf L i = xs at *
  generalize pageOf L j = ys at *
  clear h hrow hrow2 hp hq
  go_enter Try.func21, Try.ntmps21
  go_wp2_with fail
  go_quiet (first | (with_reducible exact Calls.quiet_of_same (HI.out _)) | (with_reducible exact Calls.quiet_of_same (HJ.out _)))
  go_wp2_with fail
  go_ret
  exact ⟨rfl, _, rfl⟩
end
end Go.Proofs.Ytdkfgniajlbifaa
