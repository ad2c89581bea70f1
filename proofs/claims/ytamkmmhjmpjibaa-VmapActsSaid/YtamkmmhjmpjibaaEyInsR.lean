/- Layer 15: Insert, the document's. -/
import Derived.Test.YtamkmmhjmpjibaaEyRefE
import Derived.Test.YtamkmmhjmpjibaaEyIns
namespace Go.Proofs.Ytamkmmhjmpjibaa
open Go.ChangeShapes Go.WideShapes Go.ChangeAt Go.RowKit Go.Deep Go.Sort
set_option linter.unusedVariables false

/-- What is out behind q entries. -/
def outI (L : List En) (x : En) (k q : Nat) : List En := if q ≤ k then L.take q else L.take k ++ x :: (L.drop k).take (q - k)
section
variable {L : List En} {x y : En} {k q : Nat}
theorem out_low (h : q < k) (hy : L[q]? = some y) : outI L x k (q + 1) = outI L x k q ++ [y] := by
  unfold outI
  rw [if_pos (by omega), if_pos (by omega), takel_at hy]
theorem out_at (hy : L[k]? = some y) : outI L x k (k + 1) = outI L x k k ++ [x] ++ [y] := by
  unfold outI
  rw [if_neg (by omega), if_pos (by omega), show k + 1 - k = 1 by omega, get_eq hy]
  simp
theorem out_high (h : k < q) (hy : L[q]? = some y) : outI L x k (q + 1) = outI L x k q ++ [y] := by
  unfold outI
  rw [if_neg (by omega), if_neg (by omega), show q + 1 - k = (q - k) + 1 by omega, takel_at (xs := L.drop k) (j := q - k) (y := y) (by rw [List.getElem?_drop, show k + (q - k) = q by omega]; exact hy)]
  simp
theorem out_len (hk : k ≤ L.length) : (outI L x k q).length ≤ L.length + 1 := by
  unfold outI
  split <;> simp <;> omega
theorem out_end (h : k < L.length) : outI L x k L.length = L.take k ++ x :: L.drop k := by
  unfold outI
  rw [if_neg (by omega), List.take_of_length_le (l := L.drop k) (by simp)]
theorem out_all : outI L x L.length L.length = L := by
  unfold outI
  rw [if_pos (by omega), List.take_length]
end
theorem box_past {wb w7 : World} {Y : Nat} {y : En} {v : Value} {o : Obj} (h : EnB wb Y y) (hg : (wb.alloc o).grownBy w7 v.ownBlock) (hv : ∀ b, v.ownBlock = some b → b < Y) : EnB w7 Y y :=
  (hg.block Y (by have := h.lt; simp; omega) (fun e => by have := hv _ e.symm; omega)).trans (((World.grownBy_alloc wb o none).block Y h.lt (by simp)).trans h)
set_option maxRecDepth 100000 in
set_option maxHeartbeats 4000000 in
theorem refInsert_ok {w : World} {s : Option Addr} {L : List En} (c : Nat) (h : ERow w (.slice s L.length c) L) (hr : RF 0 L) (hl : L.length ≤ 100000) (x : En) (hx : OkE x) :
    Calls Try.prog 61 #[.slice s L.length c, .agg #[.int .i64 x.s, .int .i64 x.e, .int .i64 x.f, .int .i64 x.o, .bool x.sh, .int .i64 x.p, .int .i64 x.m, .int .i64 x.i, .int .i64 x.a, .bool x.wi]] w fun e w' => ∃ u, e = .returned (.tuple #[u, .bool (insE L x).2]) ∧ EOwn w' w.heap.size u (insE L x).1 ∧ w.grownBy w' none := by
  obtain ⟨I, hI⟩ : ∃ I, insE L x = I := ⟨_, rfl⟩
  rw [hI]
  have HX := Lib.hid h
  have HR := Lib.hid hr
  have hg1 := grown_box w x
  have HBx := Lib.hid (EnB.new w x)
  have HG1 := Lib.hid hg1
  have HRow := Lib.hid (erow_grow h (grown_trans hg1 (World.grownBy_alloc _ (.cells #[] 31) none)))
  have hsz : (boxE w x).heap.size = w.heap.size + 1 := by simp
  obtain ⟨d, hgd⟩ : ∃ d, goodB x = d := ⟨_, rfl⟩
  have hgo := fun W => refGood_ok x hx W
  rw [hgd] at hgo
  have HGo := Lib.hid hgo
  have HGd := Lib.hid hgd
  have HI0 := Lib.hid hI
  clear h hr hg1 hgo hI
  go_enter Try.func61, Try.ntmps61
  go_wp2_with (at_builtin; refine wpList_ecopy (boxE w x) rfl _ _ rfl _ L (w.heap.size + 1) hsz rfl rfl HRow.out (by omega) ?_; intro g8 c8 w8 hown8 hg8; have HS0 := Lib.hid hown8; have HG8 := Lib.hid (grown_trans HG1.out hg8); have HB8 := Lib.hid (HBx.out.grow hg8); have hb8 := (HBx.out.grow hg8).all; clear hown8 hg8)
  cases d with
  | false =>
    have e1 : insE L x = (L, false) := ins_bad HGd.out
    obtain rfl : I = (L, false) := HI0.out.symm.trans e1
    clear hb8 e1 hgd
    go_wp2_with fail
    refine (HGo.out _).mono ?_
    rintro e w9 ⟨rfl, g9⟩
    have HG9 := Lib.hid (grown_trans HG8.out g9)
    have HS9 := Lib.hid (OwnOf.grow HS0.out g9)
    clear g9
    go_wp2_with fail
    go_ret2
    exact ⟨_, rfl, OwnOf.lower HS9.out (by omega), HG9.out⟩
  | true =>
    have hgx := (goodB_iff x).1 HGd.out
    obtain ⟨k, hk⟩ : ∃ k, findK L x.s = k := ⟨_, rfl⟩
    have hkl : k ≤ L.length := by rw [← hk]; exact findK_le _ _
    have hxl := hgx.lt
    have HK := Lib.hid hk
    clear hb8 hgd hk hgx
    go_wp2_with fail
    refine (HGo.out _).mono ?_
    rintro e w9 ⟨rfl, g9⟩
    have HG9 := Lib.hid (grown_trans HG8.out g9)
    have HS9 := Lib.hid (show EOwn w9 w.heap.size _ L from OwnOf.lower (OwnOf.grow HS0.out g9) (by omega))
    have HB9 := Lib.hid (HB8.out.grow g9)
    have HX9 := Lib.hid (erow_grow HX.out HG9.out)
    have HI := Lib.hid (show EMk w9 w9 (.slice none 0 0) (outI L x k 0) from by unfold outI; rw [if_pos (by omega)]; exact MkOf.nil w9)
    clear g9
    go_wp2_with fail
    go_loopw [7, 8, 20] (fun vv dv iv wr => ∃ (q : Nat) (b : Bool), q ≤ L.length ∧ iv = .int .i64 q ∧ dv = .bool b ∧ Hid (b = decide (k < q)) ∧ Hid (EMk w9 wr vv (outI L x k q)) ∧ Hid (k < q → freeB L x = true)) (fun _ _ iv _ => L.length - (intOf iv).toNat)
    case atStart => exact ⟨0, false, by omega, rfl, rfl, Lib.hid (by simp), HI, Lib.hid (fun h => by omega)⟩
    case round =>
      clear HI
      obtain ⟨q, b, hq, rfl, rfl, HBd, HJ, HF⟩ := hrel
      by_cases hlt : q < L.length
      · obtain ⟨y, hy⟩ : ∃ y, L[q]? = some y := ⟨_, List.getElem?_eq_getElem hlt⟩
        obtain ⟨g, o, c3, hv1, ka0, ka1, ka2, ka3, ka4, ka5, ka6, ka7, ka8, ka9⟩ := en_cells (erow_grow HX9.out HJ.out.grown) hy
        injection hv1 with e1 e2 e3
        subst e1 e3
        have hln := out_len (x := x) (q := q) hkl
        have hyl := (rf_at HR.out hy).lt
        rcases Nat.lt_trichotomy q k with hqk | hqk | hqk
        · have hN := out_low (x := x) hqk hy
          have hye := findK_low (pg := x.s) (by rw [HK.out]; exact hqk) hy
          obtain rfl : b = false := by rw [HBd.out]; simp; omega
          obtain ⟨O, hO⟩ : ∃ O, outI L x k q = O := ⟨_, rfl⟩
          rw [hO] at HJ hln
          obtain ⟨va, vc, hvf⟩ := OwnOf.form HJ.out.own
          subst hvf
          have HJ3 := Lib.hid (show EMk w9 (wr.alloc (.cells #[.int .i64 y.s, .int .i64 y.e, .int .i64 y.f, .int .i64 y.o, .bool y.sh, .int .i64 y.p, .int .i64 y.m, .int .i64 y.i, .int .i64 y.a, .bool y.wi] 31)) _ O from MkOf.grow HJ.out (grown_box wr y))
          obtain ⟨k0, k1, k2, k3, k4, k5, k6, k7, k8, k9⟩ := (EnB.new wr y).all
          have hbx : (wr.alloc (.cells #[.int .i64 y.s, .int .i64 y.e, .int .i64 y.f, .int .i64 y.o, .bool y.sh, .int .i64 y.p, .int .i64 y.m, .int .i64 y.i, .int .i64 y.a, .bool y.wi] 31)).cell? ⟨w.heap.size, 0, none⟩ = some (.int .i64 x.s) ∧ (wr.alloc (.cells #[.int .i64 y.s, .int .i64 y.e, .int .i64 y.f, .int .i64 y.o, .bool y.sh, .int .i64 y.p, .int .i64 y.m, .int .i64 y.i, .int .i64 y.a, .bool y.wi] 31)).cell? ⟨w.heap.size, 1, none⟩ = some (.int .i64 x.e) ∧ (wr.alloc (.cells #[.int .i64 y.s, .int .i64 y.e, .int .i64 y.f, .int .i64 y.o, .bool y.sh, .int .i64 y.p, .int .i64 y.m, .int .i64 y.i, .int .i64 y.a, .bool y.wi] 31)).cell? ⟨w.heap.size, 2, none⟩ = some (.int .i64 x.f) ∧ (wr.alloc (.cells #[.int .i64 y.s, .int .i64 y.e, .int .i64 y.f, .int .i64 y.o, .bool y.sh, .int .i64 y.p, .int .i64 y.m, .int .i64 y.i, .int .i64 y.a, .bool y.wi] 31)).cell? ⟨w.heap.size, 3, none⟩ = some (.int .i64 x.o) ∧ (wr.alloc (.cells #[.int .i64 y.s, .int .i64 y.e, .int .i64 y.f, .int .i64 y.o, .bool y.sh, .int .i64 y.p, .int .i64 y.m, .int .i64 y.i, .int .i64 y.a, .bool y.wi] 31)).cell? ⟨w.heap.size, 4, none⟩ = some (.bool x.sh) ∧ (wr.alloc (.cells #[.int .i64 y.s, .int .i64 y.e, .int .i64 y.f, .int .i64 y.o, .bool y.sh, .int .i64 y.p, .int .i64 y.m, .int .i64 y.i, .int .i64 y.a, .bool y.wi] 31)).cell? ⟨w.heap.size, 5, none⟩ = some (.int .i64 x.p) ∧ (wr.alloc (.cells #[.int .i64 y.s, .int .i64 y.e, .int .i64 y.f, .int .i64 y.o, .bool y.sh, .int .i64 y.p, .int .i64 y.m, .int .i64 y.i, .int .i64 y.a, .bool y.wi] 31)).cell? ⟨w.heap.size, 6, none⟩ = some (.int .i64 x.m) ∧ (wr.alloc (.cells #[.int .i64 y.s, .int .i64 y.e, .int .i64 y.f, .int .i64 y.o, .bool y.sh, .int .i64 y.p, .int .i64 y.m, .int .i64 y.i, .int .i64 y.a, .bool y.wi] 31)).cell? ⟨w.heap.size, 7, none⟩ = some (.int .i64 x.i) ∧ (wr.alloc (.cells #[.int .i64 y.s, .int .i64 y.e, .int .i64 y.f, .int .i64 y.o, .bool y.sh, .int .i64 y.p, .int .i64 y.m, .int .i64 y.i, .int .i64 y.a, .bool y.wi] 31)).cell? ⟨w.heap.size, 8, none⟩ = some (.int .i64 x.a) ∧ (wr.alloc (.cells #[.int .i64 y.s, .int .i64 y.e, .int .i64 y.f, .int .i64 y.o, .bool y.sh, .int .i64 y.p, .int .i64 y.m, .int .i64 y.i, .int .i64 y.a, .bool y.wi] 31)).cell? ⟨w.heap.size, 9, none⟩ = some (.bool x.wi) := ((HB9.out.grow HJ.out.grown).grow (grown_box wr y)).all
          have HBw := Lib.hid (show EnB (wr.alloc (.cells #[.int .i64 y.s, .int .i64 y.e, .int .i64 y.f, .int .i64 y.o, .bool y.sh, .int .i64 y.p, .int .i64 y.m, .int .i64 y.i, .int .i64 y.a, .bool y.wi] 31)) w.heap.size x from (HB9.out.grow HJ.out.grown).grow (grown_box wr y))
          obtain ⟨m0, m1, m2, m3, m4, m5, m6, m7, m8, m9⟩ := hbx
          rw [hO] at hN
          have HNx := Lib.hid hN
          have b0 : decide (y.s < x.e) = true := decide_eq_true (by omega)
          have b1 : decide (x.s < y.e) = false := decide_eq_false (by omega)
          have b2 : decide (y.s ≥ x.e) = false := decide_eq_false (by omega)
          clear hy hN hO HJ hyl hye
          go_upto_region 9 with fail
          generalize hwb : wr.alloc (.cells #[.int .i64 y.s, .int .i64 y.e, .int .i64 y.f, .int .i64 y.o, .bool y.sh, .int .i64 y.p, .int .i64 y.m, .int .i64 y.i, .int .i64 y.a, .bool y.wi] 31) = wb at *
          clear hwb
          go_wp2_with (at_builtin; refine wpList_epush wb rfl _ _ rfl w9.heap.size _ O y (by rfl) HJ3.out.own wb.heap.size _ (by rfl) rfl (by omega) HJ3.out.grown.size ?_; intro g7 cap7 w7 hown7 hg7; have HJ8 := Lib.hid (MkOf.app HJ3.out hg7 hown7); clear hown7 hg7)
          go_roundw
          case rel => exact ⟨q + 1, false, by omega, by go_num, rfl, Lib.hid (by simp; omega), by rw [HNx.out]; exact HJ8, Lib.hid (fun h => by omega)⟩
          case measure => simp [intOf]; omega
        · subst hqk
          have hN := out_at (x := x) hy
          have hye : x.s < y.e := findK_at (pg := x.s) (by rw [HK.out]; exact hy)
          have hfa : freeB L x = decide (x.e ≤ y.s) := free_at (by rw [HK.out]; exact hy)
          obtain rfl : b = false := by rw [HBd.out]; simp
          by_cases hov : y.s < x.e
          · have e1 : insE L x = (L, false) := ins_no (by rw [hfa]; exact decide_eq_false (by omega))
            obtain rfl : I = (L, false) := HI0.out.symm.trans e1
            have HGr := Lib.hid (grown_trans HJ.out.grown (grown_box wr y))
            obtain ⟨k0, k1, k2, k3, k4, k5, k6, k7, k8, k9⟩ := (EnB.new wr y).all
            have hbx : (wr.alloc (.cells #[.int .i64 y.s, .int .i64 y.e, .int .i64 y.f, .int .i64 y.o, .bool y.sh, .int .i64 y.p, .int .i64 y.m, .int .i64 y.i, .int .i64 y.a, .bool y.wi] 31)).cell? ⟨w.heap.size, 0, none⟩ = some (.int .i64 x.s) ∧ (wr.alloc (.cells #[.int .i64 y.s, .int .i64 y.e, .int .i64 y.f, .int .i64 y.o, .bool y.sh, .int .i64 y.p, .int .i64 y.m, .int .i64 y.i, .int .i64 y.a, .bool y.wi] 31)).cell? ⟨w.heap.size, 1, none⟩ = some (.int .i64 x.e) ∧ (wr.alloc (.cells #[.int .i64 y.s, .int .i64 y.e, .int .i64 y.f, .int .i64 y.o, .bool y.sh, .int .i64 y.p, .int .i64 y.m, .int .i64 y.i, .int .i64 y.a, .bool y.wi] 31)).cell? ⟨w.heap.size, 2, none⟩ = some (.int .i64 x.f) ∧ (wr.alloc (.cells #[.int .i64 y.s, .int .i64 y.e, .int .i64 y.f, .int .i64 y.o, .bool y.sh, .int .i64 y.p, .int .i64 y.m, .int .i64 y.i, .int .i64 y.a, .bool y.wi] 31)).cell? ⟨w.heap.size, 3, none⟩ = some (.int .i64 x.o) ∧ (wr.alloc (.cells #[.int .i64 y.s, .int .i64 y.e, .int .i64 y.f, .int .i64 y.o, .bool y.sh, .int .i64 y.p, .int .i64 y.m, .int .i64 y.i, .int .i64 y.a, .bool y.wi] 31)).cell? ⟨w.heap.size, 4, none⟩ = some (.bool x.sh) ∧ (wr.alloc (.cells #[.int .i64 y.s, .int .i64 y.e, .int .i64 y.f, .int .i64 y.o, .bool y.sh, .int .i64 y.p, .int .i64 y.m, .int .i64 y.i, .int .i64 y.a, .bool y.wi] 31)).cell? ⟨w.heap.size, 5, none⟩ = some (.int .i64 x.p) ∧ (wr.alloc (.cells #[.int .i64 y.s, .int .i64 y.e, .int .i64 y.f, .int .i64 y.o, .bool y.sh, .int .i64 y.p, .int .i64 y.m, .int .i64 y.i, .int .i64 y.a, .bool y.wi] 31)).cell? ⟨w.heap.size, 6, none⟩ = some (.int .i64 x.m) ∧ (wr.alloc (.cells #[.int .i64 y.s, .int .i64 y.e, .int .i64 y.f, .int .i64 y.o, .bool y.sh, .int .i64 y.p, .int .i64 y.m, .int .i64 y.i, .int .i64 y.a, .bool y.wi] 31)).cell? ⟨w.heap.size, 7, none⟩ = some (.int .i64 x.i) ∧ (wr.alloc (.cells #[.int .i64 y.s, .int .i64 y.e, .int .i64 y.f, .int .i64 y.o, .bool y.sh, .int .i64 y.p, .int .i64 y.m, .int .i64 y.i, .int .i64 y.a, .bool y.wi] 31)).cell? ⟨w.heap.size, 8, none⟩ = some (.int .i64 x.a) ∧ (wr.alloc (.cells #[.int .i64 y.s, .int .i64 y.e, .int .i64 y.f, .int .i64 y.o, .bool y.sh, .int .i64 y.p, .int .i64 y.m, .int .i64 y.i, .int .i64 y.a, .bool y.wi] 31)).cell? ⟨w.heap.size, 9, none⟩ = some (.bool x.wi) := ((HB9.out.grow HJ.out.grown).grow (grown_box wr y)).all
            obtain ⟨m0, m1, m2, m3, m4, m5, m6, m7, m8, m9⟩ := hbx
            have b0 : decide (y.s < x.e) = true := decide_eq_true hov
            have b1 : decide (x.s < y.e) = true := decide_eq_true hye
            clear hy hN HJ hyl hye hfa hov e1
            go_wp2_with fail
            go_ret2
            exact ⟨_, rfl, OwnOf.grow HS9.out HGr.out, grown_trans HG9.out HGr.out⟩
          · have hfr : freeB L x = true := by rw [hfa]; exact decide_eq_true (by omega)
            have HFr := Lib.hid hfr
            have HOl := Lib.hid (fun (b : Nat) (hb : _ = some b) => (OwnOf.lt HJ.out.own hb).2)
            obtain ⟨O, hO⟩ : ∃ O, outI L x q q = O := ⟨_, rfl⟩
            rw [hO] at HJ hln
            obtain ⟨va, vc, hvf⟩ := OwnOf.form HJ.out.own
            subst hvf
            have HJ3 := Lib.hid (show EMk w9 (wr.alloc (.cells #[.int .i64 y.s, .int .i64 y.e, .int .i64 y.f, .int .i64 y.o, .bool y.sh, .int .i64 y.p, .int .i64 y.m, .int .i64 y.i, .int .i64 y.a, .bool y.wi] 31)) _ O from MkOf.grow HJ.out (grown_box wr y))
            obtain ⟨k0, k1, k2, k3, k4, k5, k6, k7, k8, k9⟩ := (EnB.new wr y).all
            have hbx : (wr.alloc (.cells #[.int .i64 y.s, .int .i64 y.e, .int .i64 y.f, .int .i64 y.o, .bool y.sh, .int .i64 y.p, .int .i64 y.m, .int .i64 y.i, .int .i64 y.a, .bool y.wi] 31)).cell? ⟨w.heap.size, 0, none⟩ = some (.int .i64 x.s) ∧ (wr.alloc (.cells #[.int .i64 y.s, .int .i64 y.e, .int .i64 y.f, .int .i64 y.o, .bool y.sh, .int .i64 y.p, .int .i64 y.m, .int .i64 y.i, .int .i64 y.a, .bool y.wi] 31)).cell? ⟨w.heap.size, 1, none⟩ = some (.int .i64 x.e) ∧ (wr.alloc (.cells #[.int .i64 y.s, .int .i64 y.e, .int .i64 y.f, .int .i64 y.o, .bool y.sh, .int .i64 y.p, .int .i64 y.m, .int .i64 y.i, .int .i64 y.a, .bool y.wi] 31)).cell? ⟨w.heap.size, 2, none⟩ = some (.int .i64 x.f) ∧ (wr.alloc (.cells #[.int .i64 y.s, .int .i64 y.e, .int .i64 y.f, .int .i64 y.o, .bool y.sh, .int .i64 y.p, .int .i64 y.m, .int .i64 y.i, .int .i64 y.a, .bool y.wi] 31)).cell? ⟨w.heap.size, 3, none⟩ = some (.int .i64 x.o) ∧ (wr.alloc (.cells #[.int .i64 y.s, .int .i64 y.e, .int .i64 y.f, .int .i64 y.o, .bool y.sh, .int .i64 y.p, .int .i64 y.m, .int .i64 y.i, .int .i64 y.a, .bool y.wi] 31)).cell? ⟨w.heap.size, 4, none⟩ = some (.bool x.sh) ∧ (wr.alloc (.cells #[.int .i64 y.s, .int .i64 y.e, .int .i64 y.f, .int .i64 y.o, .bool y.sh, .int .i64 y.p, .int .i64 y.m, .int .i64 y.i, .int .i64 y.a, .bool y.wi] 31)).cell? ⟨w.heap.size, 5, none⟩ = some (.int .i64 x.p) ∧ (wr.alloc (.cells #[.int .i64 y.s, .int .i64 y.e, .int .i64 y.f, .int .i64 y.o, .bool y.sh, .int .i64 y.p, .int .i64 y.m, .int .i64 y.i, .int .i64 y.a, .bool y.wi] 31)).cell? ⟨w.heap.size, 6, none⟩ = some (.int .i64 x.m) ∧ (wr.alloc (.cells #[.int .i64 y.s, .int .i64 y.e, .int .i64 y.f, .int .i64 y.o, .bool y.sh, .int .i64 y.p, .int .i64 y.m, .int .i64 y.i, .int .i64 y.a, .bool y.wi] 31)).cell? ⟨w.heap.size, 7, none⟩ = some (.int .i64 x.i) ∧ (wr.alloc (.cells #[.int .i64 y.s, .int .i64 y.e, .int .i64 y.f, .int .i64 y.o, .bool y.sh, .int .i64 y.p, .int .i64 y.m, .int .i64 y.i, .int .i64 y.a, .bool y.wi] 31)).cell? ⟨w.heap.size, 8, none⟩ = some (.int .i64 x.a) ∧ (wr.alloc (.cells #[.int .i64 y.s, .int .i64 y.e, .int .i64 y.f, .int .i64 y.o, .bool y.sh, .int .i64 y.p, .int .i64 y.m, .int .i64 y.i, .int .i64 y.a, .bool y.wi] 31)).cell? ⟨w.heap.size, 9, none⟩ = some (.bool x.wi) := ((HB9.out.grow HJ.out.grown).grow (grown_box wr y)).all
            have HBw := Lib.hid (show EnB (wr.alloc (.cells #[.int .i64 y.s, .int .i64 y.e, .int .i64 y.f, .int .i64 y.o, .bool y.sh, .int .i64 y.p, .int .i64 y.m, .int .i64 y.i, .int .i64 y.a, .bool y.wi] 31)) w.heap.size x from (HB9.out.grow HJ.out.grown).grow (grown_box wr y))
            obtain ⟨m0, m1, m2, m3, m4, m5, m6, m7, m8, m9⟩ := hbx
            rw [hO] at hN
            have HNx := Lib.hid hN
            have b0 : decide (y.s < x.e) = false := decide_eq_false hov
            have b2 : decide (y.s ≥ x.e) = true := decide_eq_true (by omega)
            clear hy hN hO HJ hyl hye hfa hfr hov
            go_upto_region 9 with fail
            generalize hwb : wr.alloc (.cells #[.int .i64 y.s, .int .i64 y.e, .int .i64 y.f, .int .i64 y.o, .bool y.sh, .int .i64 y.p, .int .i64 y.m, .int .i64 y.i, .int .i64 y.a, .bool y.wi] 31) = wb at *
            have hyb := Lib.hid (show EnB wb wr.heap.size y from by rw [← hwb]; exact EnB.new wr y)
            clear hwb
            have HYB := hyb
            go_upto_region 14 with (at_builtin; refine wpList_epush wb rfl _ _ rfl w9.heap.size _ O x (by rfl) HJ3.out.own wb.heap.size _ (by rfl) rfl (by omega) HJ3.out.grown.size ?_; intro g7 cap7 w7 hown7 hg7; have HY7 := Lib.hid (box_past HYB.out hg7 HOl.out); have hy7 := (box_past HYB.out hg7 HOl.out).all; have HJ8 := Lib.hid (MkOf.app HJ3.out hg7 hown7); have hown8 := hown7; clear hown7 hg7)
            have hal : (O ++ [x]).length = O.length + 1 := by simp
            have HO8 := Lib.hid hown8
            obtain ⟨n0, n1, n2, n3, n4, n5, n6, n7, n8, n9⟩ := hy7
            clear hown8
            go_wp2_with (at_builtin; refine wpList_epush w7 rfl _ _ rfl w9.heap.size _ (O ++ [x]) y (by rfl) HO8.out w7.heap.size _ (by rfl) rfl (by rw [hal]; omega) HJ8.out.grown.size ?_; intro g6 cap6 w6 hown6 hg6; have HJ9 := Lib.hid (MkOf.app HJ8.out hg6 hown6); clear hown6 hg6)
            go_roundw
            case rel => exact ⟨q + 1, true, by omega, by go_num, rfl, Lib.hid (by simp), by rw [HNx.out]; rw [hal] at HJ9; exact HJ9, Lib.hid (fun h => HFr.out)⟩
            case measure => simp [intOf]; omega
        · have hN := out_high (x := x) hqk hy
          have hfr := HF.out hqk
          obtain ⟨z, hz⟩ : ∃ z, L[k]? = some z := ⟨_, List.getElem?_eq_getElem (by omega)⟩
          have hye : x.e ≤ y.s := by
            have h1 := rf_two HR.out hqk hz hy
            rw [free_at (by rw [HK.out]; exact hz)] at hfr
            have h2 := of_decide_eq_true hfr
            have h3 := (rf_at HR.out hz).lt
            omega
          obtain rfl : b = true := by rw [HBd.out]; simp; omega
          have HFr := Lib.hid (HF.out hqk)
          obtain ⟨O, hO⟩ : ∃ O, outI L x k q = O := ⟨_, rfl⟩
          rw [hO] at HJ hln
          obtain ⟨va, vc, hvf⟩ := OwnOf.form HJ.out.own
          subst hvf
          have HJ3 := Lib.hid (show EMk w9 (wr.alloc (.cells #[.int .i64 y.s, .int .i64 y.e, .int .i64 y.f, .int .i64 y.o, .bool y.sh, .int .i64 y.p, .int .i64 y.m, .int .i64 y.i, .int .i64 y.a, .bool y.wi] 31)) _ O from MkOf.grow HJ.out (grown_box wr y))
          obtain ⟨k0, k1, k2, k3, k4, k5, k6, k7, k8, k9⟩ := (EnB.new wr y).all
          have hbx : (wr.alloc (.cells #[.int .i64 y.s, .int .i64 y.e, .int .i64 y.f, .int .i64 y.o, .bool y.sh, .int .i64 y.p, .int .i64 y.m, .int .i64 y.i, .int .i64 y.a, .bool y.wi] 31)).cell? ⟨w.heap.size, 0, none⟩ = some (.int .i64 x.s) ∧ (wr.alloc (.cells #[.int .i64 y.s, .int .i64 y.e, .int .i64 y.f, .int .i64 y.o, .bool y.sh, .int .i64 y.p, .int .i64 y.m, .int .i64 y.i, .int .i64 y.a, .bool y.wi] 31)).cell? ⟨w.heap.size, 1, none⟩ = some (.int .i64 x.e) ∧ (wr.alloc (.cells #[.int .i64 y.s, .int .i64 y.e, .int .i64 y.f, .int .i64 y.o, .bool y.sh, .int .i64 y.p, .int .i64 y.m, .int .i64 y.i, .int .i64 y.a, .bool y.wi] 31)).cell? ⟨w.heap.size, 2, none⟩ = some (.int .i64 x.f) ∧ (wr.alloc (.cells #[.int .i64 y.s, .int .i64 y.e, .int .i64 y.f, .int .i64 y.o, .bool y.sh, .int .i64 y.p, .int .i64 y.m, .int .i64 y.i, .int .i64 y.a, .bool y.wi] 31)).cell? ⟨w.heap.size, 3, none⟩ = some (.int .i64 x.o) ∧ (wr.alloc (.cells #[.int .i64 y.s, .int .i64 y.e, .int .i64 y.f, .int .i64 y.o, .bool y.sh, .int .i64 y.p, .int .i64 y.m, .int .i64 y.i, .int .i64 y.a, .bool y.wi] 31)).cell? ⟨w.heap.size, 4, none⟩ = some (.bool x.sh) ∧ (wr.alloc (.cells #[.int .i64 y.s, .int .i64 y.e, .int .i64 y.f, .int .i64 y.o, .bool y.sh, .int .i64 y.p, .int .i64 y.m, .int .i64 y.i, .int .i64 y.a, .bool y.wi] 31)).cell? ⟨w.heap.size, 5, none⟩ = some (.int .i64 x.p) ∧ (wr.alloc (.cells #[.int .i64 y.s, .int .i64 y.e, .int .i64 y.f, .int .i64 y.o, .bool y.sh, .int .i64 y.p, .int .i64 y.m, .int .i64 y.i, .int .i64 y.a, .bool y.wi] 31)).cell? ⟨w.heap.size, 6, none⟩ = some (.int .i64 x.m) ∧ (wr.alloc (.cells #[.int .i64 y.s, .int .i64 y.e, .int .i64 y.f, .int .i64 y.o, .bool y.sh, .int .i64 y.p, .int .i64 y.m, .int .i64 y.i, .int .i64 y.a, .bool y.wi] 31)).cell? ⟨w.heap.size, 7, none⟩ = some (.int .i64 x.i) ∧ (wr.alloc (.cells #[.int .i64 y.s, .int .i64 y.e, .int .i64 y.f, .int .i64 y.o, .bool y.sh, .int .i64 y.p, .int .i64 y.m, .int .i64 y.i, .int .i64 y.a, .bool y.wi] 31)).cell? ⟨w.heap.size, 8, none⟩ = some (.int .i64 x.a) ∧ (wr.alloc (.cells #[.int .i64 y.s, .int .i64 y.e, .int .i64 y.f, .int .i64 y.o, .bool y.sh, .int .i64 y.p, .int .i64 y.m, .int .i64 y.i, .int .i64 y.a, .bool y.wi] 31)).cell? ⟨w.heap.size, 9, none⟩ = some (.bool x.wi) := ((HB9.out.grow HJ.out.grown).grow (grown_box wr y)).all
          have HBw := Lib.hid (show EnB (wr.alloc (.cells #[.int .i64 y.s, .int .i64 y.e, .int .i64 y.f, .int .i64 y.o, .bool y.sh, .int .i64 y.p, .int .i64 y.m, .int .i64 y.i, .int .i64 y.a, .bool y.wi] 31)) w.heap.size x from (HB9.out.grow HJ.out.grown).grow (grown_box wr y))
          obtain ⟨m0, m1, m2, m3, m4, m5, m6, m7, m8, m9⟩ := hbx
          rw [hO] at hN
          have HNx := Lib.hid hN
          have b0 : decide (y.s < x.e) = false := decide_eq_false (by omega)
          clear hy hN hO HJ hyl hye hz hfr
          go_upto_region 9 with fail
          generalize hwb : wr.alloc (.cells #[.int .i64 y.s, .int .i64 y.e, .int .i64 y.f, .int .i64 y.o, .bool y.sh, .int .i64 y.p, .int .i64 y.m, .int .i64 y.i, .int .i64 y.a, .bool y.wi] 31) = wb at *
          clear hwb
          go_wp2_with (at_builtin; refine wpList_epush wb rfl _ _ rfl w9.heap.size _ O y (by rfl) HJ3.out.own wb.heap.size _ (by rfl) rfl (by omega) HJ3.out.grown.size ?_; intro g7 cap7 w7 hown7 hg7; have HJ8 := Lib.hid (MkOf.app HJ3.out hg7 hown7); clear hown7 hg7)
          go_roundw
          case rel => exact ⟨q + 1, true, by omega, by go_num, rfl, Lib.hid (by simp; omega), by rw [HNx.out]; exact HJ8, Lib.hid (fun h => HFr.out)⟩
          case measure => simp [intOf]; omega
      · obtain rfl : q = L.length := by omega
        cases b with
        | true =>
          have hkn : k < L.length := by have := HBd.out; simpa using this.symm
          have e1 : insE L x = (putE L x, true) := ins_yes HGd.out (HF.out hkn)
          obtain rfl : I = (putE L x, true) := HI0.out.symm.trans e1
          have e2 : outI L x k L.length = putE L x := by rw [out_end hkn]; unfold putE; rw [HK.out]
          rw [e2] at HJ
          obtain ⟨va, vc, hvf⟩ := OwnOf.form HJ.out.own
          subst hvf
          clear e1 e2
          go_wp2_with fail
          go_ret2
          exact ⟨_, rfl, OwnOf.lower HJ.out.own HG9.out.size, grown_trans HG9.out HJ.out.grown⟩
        | false =>
          have hkn : k = L.length := by have := HBd.out; simp at this; omega
          subst hkn
          have e1 : insE L x = (putE L x, true) := ins_yes HGd.out (free_end HK.out)
          obtain rfl : I = (putE L x, true) := HI0.out.symm.trans e1
          have e2 : putE L x = L ++ [x] := by unfold putE; rw [HK.out]; simp
          rw [out_all] at HJ
          obtain ⟨va, vc, hvf⟩ := OwnOf.form HJ.out.own
          subst hvf
          have HP := Lib.hid e2
          obtain ⟨m0, m1, m2, m3, m4, m5, m6, m7, m8, m9⟩ := (HB9.out.grow HJ.out.grown).all
          clear e1 e2
          go_wp2_with (at_builtin; refine wpList_epush wr rfl _ _ rfl w9.heap.size _ L x (by rfl) HJ.out.own wr.heap.size _ (by rfl) rfl (by omega) HJ.out.grown.size ?_; intro g7 cap7 w7 hown7 hg7; have HJ8 := Lib.hid (MkOf.app HJ.out hg7 hown7); clear hown7 hg7)
          go_ret2
          exact ⟨_, rfl, by rw [HP.out]; exact OwnOf.lower HJ8.out.own HG9.out.size, grown_trans HG9.out HJ8.out.grown⟩
end Go.Proofs.Ytamkmmhjmpjibaa
