/- Package walk, of the code as it landed: what isFrame, read, leads, mark, Place, Look and Walk answer of a memory. -/
import Derived.Test.YtomkhdefjfjlnaaWPlaces
import Derived.Laws.ResultCell
import Derived.Laws.Unary
import Derived.OwnWalk
import Derived.WalkMore
namespace Go.Proofs.Ytomkhdefjfjlnaa
open Go.ChangeShapes Go.WideShapes Go.ChangeAt Go.RowKit Go.Deep
set_option linter.unusedVariables false

theorem or_192 (x : Int) (hx : okU x) : bits .or .u64 x 192 = bits .or .u64 (bits .or .u64 x 64) 128 := by
  obtain ⟨n, rfl⟩ := Int.eq_ofNat_of_zero_le hx.1
  have h2 := hx.2
  have hlt : n ||| 64 < 2 ^ 64 := Nat.or_lt_two_pow (by omega) (by omega)
  have e1 : bits .or .u64 (n : Int) 64 = ((n ||| 64 : Nat) : Int) := bits_or_u64_nat n 64 (by omega) (by omega)
  have e2 : bits .or .u64 ((n ||| 64 : Nat) : Int) 128 = (((n ||| 64) ||| 128 : Nat) : Int) := bits_or_u64_nat (n ||| 64) 128 (by omega) (by omega)
  have e3 : bits .or .u64 (n : Int) 192 = ((n ||| 192 : Nat) : Int) := bits_or_u64_nat n 192 (by omega) (by omega)
  rw [e1, e2, e3, Nat.or_assoc, show (64 ||| 128 : Nat) = 192 from by decide]

theorem grown_alike {w w' : World} {r : Option Nat} (e1 : w'.heap = w.heap) (e2 : w'.os = w.os) (e3 : w'.tape = w.tape) (e4 : w'.output = w.output) : w.grownBy w' r := ⟨e2, e3, e4, by rw [e1]; exact Nat.le_refl _, fun k hk _ => by rw [e1]⟩

section
variable {w0 w w' : World} {m d n : Nat} {L : List UInt8}

theorem St.alike (h : St w0 w m d n L) (e1 : w'.heap = w.heap) (e2 : w'.os = w.os) (e3 : w'.tape = w.tape) (e4 : w'.output = w.output) : St w0 w' m d n L := h.grow (grown_alike e1 e2 e3 e4)

theorem isFrame_any (h : St w0 w m d n L) (i : Int) (b : Bool) (hb : decide (0 ≤ i ∧ i < n) = b) :
    Calls Try.prog 30 #[.pointer (some ⟨m, 0, none⟩), .int .i64 i] w fun e w' => e = .returned (.bool b) ∧ w = w' := by
  have HF := Lib.hid (framesE h)
  clear h
  subst hb
  by_cases h0 : 0 ≤ i
  · have d0 : decide (i ≥ 0) = true := by simpa using h0
    have e : decide (0 ≤ i ∧ i < (n : Int)) = decide (i < (n : Int)) := by simp [h0]
    rw [e]
    clear h0 e
    go_enter Try.func30, Try.ntmps30
    go_wp2_with fail
    refine HF.out.mono ?_
    rintro e w' ⟨rfl, rfl⟩
    go_wp2_with fail
    go_ret
    exact ⟨rfl, rfl⟩
  · have d0 : decide (i ≥ 0) = false := by simpa using h0
    have e : decide (0 ≤ i ∧ i < (n : Int)) = false := by simp [h0]
    rw [e]
    clear h0 e
    go_enter Try.func30, Try.ntmps30
    go_wp2_with fail
    go_ret
    exact ⟨rfl, rfl⟩

set_option maxHeartbeats 1000000 in
theorem read_ok (h : St w0 w m d n L) (i j X : Int) (hX : wordI n L i j = X) :
    Calls Try.prog 32 #[.pointer (some ⟨m, 0, none⟩), .int .i64 i, .int .i64 j] w fun e w' => e = .returned (.agg #[.int .i64 (flagOf X), .int .i64 (ppnOf X)]) ∧ w.grownBy w' none := by
  have hx := wordI_ok n L i j
  rw [hX] at hx
  have HX := Lib.hid hX
  have HR := Lib.hid (h.grow (World.grownBy_alloc w (.cells #[.int .i64 0, .int .i64 0] 40) none))
  have HN := Lib.hid (heap_alloc_new w (.cells #[.int .i64 0, .int .i64 0] 40))
  have hlt : w.heap.size < (w.alloc (.cells #[.int .i64 0, .int .i64 0] 40)).heap.size := by simp
  have HL := Lib.hid hlt
  have HDc := Lib.hid (decode_ok X hx)
  clear h hlt hx hX
  generalize flagOf X = A at *
  generalize ppnOf X = B at *
  go_enter Try.func32, Try.ntmps32
  go_wp2_with fail
  refine (word_at HR.out _ _).mono ?_
  rintro e w' ⟨rfl, rfl⟩
  rw [HX.out]
  go_wp2_with fail
  refine (HDc.out _).mono ?_
  rintro e w3 ⟨rfl, h3⟩
  have h2 := grown_of_below' h3
  have hb := (h2.block _ HL.out (by simp)).trans HN.out
  have hc0 : w3.cell? ⟨w.heap.size, 0, none⟩ = some (.int .i64 0) := by rw [cell_of_row _ _ _ _ _ _ hb]; rfl
  have hc1 : w3.cell? ⟨w.heap.size, 1, none⟩ = some (.int .i64 0) := by rw [cell_of_row _ _ _ _ _ _ hb]; rfl
  have hf0 := frozen_of_row w3 w.heap.size 0 _ _ hb
  have hf1 := frozen_of_row w3 w.heap.size 1 _ _ hb
  have HB := Lib.hid hb
  have H2 := Lib.hid h2
  clear h2 h3 hb
  go_wp2_with fail
  refine bodyPost_ret (results_cell_row rfl _ _ w.heap.size _ #[.int .i64 A, .int .i64 B] (0, 0) _ rfl (heap_two _ _ _ _ _ _ _ HB.out rfl rfl) Try.underlying40 (by kernel_rfl) (by kernel_rfl)) rfl ?_
  exact ⟨rfl, grown_two _ _ _ _ _ H2.out⟩

set_option maxHeartbeats 1000000 in
theorem leads_any (h : St w0 w m d n L) (A B : Int) (b : Bool) (hb : decide (kindOf A = 1 ∧ 0 ≤ B ∧ B < n) = b) :
    Calls Try.prog 43 #[.pointer (some ⟨m, 0, none⟩), .agg #[.int .i64 A, .int .i64 B]] w fun e w' => e = .returned (.bool b) ∧ w.grownBy w' none := by
  have HS := Lib.hid (h.grow (World.grownBy_alloc w (.cells #[.int .i64 A, .int .i64 B] 40) none))
  have HY := Lib.hid (show EntB (w.alloc (.cells #[.int .i64 A, .int .i64 B] 40)) w.heap.size A B from heap_alloc_new w _)
  have HG := Lib.hid (World.grownBy_alloc w (.cells #[.int .i64 A, .int .i64 B] 40) none)
  have HK0 := kind_ok A B
  clear h
  by_cases hk : kindOf A = 1
  · have e : decide (0 ≤ B ∧ B < (n : Int)) = b := by rw [← hb]; simp [hk]
    rw [hk] at HK0
    have HK := Lib.hid HK0
    have HE := Lib.hid e
    clear HK0 e hb hk
    go_enter Try.func43, Try.ntmps43
    go_wp2_with fail
    refine (HK.out _).mono ?_
    rintro e w2 ⟨rfl, h2⟩
    have HS2 := Lib.hid (HS.out.grow (grown_of_below' h2))
    have HG2 := Lib.hid (grown_trans HG.out (grown_of_below' h2))
    have HY2 := Lib.hid (HY.out.grow (grown_of_below' h2))
    have hc1 := HY2.out.at.2
    clear h2
    go_wp2_with fail
    refine (isFrame_any HS2.out B b HE.out).mono ?_
    rintro e w' ⟨rfl, rfl⟩
    go_wp2_with fail
    go_ret
    exact ⟨rfl, HG2.out⟩
  · obtain rfl : b = false := by rw [← hb]; simp [hk]
    have HK := Lib.hid HK0
    have e0 : (kindOf A == 1) = false := by simp [hk]
    clear HK0 hb hk
    generalize kindOf A = kd at *
    go_enter Try.func43, Try.ntmps43
    go_wp2_with fail
    refine (HK.out _).mono ?_
    rintro e w2 ⟨rfl, h2⟩
    have HG2 := Lib.hid (grown_trans HG.out (grown_of_below' h2))
    clear h2
    go_wp2_with fail
    go_ret
    exact ⟨rfl, HG2.out⟩

set_option maxHeartbeats 1000000 in
theorem mark_ok (h : St w0 w m d n L) (i j a X : Int) (hi : 0 ≤ i ∧ i < n) (hj : 0 ≤ j ∧ j < 512) (hX : wordI n L i j = X) :
    Calls Try.prog 34 #[.pointer (some ⟨m, 0, none⟩), .int .i64 i, .int .i64 j, .int .i64 a] w fun e w' => e = .returned (.tuple #[]) ∧ St w0 w' m d n (setL n L i j (markOf X a)) ∧ w.grownBy w' (some d) := by
  have hx := wordI_ok n L i j
  rw [hX] at hx
  have HS := Lib.hid h
  have HX := Lib.hid hX
  have HI := Lib.hid hi
  have HJ := Lib.hid hj
  have HMk := Lib.hid (okU_mark X a hx)
  clear h hX hi hj
  by_cases ha : a = 2
  · subst ha
    have hmk : markOf X 2 = bits .or .u64 X 192 := (or_192 X hx).symm
    rw [hmk] at HMk ⊢
    have HE0 := encode_ok 192 0
    rw [show encOf 192 0 = 192 by decide] at HE0
    have HE := Lib.hid HE0
    clear hmk hx HE0
    go_enter Try.func34, Try.ntmps34
    go_wp2_with fail
    refine (word_at HS.out _ _).mono ?_
    rintro e w' ⟨rfl, rfl⟩
    rw [HX.out]
    go_wp2_with fail
    refine (HE.out _).mono ?_
    rintro e w2 ⟨rfl, h2⟩
    have HS2 := Lib.hid (HS.out.grow (grown_of_below' h2))
    have HG2 := Lib.hid (grown_of_below h2 (some d))
    clear h2
    go_wp2_with fail
    refine (setWordE' HS2.out _ _ _ HI.out HJ.out HMk.out).mono ?_
    rintro e w3 ⟨rfl, h3, g3⟩
    have HS3 := Lib.hid h3
    have HG3 := Lib.hid (grown_trans HG2.out g3)
    clear h3 g3
    go_wp2_with fail
    go_end0
    exact ⟨rfl, HS3.out, HG3.out⟩
  · have ea : (a == 2) = false := by simp [ha]
    have hmk : markOf X a = bits .or .u64 X 64 := by unfold markOf; rw [if_neg ha]
    clear ha
    rw [hmk] at HMk ⊢
    have HE0 := encode_ok 64 0
    rw [show encOf 64 0 = 64 by decide] at HE0
    have HE := Lib.hid HE0
    clear hmk hx HE0
    go_enter Try.func34, Try.ntmps34
    go_wp2_with fail
    refine (word_at HS.out _ _).mono ?_
    rintro e w' ⟨rfl, rfl⟩
    rw [HX.out]
    go_wp2_with fail
    refine (HE.out _).mono ?_
    rintro e w2 ⟨rfl, h2⟩
    have HS2 := Lib.hid (HS.out.grow (grown_of_below' h2))
    have HG2 := Lib.hid (grown_of_below h2 (some d))
    clear h2
    go_wp2_with fail
    refine (setWordE' HS2.out _ _ _ HI.out HJ.out HMk.out).mono ?_
    rintro e w3 ⟨rfl, h3, g3⟩
    have HS3 := Lib.hid h3
    have HG3 := Lib.hid (grown_trans HG2.out g3)
    clear h3 g3
    go_wp2_with fail
    go_end0
    exact ⟨rfl, HS3.out, HG3.out⟩


set_option maxHeartbeats 2000000 in
theorem place_any (h : St w0 w m d n L) (root v : Int) :
    Calls Try.prog 13 #[.pointer (some ⟨m, 0, none⟩), .int .i64 root, .int .i64 v] w fun e w' => e = .returned (plV v (placeOf n L root v)) ∧ w.grownBy w' none := by
  have H := Lib.hid h
  by_cases hr : 0 ≤ root ∧ root < n
  · have HI := Lib.hid (isFrame_any h root true (by simpa using hr))
    by_cases hv0 : v < 0
    · have d0 : decide (v < 0) = true := by simpa using hv0
      have hp : placeOf n L root v = none := by unfold placeOf; rw [if_neg (by omega)]
      rw [hp]
      clear h hr hv0 hp
      go_enter Try.func13, Try.ntmps13
      go_wp2_with fail
      go_step3
      go_wp2_with fail
      refine HI.out.mono ?_
      rintro e w' ⟨rfl, rfl⟩
      go_wp2_with fail
      try rw [Exit.noGoto_ret]
      go_ret3
      exact ⟨rfl, grown_refl _ _⟩
    · have d0 : decide (v < 0) = false := by simpa using hv0
      by_cases hv1 : v ≥ 134217728
      · have d1 : decide (v ≥ 134217728) = true := by simpa using hv1
        have hp : placeOf n L root v = none := by unfold placeOf; rw [if_neg (by omega)]
        rw [hp]
        clear h hr hv0 hv1 hp
        go_enter Try.func13, Try.ntmps13
        go_wp2_with fail
        go_step3
        go_wp2_with fail
        refine HI.out.mono ?_
        rintro e w' ⟨rfl, rfl⟩
        go_wp2_with fail
        try rw [Exit.noGoto_ret]
        go_ret3
        exact ⟨rfl, grown_refl _ _⟩
      · have d1 : decide (v ≥ 134217728) = false := by simpa using hv1
        have hp : placeOf n L root v = downOf n L v 2 root := by unfold placeOf; rw [if_pos (by omega)]
        rw [hp]
        have HR := Lib.hid hr
        obtain ⟨D, hD⟩ : ∃ D, downOf n L v 2 root = D := ⟨_, rfl⟩
        rw [hD]
        clear h hr hv0 hv1 hp
        have HD := Lib.hid hD
        clear hD
        go_enter Try.func13, Try.ntmps13
        go_wp2_with fail
        go_step3
        go_wp2_with fail
        refine HI.out.mono ?_
        rintro e w' ⟨rfl, rfl⟩
        go_wp2_with fail
        go_step3
        go_wp2_with fail
        go_loopw [9, 10] (fun fv lv wr => ∃ (q : Nat) (fr : Int), q ≤ 2 ∧ lv = .int .i64 q ∧ fv = .int .i64 fr ∧ Hid (0 ≤ fr ∧ fr < n) ∧ Hid (downOf n L v q fr = D) ∧ Hid (w.grownBy wr none) ∧ Hid (St w0 wr m d n L)) (fun _ lv _ => (intOf lv).toNat)
        case atStart => exact ⟨2, root, by omega, rfl, rfl, HR.out, HD.out, grown_refl _ _, H.out⟩
        case round =>
          obtain ⟨q, fr, hq, rfl, rfl, HF, HE, HG, HS⟩ := hrel
          match q, hq with
          | 0, _ =>
            have e := Lib.hid (show D = some fr from HE.out.symm)
            obtain ⟨X, hX⟩ : ∃ X, wordI n L fr (indexOf v 0) = X := ⟨_, rfl⟩
            have HRd0 := fun {wx : World} (hs : St w0 wx m d n L) => read_ok hs fr (indexOf v 0) X hX
            have HRd := Lib.hid (fun (wx : World) (hs : St w0 wx m d n L) => HRd0 hs)
            have HIx := Lib.hid (fun (wx : World) => toBelow (index_ok v 0 wx))
            clear HRd0 hX
            have HQ := Lib.hid (show plV v (some fr) = .tuple #[.int .i64 fr, .int .i64 (indexOf v 0), .bool true] from rfl)
            generalize indexOf v 0 = ix at *
            generalize flagOf X = A at *
            generalize ppnOf X = B at *
            go_wp2_with fail
            refine (HIx.out _).mono ?_
            rintro e w2 ⟨rfl, h2⟩
            have HG2 := Lib.hid (grown_trans HG.out (grown_of_below' h2))
            have HS2 := Lib.hid (HS.out.grow (grown_of_below' h2))
            clear h2
            go_wp2_with fail
            refine (HRd.out _ HS2.out).mono ?_
            rintro e w3 ⟨rfl, h3⟩
            have HG3 := Lib.hid (grown_trans HG2.out (grown_trans h3 (World.grownBy_alloc w3 (.cells #[.int .i64 A, .int .i64 B] 40) none)))
            clear h3
            go_wp2_with fail
            try rw [Exit.noGoto_ret]
            go_ret3
            rw [e.out, HQ.out]
            exact ⟨rfl, HG3.out⟩
          | k + 1, hq =>
            have hl : ((k + 1 : Nat) : Int) = (k : Int) + 1 := by omega
            obtain ⟨X, hX⟩ : ∃ X, wordI n L fr (indexOf v ((k : Int) + 1)) = X := ⟨_, rfl⟩
            have HRd := Lib.hid (fun (wx : World) (hs : St w0 wx m d n L) => read_ok hs fr (indexOf v ((k : Int) + 1)) X hX)
            have HIx := Lib.hid (fun (wx : World) => toBelow (index_ok v ((k : Int) + 1) wx))
            have hnext : nextOf n L v fr ((k + 1 : Nat) : Int) = if kindOf (flagOf X) = 1 ∧ 0 ≤ ppnOf X ∧ ppnOf X < n then some (ppnOf X) else none := by unfold nextOf; rw [hl, hX]
            have e0 : ((k : Int) + 1 == 0) = false := by simp; omega
            clear hX hl
            generalize indexOf v ((k : Int) + 1) = ix at *
            by_cases hc : kindOf (flagOf X) = 1 ∧ 0 ≤ ppnOf X ∧ ppnOf X < n
            · rw [if_pos hc] at hnext
              have HB := Lib.hid hc.2
              have HE2 := Lib.hid ((down_some hnext).symm.trans HE.out)
              have HLd := Lib.hid (fun (wx : World) (hs : St w0 wx m d n L) => leads_any hs (flagOf X) (ppnOf X) true (by simpa using hc))
              clear hc hnext
              generalize flagOf X = A at *
              generalize ppnOf X = B at *
              go_wp2_with fail
              refine (HIx.out _).mono ?_
              rintro e w2 ⟨rfl, h2⟩
              have HG2 := Lib.hid (grown_trans HG.out (grown_of_below' h2))
              have HS2 := Lib.hid (HS.out.grow (grown_of_below' h2))
              clear h2
              go_wp2_with fail
              refine (HRd.out _ HS2.out).mono ?_
              rintro e w3 ⟨rfl, h3⟩
              have HG3 := Lib.hid (grown_trans HG2.out (grown_trans h3 (World.grownBy_alloc w3 (.cells #[.int .i64 A, .int .i64 B] 40) none)))
              have HS3 := Lib.hid ((HS2.out.grow h3).grow (World.grownBy_alloc w3 (.cells #[.int .i64 A, .int .i64 B] 40) none))
              have HY3 := Lib.hid (show EntB (w3.alloc (.cells #[.int .i64 A, .int .i64 B] 40)) w3.heap.size A B from heap_alloc_new w3 _)
              clear h3
              go_wp2_with fail
              refine (HLd.out _ HS3.out).mono ?_
              rintro e w4 ⟨rfl, h4⟩
              have HG4 := Lib.hid (grown_trans HG3.out h4)
              have HS4 := Lib.hid (HS3.out.grow h4)
              have HY4 := Lib.hid (HY3.out.grow h4)
              have hc1 := HY4.out.at.2
              clear h4
              go_wp2_with fail
              go_round
              case rel => exact ⟨k, B, by omega, by go_num, rfl, HB.out, HE2.out, HG4.out, HS4.out⟩
              case measure => simp [intOf]
            · rw [if_neg hc] at hnext
              have HE2 := Lib.hid ((down_none hnext).symm.trans HE.out)
              have HLd := Lib.hid (fun (wx : World) (hs : St w0 wx m d n L) => leads_any hs (flagOf X) (ppnOf X) false (by simpa using hc))
              clear hc hnext
              generalize flagOf X = A at *
              generalize ppnOf X = B at *
              go_wp2_with fail
              refine (HIx.out _).mono ?_
              rintro e w2 ⟨rfl, h2⟩
              have HG2 := Lib.hid (grown_trans HG.out (grown_of_below' h2))
              have HS2 := Lib.hid (HS.out.grow (grown_of_below' h2))
              clear h2
              go_wp2_with fail
              refine (HRd.out _ HS2.out).mono ?_
              rintro e w3 ⟨rfl, h3⟩
              have HG3 := Lib.hid (grown_trans HG2.out (grown_trans h3 (World.grownBy_alloc w3 (.cells #[.int .i64 A, .int .i64 B] 40) none)))
              have HS3 := Lib.hid ((HS2.out.grow h3).grow (World.grownBy_alloc w3 (.cells #[.int .i64 A, .int .i64 B] 40) none))
              clear h3
              go_wp2_with fail
              refine (HLd.out _ HS3.out).mono ?_
              rintro e w4 ⟨rfl, h4⟩
              have HG4 := Lib.hid (grown_trans HG3.out h4)
              clear h4
              go_wp2_with fail
              try rw [Exit.noGoto_ret]
              go_ret3
              rw [← HE2.out]
              exact ⟨rfl, HG4.out⟩
  · have HI := Lib.hid (isFrame_any h root false (by simpa using hr))
    have hp : placeOf n L root v = none := by unfold placeOf; rw [if_neg (by omega)]
    rw [hp]
    clear h hr hp
    go_enter Try.func13, Try.ntmps13
    go_wp2_with fail
    go_step3
    go_wp2_with fail
    refine HI.out.mono ?_
    rintro e w' ⟨rfl, rfl⟩
    go_wp2_with fail
    try rw [Exit.noGoto_ret]
    go_ret3
    exact ⟨rfl, grown_refl _ _⟩

set_option maxHeartbeats 1000000 in
theorem look_any (h : St w0 w m d n L) (root v : Int) :
    Calls Try.prog 15 #[.pointer (some ⟨m, 0, none⟩), .int .i64 root, .int .i64 v] w fun e w' => e = .returned (lookV n L v (placeOf n L root v)) ∧ w.grownBy w' none := by
  have HR := Lib.hid (h.grow (World.grownBy_alloc w (.cells #[.int .i64 0, .int .i64 0] 40) none))
  have HP0 := place_any HR.out root v
  have HN := Lib.hid (heap_alloc_new w (.cells #[.int .i64 0, .int .i64 0] 40))
  have hlt : w.heap.size < (w.alloc (.cells #[.int .i64 0, .int .i64 0] 40)).heap.size := by simp
  have HL := Lib.hid hlt
  clear h hlt
  cases hD : placeOf n L root v with
  | none =>
    rw [hD] at HP0
    have HP := Lib.hid HP0
    replace HP : Hid (Calls Try.prog 13 #[.pointer (some ⟨m, 0, none⟩), .int .i64 root, .int .i64 v] (w.alloc (.cells #[.int .i64 0, .int .i64 0] 40)) fun e w' => e = .returned (.tuple #[.int .i64 0, .int .i64 0, .bool false]) ∧ (w.alloc (.cells #[.int .i64 0, .int .i64 0] 40)).grownBy w' none) := HP
    clear hD HP0
    go_enter Try.func15, Try.ntmps15
    go_wp2_with fail
    refine HP.out.mono ?_
    rintro e w2 ⟨rfl, h2⟩
    have hb := (h2.block _ HL.out (by simp)).trans HN.out
    have hc0 : w2.cell? ⟨w.heap.size, 0, none⟩ = some (.int .i64 0) := by rw [cell_of_row _ _ _ _ _ _ hb]; rfl
    have hc1 : w2.cell? ⟨w.heap.size, 1, none⟩ = some (.int .i64 0) := by rw [cell_of_row _ _ _ _ _ _ hb]; rfl
    have hf0 := frozen_of_row w2 w.heap.size 0 _ _ hb
    have hf1 := frozen_of_row w2 w.heap.size 1 _ _ hb
    have HB := Lib.hid hb
    have H2 := Lib.hid h2
    clear h2 hb
    go_wp2_with fail
    refine bodyPost_ret (results_row_tmp rfl _ _ w.heap.size _ #[.int .i64 0, .int .i64 0] (0, 0) _ rfl (heap_two _ _ _ _ _ _ _ HB.out rfl rfl) Try.underlying40 (by kernel_rfl) (by kernel_rfl)) rfl ?_
    exact ⟨rfl, grown_two _ _ _ _ _ H2.out⟩
  | some g =>
    rw [hD] at HP0
    have HP := Lib.hid HP0
    replace HP : Hid (Calls Try.prog 13 #[.pointer (some ⟨m, 0, none⟩), .int .i64 root, .int .i64 v] (w.alloc (.cells #[.int .i64 0, .int .i64 0] 40)) fun e w' => e = .returned (.tuple #[.int .i64 g, .int .i64 (indexOf v 0), .bool true]) ∧ (w.alloc (.cells #[.int .i64 0, .int .i64 0] 40)).grownBy w' none) := HP
    have hl : lookV n L v (some g) = .tuple #[.agg #[.int .i64 (flagOf (wordI n L g (indexOf v 0))), .int .i64 (ppnOf (wordI n L g (indexOf v 0)))], .bool true] := rfl
    rw [hl]
    obtain ⟨X, hX⟩ : ∃ X, wordI n L g (indexOf v 0) = X := ⟨_, rfl⟩
    have HRd := Lib.hid (fun (wx : World) (hs : St w0 wx m d n L) => read_ok hs g (indexOf v 0) X hX)
    rw [hX]
    clear hD HP0 hl hX
    generalize indexOf v 0 = ix at *
    generalize flagOf X = A at *
    generalize ppnOf X = B at *
    go_enter Try.func15, Try.ntmps15
    go_wp2_with fail
    refine HP.out.mono ?_
    rintro e w2 ⟨rfl, h2⟩
    have HS2 := Lib.hid (HR.out.grow h2)
    have H1 := Lib.hid h2
    clear h2
    go_wp2_with fail
    refine (HRd.out _ HS2.out).mono ?_
    rintro e w3 ⟨rfl, h3⟩
    have h2 := grown_trans H1.out h3
    have hb := (h2.block _ HL.out (by simp)).trans HN.out
    have hc0 : w3.cell? ⟨w.heap.size, 0, none⟩ = some (.int .i64 0) := by rw [cell_of_row _ _ _ _ _ _ hb]; rfl
    have hc1 : w3.cell? ⟨w.heap.size, 1, none⟩ = some (.int .i64 0) := by rw [cell_of_row _ _ _ _ _ _ hb]; rfl
    have hf0 := frozen_of_row w3 w.heap.size 0 _ _ hb
    have hf1 := frozen_of_row w3 w.heap.size 1 _ _ hb
    have HB := Lib.hid hb
    have H2 := Lib.hid h2
    clear h2 h3 hb
    go_wp2_with fail
    refine bodyPost_ret (results_row_tmp rfl _ _ w.heap.size _ #[.int .i64 A, .int .i64 B] (0, 0) _ rfl (heap_two _ _ _ _ _ _ _ HB.out rfl rfl) Try.underlying40 (by kernel_rfl) (by kernel_rfl)) rfl ?_
    exact ⟨rfl, grown_two _ _ _ _ _ H2.out⟩

theorem EntB.grownS {w w' : World} {x y : Nat} {A B : Int} (h : EntB w y A B) (g : w.grownBy w' (some x)) (hy : y ≠ x) : EntB w' y A B := (g.block _ h.lt (by intro e; exact hy (Option.some.inj e))).trans h


set_option maxHeartbeats 2000000 in
theorem walk_any (h : St w0 w m d n L) (root va a : Int) (u : Bool) :
    Calls Try.prog 10 #[.pointer (some ⟨m, 0, none⟩), .int .i64 root, .int .i64 va, .int .i64 a, .bool u] w fun e w' =>
      e = .returned (walkV n L root va a u) ∧ St w0 w' m d n (walkL n L root va a u) ∧ w.grownBy w' (some d) := by
  have HS0 := Lib.hid h
  have HC := Lib.hid (canonical_ok va)
  by_cases hc : canonOf va = true
  · by_cases hr : 0 ≤ root ∧ root < n
    · have HI := Lib.hid (isFrame_any h root true (by simpa using hr))
      have HSp := Lib.hid (fun (wx : World) => toBelow (split_ok va wx))
      have HP0 : ∀ (wx : World), St w0 wx m d n L → Calls Try.prog 13 #[.pointer (some ⟨m, 0, none⟩), .int .i64 root, .int .i64 (vpnOf va)] wx fun e w' => e = .returned (plV (vpnOf va) (placeOf n L root (vpnOf va))) ∧ wx.grownBy w' none := fun wx hs => place_any hs root (vpnOf va)
      rw [hc] at HC
      cases hD : placeOf n L root (vpnOf va) with
      | none =>
        have hw : wayOf n L root va a u = 1 := by unfold wayOf; rw [if_neg (by simp [hc, hr]), if_pos hD]
        rw [walkV_no hw (by decide), walkL_no hw (by decide)]
        rw [hD] at HP0
        have HP := Lib.hid HP0
        replace HP : Hid (∀ (wx : World), St w0 wx m d n L → Calls Try.prog 13 #[.pointer (some ⟨m, 0, none⟩), .int .i64 root, .int .i64 (vpnOf va)] wx fun e w' => e = .returned (.tuple #[.int .i64 0, .int .i64 0, .bool false]) ∧ wx.grownBy w' none) := HP
        clear h hc hr hw hD HP0
        generalize vpnOf va = vp at *
        generalize byteOf va = bt at *
        go_enter Try.func10, Try.ntmps10
        go_wp2_with fail
        refine (HC.out _).mono ?_
        rintro e w' ⟨rfl, rfl⟩
        go_wp2_with fail
        refine HI.out.mono ?_
        rintro e w' ⟨rfl, rfl⟩
        go_wp2_with fail
        refine (HSp.out _).mono ?_
        rintro e w1 ⟨rfl, h1⟩
        have HR1 := Lib.hid (HS0.out.grow (grown_of_below' h1))
        have HG1 := Lib.hid (grown_of_below' h1)
        clear h1
        go_wp2_with fail
        refine (HP.out _ HR1.out).mono ?_
        rintro e w2 ⟨rfl, h2⟩
        have HR2 := Lib.hid (HR1.out.grow h2)
        have HG2 := Lib.hid (grown_trans HG1.out h2)
        clear h2
        go_wp2_with fail
        go_ret3
        exact ⟨rfl, HR2.out, grown_none HG2.out⟩
      | some g =>
        have htab : tabOf n L root va = g := by unfold tabOf; rw [hD]; rfl
        have hg := place_lt hD
        have hent : entOf n L root va = wordI n L g (indexOf (vpnOf va) 0) := by unfold entOf; rw [htab]
        have hix := index_lt0 (vpnOf va)
        rw [hD] at HP0
        have HP := Lib.hid HP0
        replace HP : Hid (∀ (wx : World), St w0 wx m d n L → Calls Try.prog 13 #[.pointer (some ⟨m, 0, none⟩), .int .i64 root, .int .i64 (vpnOf va)] wx fun e w' => e = .returned (.tuple #[.int .i64 g, .int .i64 (indexOf (vpnOf va) 0), .bool true]) ∧ wx.grownBy w' none) := HP
        obtain ⟨X, hX⟩ : ∃ X, wordI n L g (indexOf (vpnOf va) 0) = X := ⟨_, rfl⟩
        have HRd := Lib.hid (fun (wx : World) (hs : St w0 wx m d n L) => read_ok hs g (indexOf (vpnOf va) 0) X hX)
        have HMk := Lib.hid (fun (wx : World) (hs : St w0 wx m d n L) => mark_ok hs g (indexOf (vpnOf va) 0) a X hg hix hX)
        rw [hX] at hent
        have hw0 : wayOf n L root va a u = if ¬ (kindOf (flagOf X) = 2 ∧ 0 ≤ ppnOf X ∧ ppnOf X < n) then 1 else if mayOf (flagOf X) a u = false then 3 else 0 := by
          unfold wayOf; rw [if_neg (by simp [hc, hr]), if_neg (by rw [hD]; simp), hent]
        have HK0 := kind_ok (flagOf X) (ppnOf X)
        have HM0 := may_ok (flagOf X) (ppnOf X) a u
        have HE1 := Lib.hid hent
        have HT1 := Lib.hid htab
        clear hX h hc hr hD HP0 hix hg htab hent
        by_cases hk : kindOf (flagOf X) = 2
        · rw [hk] at HK0
          by_cases hb : 0 ≤ ppnOf X ∧ ppnOf X < n
          · rw [if_neg (fun q => q ⟨hk, hb⟩)] at hw0
            have HB := Lib.hid hb
            have HK := Lib.hid HK0
            clear hk hb HK0
            by_cases hm : mayOf (flagOf X) a u = false
            · rw [if_pos hm] at hw0
              rw [walkV_no hw0 (by decide), walkL_no hw0 (by decide)]
              rw [hm] at HM0
              have HM := Lib.hid HM0
              clear hm hw0 HM0 HE1 HT1
              generalize flagOf X = A at *
              generalize ppnOf X = B at *
              generalize indexOf (vpnOf va) 0 = ix at *
              generalize vpnOf va = vp at *
              generalize byteOf va = bt at *
              go_enter Try.func10, Try.ntmps10
              go_wp2_with fail
              refine (HC.out _).mono ?_
              rintro e w' ⟨rfl, rfl⟩
              go_wp2_with fail
              refine HI.out.mono ?_
              rintro e w' ⟨rfl, rfl⟩
              go_wp2_with fail
              refine (HSp.out _).mono ?_
              rintro e w1 ⟨rfl, h1⟩
              have HR1 := Lib.hid (HS0.out.grow (grown_of_below' h1))
              have HG1 := Lib.hid (grown_of_below' h1)
              clear h1
              go_wp2_with fail
              refine (HP.out _ HR1.out).mono ?_
              rintro e w2 ⟨rfl, h2⟩
              have HR2 := Lib.hid (HR1.out.grow h2)
              have HG2 := Lib.hid (grown_trans HG1.out h2)
              clear h2
              go_wp2_with fail
              refine (HRd.out _ HR2.out).mono ?_
              rintro e w3 ⟨rfl, h3⟩
              have HG3 := Lib.hid (grown_trans HG2.out (grown_trans h3 (World.grownBy_alloc w3 (.cells #[.int .i64 A, .int .i64 B] 40) none)))
              have HR3 := Lib.hid ((HR2.out.grow h3).grow (World.grownBy_alloc w3 (.cells #[.int .i64 A, .int .i64 B] 40) none))
              have HY3 := Lib.hid (show EntB (w3.alloc (.cells #[.int .i64 A, .int .i64 B] 40)) w3.heap.size A B from heap_alloc_new w3 _)
              have HYd := Lib.hid (show w3.heap.size ≠ d from fun hm => by have := (Array.getElem?_eq_some_iff.1 (HR2.out.grow h3).mem.body).1; omega)
              clear h3
              go_wp2_with fail
              refine (HK.out _).mono ?_
              rintro e w4 ⟨rfl, h4⟩
              have HG4 := Lib.hid (grown_trans HG3.out (grown_of_below' h4))
              have HR4 := Lib.hid (HR3.out.grow (grown_of_below' h4))
              have HY4 := Lib.hid (HY3.out.grow (grown_of_below' h4))
              have hc0 := HY4.out.at.1
              have hc1 := HY4.out.at.2
              clear h4
              go_wp2_with fail
              refine (isFrame_any HR4.out B true (by simpa using HB.out)).mono ?_
              rintro e w' ⟨rfl, rfl⟩
              go_wp2_with fail
              refine (HM.out _).mono ?_
              rintro e w5 ⟨rfl, h5⟩
              have HG5 := Lib.hid (grown_trans HG4.out (grown_of_below' h5))
              have HR5 := Lib.hid (HR4.out.grow (grown_of_below' h5))
              have HY5 := Lib.hid (HY4.out.grow (grown_of_below' h5))
              clear h5 hc0 hc1
              go_wp2_with fail
              go_ret3
              exact ⟨rfl, HR5.out, grown_none HG5.out⟩
            · have hm1 : mayOf (flagOf X) a u = true := by cases hq : mayOf (flagOf X) a u with | true => rfl | false => exact absurd hq hm
              rw [if_neg hm] at hw0
              rw [hm1] at HM0
              have HM := Lib.hid HM0
              have hv : walkV n L root va a u = .tuple #[.int .i64 0, .int .i64 (ppnOf X), .int .i64 (byteOf va)] := by unfold walkV; rw [if_pos hw0, HE1.out]
              have hl : walkL n L root va a u = setL n L g (indexOf (vpnOf va) 0) (markOf X a) := by unfold walkL; rw [if_pos hw0, HE1.out, HT1.out]
              rw [hv, hl]
              clear hm hm1 hw0 HM0 hv hl HE1 HT1
              generalize markOf X a = mk at *
              generalize flagOf X = A at *
              generalize ppnOf X = B at *
              generalize indexOf (vpnOf va) 0 = ix at *
              generalize vpnOf va = vp at *
              generalize byteOf va = bt at *
              go_enter Try.func10, Try.ntmps10
              go_wp2_with fail
              refine (HC.out _).mono ?_
              rintro e w' ⟨rfl, rfl⟩
              go_wp2_with fail
              refine HI.out.mono ?_
              rintro e w' ⟨rfl, rfl⟩
              go_wp2_with fail
              refine (HSp.out _).mono ?_
              rintro e w1 ⟨rfl, h1⟩
              have HR1 := Lib.hid (HS0.out.grow (grown_of_below' h1))
              have HG1 := Lib.hid (grown_of_below' h1)
              clear h1
              go_wp2_with fail
              refine (HP.out _ HR1.out).mono ?_
              rintro e w2 ⟨rfl, h2⟩
              have HR2 := Lib.hid (HR1.out.grow h2)
              have HG2 := Lib.hid (grown_trans HG1.out h2)
              clear h2
              go_wp2_with fail
              refine (HRd.out _ HR2.out).mono ?_
              rintro e w3 ⟨rfl, h3⟩
              have HG3 := Lib.hid (grown_trans HG2.out (grown_trans h3 (World.grownBy_alloc w3 (.cells #[.int .i64 A, .int .i64 B] 40) none)))
              have HR3 := Lib.hid ((HR2.out.grow h3).grow (World.grownBy_alloc w3 (.cells #[.int .i64 A, .int .i64 B] 40) none))
              have HY3 := Lib.hid (show EntB (w3.alloc (.cells #[.int .i64 A, .int .i64 B] 40)) w3.heap.size A B from heap_alloc_new w3 _)
              have HYd := Lib.hid (show w3.heap.size ≠ d from fun hm => by have := (Array.getElem?_eq_some_iff.1 (HR2.out.grow h3).mem.body).1; omega)
              clear h3
              go_wp2_with fail
              refine (HK.out _).mono ?_
              rintro e w4 ⟨rfl, h4⟩
              have HG4 := Lib.hid (grown_trans HG3.out (grown_of_below' h4))
              have HR4 := Lib.hid (HR3.out.grow (grown_of_below' h4))
              have HY4 := Lib.hid (HY3.out.grow (grown_of_below' h4))
              have hc0 := HY4.out.at.1
              have hc1 := HY4.out.at.2
              clear h4
              go_wp2_with fail
              refine (isFrame_any HR4.out B true (by simpa using HB.out)).mono ?_
              rintro e w' ⟨rfl, rfl⟩
              go_wp2_with fail
              refine (HM.out _).mono ?_
              rintro e w5 ⟨rfl, h5⟩
              have HG5 := Lib.hid (grown_trans HG4.out (grown_of_below' h5))
              have HR5 := Lib.hid (HR4.out.grow (grown_of_below' h5))
              have HY5 := Lib.hid (HY4.out.grow (grown_of_below' h5))
              clear h5 hc0 hc1
              go_wp2_with fail
              refine (HMk.out _ HR5.out).mono ?_
              rintro e w6 ⟨rfl, h6, g6⟩
              have HR6 := Lib.hid h6
              have HG6 := Lib.hid (grown_trans (grown_none (r := some d) HG5.out) g6)
              have HY6 := Lib.hid (HY5.out.grownS g6 HYd.out)
              have hc0 := HY6.out.at.1
              have hc1 := HY6.out.at.2
              clear h6 g6
              go_wp2_with fail
              go_quiet (fail)
              go_wp2_with fail
              go_ret3
              exact ⟨rfl, HR6.out.alike rfl rfl rfl rfl, grown_trans HG6.out (grown_alike rfl rfl rfl rfl)⟩
          · rw [if_pos (fun q => hb q.2)] at hw0
            rw [walkV_no hw0 (by decide), walkL_no hw0 (by decide)]
            have HB := Lib.hid hb
            have HK := Lib.hid HK0
            clear hk hb HK0 HM0 hw0 HE1 HT1
            generalize flagOf X = A at *
            generalize ppnOf X = B at *
            generalize indexOf (vpnOf va) 0 = ix at *
            generalize vpnOf va = vp at *
            generalize byteOf va = bt at *
            go_enter Try.func10, Try.ntmps10
            go_wp2_with fail
            refine (HC.out _).mono ?_
            rintro e w' ⟨rfl, rfl⟩
            go_wp2_with fail
            refine HI.out.mono ?_
            rintro e w' ⟨rfl, rfl⟩
            go_wp2_with fail
            refine (HSp.out _).mono ?_
            rintro e w1 ⟨rfl, h1⟩
            have HR1 := Lib.hid (HS0.out.grow (grown_of_below' h1))
            have HG1 := Lib.hid (grown_of_below' h1)
            clear h1
            go_wp2_with fail
            refine (HP.out _ HR1.out).mono ?_
            rintro e w2 ⟨rfl, h2⟩
            have HR2 := Lib.hid (HR1.out.grow h2)
            have HG2 := Lib.hid (grown_trans HG1.out h2)
            clear h2
            go_wp2_with fail
            refine (HRd.out _ HR2.out).mono ?_
            rintro e w3 ⟨rfl, h3⟩
            have HG3 := Lib.hid (grown_trans HG2.out (grown_trans h3 (World.grownBy_alloc w3 (.cells #[.int .i64 A, .int .i64 B] 40) none)))
            have HR3 := Lib.hid ((HR2.out.grow h3).grow (World.grownBy_alloc w3 (.cells #[.int .i64 A, .int .i64 B] 40) none))
            have HY3 := Lib.hid (show EntB (w3.alloc (.cells #[.int .i64 A, .int .i64 B] 40)) w3.heap.size A B from heap_alloc_new w3 _)
            have HYd := Lib.hid (show w3.heap.size ≠ d from fun hm => by have := (Array.getElem?_eq_some_iff.1 (HR2.out.grow h3).mem.body).1; omega)
            clear h3
            go_wp2_with fail
            refine (HK.out _).mono ?_
            rintro e w4 ⟨rfl, h4⟩
            have HG4 := Lib.hid (grown_trans HG3.out (grown_of_below' h4))
            have HR4 := Lib.hid (HR3.out.grow (grown_of_below' h4))
            have HY4 := Lib.hid (HY3.out.grow (grown_of_below' h4))
            have hc0 := HY4.out.at.1
            have hc1 := HY4.out.at.2
            clear h4
            go_wp2_with fail
            refine (isFrame_any HR4.out B false (by simpa using HB.out)).mono ?_
            rintro e w' ⟨rfl, rfl⟩
            go_wp2_with fail
            go_ret3
            exact ⟨rfl, HR4.out, grown_none HG4.out⟩
        · rw [if_pos (fun q => hk q.1)] at hw0
          rw [walkV_no hw0 (by decide), walkL_no hw0 (by decide)]
          have HK := Lib.hid HK0
          have e0 : (kindOf (flagOf X) == 2) = false := by simp [hk]
          clear hk HK0 HM0 hw0 HE1 HT1
          generalize kindOf (flagOf X) = kd at *
          generalize flagOf X = A at *
          generalize ppnOf X = B at *
          generalize indexOf (vpnOf va) 0 = ix at *
          generalize vpnOf va = vp at *
          generalize byteOf va = bt at *
          go_enter Try.func10, Try.ntmps10
          go_wp2_with fail
          refine (HC.out _).mono ?_
          rintro e w' ⟨rfl, rfl⟩
          go_wp2_with fail
          refine HI.out.mono ?_
          rintro e w' ⟨rfl, rfl⟩
          go_wp2_with fail
          refine (HSp.out _).mono ?_
          rintro e w1 ⟨rfl, h1⟩
          have HR1 := Lib.hid (HS0.out.grow (grown_of_below' h1))
          have HG1 := Lib.hid (grown_of_below' h1)
          clear h1
          go_wp2_with fail
          refine (HP.out _ HR1.out).mono ?_
          rintro e w2 ⟨rfl, h2⟩
          have HR2 := Lib.hid (HR1.out.grow h2)
          have HG2 := Lib.hid (grown_trans HG1.out h2)
          clear h2
          go_wp2_with fail
          refine (HRd.out _ HR2.out).mono ?_
          rintro e w3 ⟨rfl, h3⟩
          have HG3 := Lib.hid (grown_trans HG2.out (grown_trans h3 (World.grownBy_alloc w3 (.cells #[.int .i64 A, .int .i64 B] 40) none)))
          have HR3 := Lib.hid ((HR2.out.grow h3).grow (World.grownBy_alloc w3 (.cells #[.int .i64 A, .int .i64 B] 40) none))
          have HY3 := Lib.hid (show EntB (w3.alloc (.cells #[.int .i64 A, .int .i64 B] 40)) w3.heap.size A B from heap_alloc_new w3 _)
          have HYd := Lib.hid (show w3.heap.size ≠ d from fun hm => by have := (Array.getElem?_eq_some_iff.1 (HR2.out.grow h3).mem.body).1; omega)
          clear h3
          go_wp2_with fail
          refine (HK.out _).mono ?_
          rintro e w4 ⟨rfl, h4⟩
          have HG4 := Lib.hid (grown_trans HG3.out (grown_of_below' h4))
          have HR4 := Lib.hid (HR3.out.grow (grown_of_below' h4))
          have HY4 := Lib.hid (HY3.out.grow (grown_of_below' h4))
          have hc0 := HY4.out.at.1
          have hc1 := HY4.out.at.2
          clear h4
          go_wp2_with fail
          go_ret3
          exact ⟨rfl, HR4.out, grown_none HG4.out⟩
    · have HI := Lib.hid (isFrame_any h root false (by simpa using hr))
      have hw : wayOf n L root va a u = 2 := by unfold wayOf; rw [if_pos (.inr hr)]
      rw [walkV_no hw (by decide), walkL_no hw (by decide)]
      rw [hc] at HC
      clear h hc hr hw
      go_enter Try.func10, Try.ntmps10
      go_wp2_with fail
      refine (HC.out _).mono ?_
      rintro e w' ⟨rfl, rfl⟩
      go_wp2_with fail
      refine HI.out.mono ?_
      rintro e w' ⟨rfl, rfl⟩
      go_wp2_with fail
      go_ret3
      exact ⟨rfl, HS0.out, grown_refl _ _⟩
  · have hc1 : canonOf va = false := by cases hq : canonOf va with | false => rfl | true => exact absurd hq hc
    have hw : wayOf n L root va a u = 2 := by unfold wayOf; rw [if_pos (.inl hc1)]
    rw [walkV_no hw (by decide), walkL_no hw (by decide)]
    rw [hc1] at HC
    clear h hc hc1 hw
    go_enter Try.func10, Try.ntmps10
    go_wp2_with fail
    refine (HC.out _).mono ?_
    rintro e w' ⟨rfl, rfl⟩
    go_wp2_with fail
    go_ret3
    exact ⟨rfl, HS0.out, grown_refl _ _⟩
end

theorem walkOk : WalkOk := fun w0 w m d L h _ root va a u _ _ _ => walk_any h root va a u
theorem placeOk : PlaceOk := fun w0 w m d L h _ root v _ _ => place_any h root v
theorem lookOk : LookOk := fun w0 w m d L h _ root v _ _ => look_any h root v
end Go.Proofs.Ytomkhdefjfjlnaa
