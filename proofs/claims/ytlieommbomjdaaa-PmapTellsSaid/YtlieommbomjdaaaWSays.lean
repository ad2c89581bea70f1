/- Package walk, of the code as it landed: what isFrame, read, leads, mark, Place, Look and Walk answer of a memory. -/
import Derived.Test.YtlieommbomjdaaaWB2
import Derived.Laws.ResultCell
import Derived.Laws.Unary
import Derived.OwnWalk
import Derived.WalkMore
namespace Go.Proofs.Ytlieommbomjdaaa
open Go.ChangeShapes Go.WideShapes Go.ChangeAt Go.RowKit Go.Deep
set_option linter.unusedVariables false

theorem or_192 (x : Int) (hx : okU x) : bits .or .u64 x 192 = bits .or .u64 (bits .or .u64 x 64) 128 := by
  obtain ⟨n, rfl⟩ := Int.eq_ofNat_of_zero_le hx.1
  have h2 := hx.2
  have hlt : n ||| 64 < 2 ^ 64 := Nat.or_lt_two_pow (by omega) (by omega)
  have e1 : bits .or .u64 (n : Int) 64 = ((n ||| 64 : Nat) : Int) := bits_or_u64_nat n 64 (by omega) (by omega)
  have e2 : bits .or .u64 ((n ||| 64 : Nat) : Int) 128 = (((n ||| 64) ||| 128 : Nat) : Int) := bits_or_u64_nat (n ||| 64) 128 (by omega) (by omega)
  have e3 : bits .or .u64 (n : Int) 192 = ((n ||| 192 : Nat) : Int) := bits_or_u64_nat n 192 (by omega) (by omega)
  rw [e1, e2, e3, Nat.or_assoc, show (64 ||| 128 : Nat) = 192 from by decide]

theorem grown_alike {w w' : World} {r : Option Nat} (e1 : w'.heap = w.heap) (e2 : w'.os = w.os) (e3 : w'.tape = w.tape) (e4 : w'.output = w.output) : w.grownBy w' r := ⟨e2, e3, e4, by rw [e1]; exact Nat.le_refl _, fun k hk _ => by rw [e1]⟩

section
variable {w0 w w' : World} {m d n : Nat} {L : List UInt8}

theorem St.alike (h : St w0 w m d n L) (e1 : w'.heap = w.heap) (e2 : w'.os = w.os) (e3 : w'.tape = w.tape) (e4 : w'.output = w.output) : St w0 w' m d n L := h.grow (grown_alike e1 e2 e3 e4)

theorem isFrame_any (h : St w0 w m d n L) (i : Int) (b : Bool) (hb : decide (0 ≤ i ∧ i < n) = b) :
    Calls Try.prog 87 #[.pointer (some ⟨m, 0, none⟩), .int .i64 i] w fun e w' => e = .returned (.bool b) ∧ w = w' := by
  have HF := Lib.hid (framesE h)
  clear h
  subst hb
  by_cases h0 : 0 ≤ i
  · have d0 : decide (i ≥ 0) = true := by simpa using h0
    have e : decide (0 ≤ i ∧ i < (n : Int)) = decide (i < (n : Int)) := by simp [h0]
    rw [e]
    clear h0 e
    go_enter Try.func87, Try.ntmps87
    go_wp2_with fail
    refine HF.out.mono ?_
    rintro e w' ⟨rfl, rfl⟩
    go_wp2_with fail
    go_ret
    exact ⟨rfl, rfl⟩
  · have d0 : decide (i ≥ 0) = false := by simpa using h0
    have e : decide (0 ≤ i ∧ i < (n : Int)) = false := by simp [h0]
    rw [e]
    clear h0 e
    go_enter Try.func87, Try.ntmps87
    go_wp2_with fail
    go_ret
    exact ⟨rfl, rfl⟩

set_option maxHeartbeats 1000000 in
theorem read_ok (h : St w0 w m d n L) (i j X : Int) (hX : wordI n L i j = X) :
    Calls Try.prog 77 #[.pointer (some ⟨m, 0, none⟩), .int .i64 i, .int .i64 j] w fun e w' => e = .returned (.agg #[.int .i64 (flagOf X), .int .i64 (ppnOf X)]) ∧ w.grownBy w' none := by
  have hx := wordI_ok n L i j
  rw [hX] at hx
  have HX := Lib.hid hX
  have HR := Lib.hid (h.grow (World.grownBy_alloc w (.cells #[.int .i64 0, .int .i64 0] 44) none))
  have HN := Lib.hid (heap_alloc_new w (.cells #[.int .i64 0, .int .i64 0] 44))
  have hlt : w.heap.size < (w.alloc (.cells #[.int .i64 0, .int .i64 0] 44)).heap.size := by simp
  have HL := Lib.hid hlt
  have HDc := Lib.hid (decode_ok X hx)
  clear h hlt hx hX
  generalize flagOf X = A at *
  generalize ppnOf X = B at *
  go_enter Try.func77, Try.ntmps77
  go_wp2_with fail
  refine (word_at HR.out _ _).mono ?_
  rintro e w' ⟨rfl, rfl⟩
  rw [HX.out]
  go_wp2_with fail
  refine (HDc.out _).mono ?_
  rintro e w3 ⟨rfl, h3⟩
  have h2 := grown_of_below' h3
  have hb := (h2.block _ HL.out (by simp)).trans HN.out
  have hc0 : w3.cell? ⟨w.heap.size, 0, none⟩ = some (.int .i64 0) := by rw [cell_of_row _ _ _ _ _ _ hb]; rfl
  have hc1 : w3.cell? ⟨w.heap.size, 1, none⟩ = some (.int .i64 0) := by rw [cell_of_row _ _ _ _ _ _ hb]; rfl
  have hf0 := frozen_of_row w3 w.heap.size 0 _ _ hb
  have hf1 := frozen_of_row w3 w.heap.size 1 _ _ hb
  have HB := Lib.hid hb
  have H2 := Lib.hid h2
  clear h2 h3 hb
  go_wp2_with fail
  refine bodyPost_ret (results_cell_row rfl _ _ w.heap.size _ #[.int .i64 A, .int .i64 B] (0, 0) _ rfl (heap_two _ _ _ _ _ _ _ HB.out rfl rfl) Try.underlying44 (by kernel_rfl) (by kernel_rfl)) rfl ?_
  exact ⟨rfl, grown_two _ _ _ _ _ H2.out⟩

set_option maxHeartbeats 1000000 in
theorem leads_any (h : St w0 w m d n L) (A B : Int) (b : Bool) (hb : decide (kindOf A = 1 ∧ 0 ≤ B ∧ B < n) = b) :
    Calls Try.prog 88 #[.pointer (some ⟨m, 0, none⟩), .agg #[.int .i64 A, .int .i64 B]] w fun e w' => e = .returned (.bool b) ∧ w.grownBy w' none := by
  have HS := Lib.hid (h.grow (World.grownBy_alloc w (.cells #[.int .i64 A, .int .i64 B] 44) none))
  have HY := Lib.hid (show EntB (w.alloc (.cells #[.int .i64 A, .int .i64 B] 44)) w.heap.size A B from heap_alloc_new w _)
  have HG := Lib.hid (World.grownBy_alloc w (.cells #[.int .i64 A, .int .i64 B] 44) none)
  have HK0 := kind_ok A B
  clear h
  by_cases hk : kindOf A = 1
  · have e : decide (0 ≤ B ∧ B < (n : Int)) = b := by rw [← hb]; simp [hk]
    rw [hk] at HK0
    have HK := Lib.hid HK0
    have HE := Lib.hid e
    clear HK0 e hb hk
    go_enter Try.func88, Try.ntmps88
    go_wp2_with fail
    refine (HK.out _).mono ?_
    rintro e w2 ⟨rfl, h2⟩
    have HS2 := Lib.hid (HS.out.grow (grown_of_below' h2))
    have HG2 := Lib.hid (grown_trans HG.out (grown_of_below' h2))
    have HY2 := Lib.hid (HY.out.grow (grown_of_below' h2))
    have hc1 := HY2.out.at.2
    clear h2
    go_wp2_with fail
    refine (isFrame_any HS2.out B b HE.out).mono ?_
    rintro e w' ⟨rfl, rfl⟩
    go_wp2_with fail
    go_ret
    exact ⟨rfl, HG2.out⟩
  · obtain rfl : b = false := by rw [← hb]; simp [hk]
    have HK := Lib.hid HK0
    have e0 : (kindOf A == 1) = false := by simp [hk]
    clear HK0 hb hk
    generalize kindOf A = kd at *
    go_enter Try.func88, Try.ntmps88
    go_wp2_with fail
    refine (HK.out _).mono ?_
    rintro e w2 ⟨rfl, h2⟩
    have HG2 := Lib.hid (grown_trans HG.out (grown_of_below' h2))
    clear h2
    go_wp2_with fail
    go_ret
    exact ⟨rfl, HG2.out⟩

set_option maxHeartbeats 2000000 in
theorem place_any (h : St w0 w m d n L) (root v : Int) :
    Calls Try.prog 76 #[.pointer (some ⟨m, 0, none⟩), .int .i64 root, .int .i64 v] w fun e w' => e = .returned (plV v (placeOf n L root v)) ∧ w.grownBy w' none := by
  have H := Lib.hid h
  by_cases hr : 0 ≤ root ∧ root < n
  · have HI := Lib.hid (isFrame_any h root true (by simpa using hr))
    by_cases hv0 : v < 0
    · have d0 : decide (v < 0) = true := by simpa using hv0
      have hp : placeOf n L root v = none := by unfold placeOf; rw [if_neg (by omega)]
      rw [hp]
      clear h hr hv0 hp
      go_enter Try.func76, Try.ntmps76
      go_wp2_with fail
      go_step3
      go_wp2_with fail
      refine HI.out.mono ?_
      rintro e w' ⟨rfl, rfl⟩
      go_wp2_with fail
      try rw [Exit.noGoto_ret]
      go_ret3
      exact ⟨rfl, grown_refl _ _⟩
    · have d0 : decide (v < 0) = false := by simpa using hv0
      by_cases hv1 : v ≥ 134217728
      · have d1 : decide (v ≥ 134217728) = true := by simpa using hv1
        have hp : placeOf n L root v = none := by unfold placeOf; rw [if_neg (by omega)]
        rw [hp]
        clear h hr hv0 hv1 hp
        go_enter Try.func76, Try.ntmps76
        go_wp2_with fail
        go_step3
        go_wp2_with fail
        refine HI.out.mono ?_
        rintro e w' ⟨rfl, rfl⟩
        go_wp2_with fail
        try rw [Exit.noGoto_ret]
        go_ret3
        exact ⟨rfl, grown_refl _ _⟩
      · have d1 : decide (v ≥ 134217728) = false := by simpa using hv1
        have hp : placeOf n L root v = downOf n L v 2 root := by unfold placeOf; rw [if_pos (by omega)]
        rw [hp]
        have HR := Lib.hid hr
        obtain ⟨D, hD⟩ : ∃ D, downOf n L v 2 root = D := ⟨_, rfl⟩
        rw [hD]
        clear h hr hv0 hv1 hp
        have HD := Lib.hid hD
        clear hD
        go_enter Try.func76, Try.ntmps76
        go_wp2_with fail
        go_step3
        go_wp2_with fail
        refine HI.out.mono ?_
        rintro e w' ⟨rfl, rfl⟩
        go_wp2_with fail
        go_step3
        go_wp2_with fail
        go_loopw [9, 10] (fun fv lv wr => ∃ (q : Nat) (fr : Int), q ≤ 2 ∧ lv = .int .i64 q ∧ fv = .int .i64 fr ∧ Hid (0 ≤ fr ∧ fr < n) ∧ Hid (downOf n L v q fr = D) ∧ Hid (w.grownBy wr none) ∧ Hid (St w0 wr m d n L)) (fun _ lv _ => (intOf lv).toNat)
        case atStart => exact ⟨2, root, by omega, rfl, rfl, HR.out, HD.out, grown_refl _ _, H.out⟩
        case round =>
          obtain ⟨q, fr, hq, rfl, rfl, HF, HE, HG, HS⟩ := hrel
          match q, hq with
          | 0, _ =>
            have e := Lib.hid (show D = some fr from HE.out.symm)
            obtain ⟨X, hX⟩ : ∃ X, wordI n L fr (indexOf v 0) = X := ⟨_, rfl⟩
            have HRd0 := fun {wx : World} (hs : St w0 wx m d n L) => read_ok hs fr (indexOf v 0) X hX
            have HRd := Lib.hid (fun (wx : World) (hs : St w0 wx m d n L) => HRd0 hs)
            have HIx := Lib.hid (fun (wx : World) => toBelow (index_ok v 0 wx))
            clear HRd0 hX
            have HQ := Lib.hid (show plV v (some fr) = .tuple #[.int .i64 fr, .int .i64 (indexOf v 0), .bool true] from rfl)
            generalize indexOf v 0 = ix at *
            generalize flagOf X = A at *
            generalize ppnOf X = B at *
            go_wp2_with fail
            refine (HIx.out _).mono ?_
            rintro e w2 ⟨rfl, h2⟩
            have HG2 := Lib.hid (grown_trans HG.out (grown_of_below' h2))
            have HS2 := Lib.hid (HS.out.grow (grown_of_below' h2))
            clear h2
            go_wp2_with fail
            refine (HRd.out _ HS2.out).mono ?_
            rintro e w3 ⟨rfl, h3⟩
            have HG3 := Lib.hid (grown_trans HG2.out (grown_trans h3 (World.grownBy_alloc w3 (.cells #[.int .i64 A, .int .i64 B] 44) none)))
            clear h3
            go_wp2_with fail
            try rw [Exit.noGoto_ret]
            go_ret3
            rw [e.out, HQ.out]
            exact ⟨rfl, HG3.out⟩
          | k + 1, hq =>
            have hl : ((k + 1 : Nat) : Int) = (k : Int) + 1 := by omega
            obtain ⟨X, hX⟩ : ∃ X, wordI n L fr (indexOf v ((k : Int) + 1)) = X := ⟨_, rfl⟩
            have HRd := Lib.hid (fun (wx : World) (hs : St w0 wx m d n L) => read_ok hs fr (indexOf v ((k : Int) + 1)) X hX)
            have HIx := Lib.hid (fun (wx : World) => toBelow (index_ok v ((k : Int) + 1) wx))
            have hnext : nextOf n L v fr ((k + 1 : Nat) : Int) = if kindOf (flagOf X) = 1 ∧ 0 ≤ ppnOf X ∧ ppnOf X < n then some (ppnOf X) else none := by unfold nextOf; rw [hl, hX]
            have e0 : ((k : Int) + 1 == 0) = false := by simp; omega
            clear hX hl
            generalize indexOf v ((k : Int) + 1) = ix at *
            by_cases hc : kindOf (flagOf X) = 1 ∧ 0 ≤ ppnOf X ∧ ppnOf X < n
            · rw [if_pos hc] at hnext
              have HB := Lib.hid hc.2
              have HE2 := Lib.hid ((down_some hnext).symm.trans HE.out)
              have HLd := Lib.hid (fun (wx : World) (hs : St w0 wx m d n L) => leads_any hs (flagOf X) (ppnOf X) true (by simpa using hc))
              clear hc hnext
              generalize flagOf X = A at *
              generalize ppnOf X = B at *
              go_wp2_with fail
              refine (HIx.out _).mono ?_
              rintro e w2 ⟨rfl, h2⟩
              have HG2 := Lib.hid (grown_trans HG.out (grown_of_below' h2))
              have HS2 := Lib.hid (HS.out.grow (grown_of_below' h2))
              clear h2
              go_wp2_with fail
              refine (HRd.out _ HS2.out).mono ?_
              rintro e w3 ⟨rfl, h3⟩
              have HG3 := Lib.hid (grown_trans HG2.out (grown_trans h3 (World.grownBy_alloc w3 (.cells #[.int .i64 A, .int .i64 B] 44) none)))
              have HS3 := Lib.hid ((HS2.out.grow h3).grow (World.grownBy_alloc w3 (.cells #[.int .i64 A, .int .i64 B] 44) none))
              have HY3 := Lib.hid (show EntB (w3.alloc (.cells #[.int .i64 A, .int .i64 B] 44)) w3.heap.size A B from heap_alloc_new w3 _)
              clear h3
              go_wp2_with fail
              refine (HLd.out _ HS3.out).mono ?_
              rintro e w4 ⟨rfl, h4⟩
              have HG4 := Lib.hid (grown_trans HG3.out h4)
              have HS4 := Lib.hid (HS3.out.grow h4)
              have HY4 := Lib.hid (HY3.out.grow h4)
              have hc1 := HY4.out.at.2
              clear h4
              go_wp2_with fail
              go_round
              case rel => exact ⟨k, B, by omega, by go_num, rfl, HB.out, HE2.out, HG4.out, HS4.out⟩
              case measure => simp [intOf]
            · rw [if_neg hc] at hnext
              have HE2 := Lib.hid ((down_none hnext).symm.trans HE.out)
              have HLd := Lib.hid (fun (wx : World) (hs : St w0 wx m d n L) => leads_any hs (flagOf X) (ppnOf X) false (by simpa using hc))
              clear hc hnext
              generalize flagOf X = A at *
              generalize ppnOf X = B at *
              go_wp2_with fail
              refine (HIx.out _).mono ?_
              rintro e w2 ⟨rfl, h2⟩
              have HG2 := Lib.hid (grown_trans HG.out (grown_of_below' h2))
              have HS2 := Lib.hid (HS.out.grow (grown_of_below' h2))
              clear h2
              go_wp2_with fail
              refine (HRd.out _ HS2.out).mono ?_
              rintro e w3 ⟨rfl, h3⟩
              have HG3 := Lib.hid (grown_trans HG2.out (grown_trans h3 (World.grownBy_alloc w3 (.cells #[.int .i64 A, .int .i64 B] 44) none)))
              have HS3 := Lib.hid ((HS2.out.grow h3).grow (World.grownBy_alloc w3 (.cells #[.int .i64 A, .int .i64 B] 44) none))
              clear h3
              go_wp2_with fail
              refine (HLd.out _ HS3.out).mono ?_
              rintro e w4 ⟨rfl, h4⟩
              have HG4 := Lib.hid (grown_trans HG3.out h4)
              clear h4
              go_wp2_with fail
              try rw [Exit.noGoto_ret]
              go_ret3
              rw [← HE2.out]
              exact ⟨rfl, HG4.out⟩
  · have HI := Lib.hid (isFrame_any h root false (by simpa using hr))
    have hp : placeOf n L root v = none := by unfold placeOf; rw [if_neg (by omega)]
    rw [hp]
    clear h hr hp
    go_enter Try.func76, Try.ntmps76
    go_wp2_with fail
    go_step3
    go_wp2_with fail
    refine HI.out.mono ?_
    rintro e w' ⟨rfl, rfl⟩
    go_wp2_with fail
    try rw [Exit.noGoto_ret]
    go_ret3
    exact ⟨rfl, grown_refl _ _⟩

set_option maxHeartbeats 1000000 in
theorem look_any (h : St w0 w m d n L) (root v : Int) :
    Calls Try.prog 45 #[.pointer (some ⟨m, 0, none⟩), .int .i64 root, .int .i64 v] w fun e w' => e = .returned (lookV n L v (placeOf n L root v)) ∧ w.grownBy w' none := by
  have HR := Lib.hid (h.grow (World.grownBy_alloc w (.cells #[.int .i64 0, .int .i64 0] 44) none))
  have HP0 := place_any HR.out root v
  have HN := Lib.hid (heap_alloc_new w (.cells #[.int .i64 0, .int .i64 0] 44))
  have hlt : w.heap.size < (w.alloc (.cells #[.int .i64 0, .int .i64 0] 44)).heap.size := by simp
  have HL := Lib.hid hlt
  clear h hlt
  cases hD : placeOf n L root v with
  | none =>
    rw [hD] at HP0
    have HP := Lib.hid HP0
    replace HP : Hid (Calls Try.prog 76 #[.pointer (some ⟨m, 0, none⟩), .int .i64 root, .int .i64 v] (w.alloc (.cells #[.int .i64 0, .int .i64 0] 44)) fun e w' => e = .returned (.tuple #[.int .i64 0, .int .i64 0, .bool false]) ∧ (w.alloc (.cells #[.int .i64 0, .int .i64 0] 44)).grownBy w' none) := HP
    clear hD HP0
    go_enter Try.func45, Try.ntmps45
    go_wp2_with fail
    refine HP.out.mono ?_
    rintro e w2 ⟨rfl, h2⟩
    have hb := (h2.block _ HL.out (by simp)).trans HN.out
    have hc0 : w2.cell? ⟨w.heap.size, 0, none⟩ = some (.int .i64 0) := by rw [cell_of_row _ _ _ _ _ _ hb]; rfl
    have hc1 : w2.cell? ⟨w.heap.size, 1, none⟩ = some (.int .i64 0) := by rw [cell_of_row _ _ _ _ _ _ hb]; rfl
    have hf0 := frozen_of_row w2 w.heap.size 0 _ _ hb
    have hf1 := frozen_of_row w2 w.heap.size 1 _ _ hb
    have HB := Lib.hid hb
    have H2 := Lib.hid h2
    clear h2 hb
    go_wp2_with fail
    refine bodyPost_ret (results_row_tmp rfl _ _ w.heap.size _ #[.int .i64 0, .int .i64 0] (0, 0) _ rfl (heap_two _ _ _ _ _ _ _ HB.out rfl rfl) Try.underlying44 (by kernel_rfl) (by kernel_rfl)) rfl ?_
    exact ⟨rfl, grown_two _ _ _ _ _ H2.out⟩
  | some g =>
    rw [hD] at HP0
    have HP := Lib.hid HP0
    replace HP : Hid (Calls Try.prog 76 #[.pointer (some ⟨m, 0, none⟩), .int .i64 root, .int .i64 v] (w.alloc (.cells #[.int .i64 0, .int .i64 0] 44)) fun e w' => e = .returned (.tuple #[.int .i64 g, .int .i64 (indexOf v 0), .bool true]) ∧ (w.alloc (.cells #[.int .i64 0, .int .i64 0] 44)).grownBy w' none) := HP
    have hl : lookV n L v (some g) = .tuple #[.agg #[.int .i64 (flagOf (wordI n L g (indexOf v 0))), .int .i64 (ppnOf (wordI n L g (indexOf v 0)))], .bool true] := rfl
    rw [hl]
    obtain ⟨X, hX⟩ : ∃ X, wordI n L g (indexOf v 0) = X := ⟨_, rfl⟩
    have HRd := Lib.hid (fun (wx : World) (hs : St w0 wx m d n L) => read_ok hs g (indexOf v 0) X hX)
    rw [hX]
    clear hD HP0 hl hX
    generalize indexOf v 0 = ix at *
    generalize flagOf X = A at *
    generalize ppnOf X = B at *
    go_enter Try.func45, Try.ntmps45
    go_wp2_with fail
    refine HP.out.mono ?_
    rintro e w2 ⟨rfl, h2⟩
    have HS2 := Lib.hid (HR.out.grow h2)
    have H1 := Lib.hid h2
    clear h2
    go_wp2_with fail
    refine (HRd.out _ HS2.out).mono ?_
    rintro e w3 ⟨rfl, h3⟩
    have h2 := grown_trans H1.out h3
    have hb := (h2.block _ HL.out (by simp)).trans HN.out
    have hc0 : w3.cell? ⟨w.heap.size, 0, none⟩ = some (.int .i64 0) := by rw [cell_of_row _ _ _ _ _ _ hb]; rfl
    have hc1 : w3.cell? ⟨w.heap.size, 1, none⟩ = some (.int .i64 0) := by rw [cell_of_row _ _ _ _ _ _ hb]; rfl
    have hf0 := frozen_of_row w3 w.heap.size 0 _ _ hb
    have hf1 := frozen_of_row w3 w.heap.size 1 _ _ hb
    have HB := Lib.hid hb
    have H2 := Lib.hid h2
    clear h2 h3 hb
    go_wp2_with fail
    refine bodyPost_ret (results_row_tmp rfl _ _ w.heap.size _ #[.int .i64 A, .int .i64 B] (0, 0) _ rfl (heap_two _ _ _ _ _ _ _ HB.out rfl rfl) Try.underlying44 (by kernel_rfl) (by kernel_rfl)) rfl ?_
    exact ⟨rfl, grown_two _ _ _ _ _ H2.out⟩

theorem EntB.grownS {w w' : World} {x y : Nat} {A B : Int} (h : EntB w y A B) (g : w.grownBy w' (some x)) (hy : y ≠ x) : EntB w' y A B := (g.block _ h.lt (by intro e; exact hy (Option.some.inj e))).trans h


end

end Go.Proofs.Ytlieommbomjdaaa
