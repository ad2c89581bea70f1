/- The document's layer 4: Walk. -/
import Derived.Test.YtomkhdefjfjlnaaWRef2
namespace Go.Proofs.Ytomkhdefjfjlnaa
open Go.ChangeShapes Go.WideShapes Go.RowKit
set_option linter.unusedVariables false

theorem EntB.kept {w w' : World} {R : List Nat} {y : Nat} {A B : Int} (h : EntB w y A B) (k : Kept R w w') (hy : y ∉ R) : EntB w' y A B := (k _ h.lt hy).trans h

theorem walkV_no {n : Nat} {L : List UInt8} {r va a k : Int} {u : Bool} (h : wayOf n L r va a u = k) (hk : k ≠ 0) : walkV n L r va a u = .tuple #[.int .i64 k, .int .i64 0, .int .i64 0] := by
  unfold walkV; rw [h, if_neg hk]
theorem walkL_no {n : Nat} {L : List UInt8} {r va a k : Int} {u : Bool} (h : wayOf n L r va a u = k) (hk : k ≠ 0) : walkL n L r va a u = L := by
  unfold walkL; rw [h, if_neg hk]

section
variable {w0 w w' : World} {r f n : Nat} {R : List Nat} {L : List UInt8}

set_option maxHeartbeats 2000000 in
theorem ref_walk (h : RS w0 w r f n R L) (root va a : Int) (u : Bool) (hva : okI va) :
    Calls Try.prog 11 #[.pointer (some ⟨r, 0, none⟩), .int .i64 root, .int .i64 va, .int .i64 a, .bool u] w fun e w' =>
      e = .returned (walkV n L root va a u) ∧ RS w0 w' r f n R (walkL n L root va a u) ∧ Kept R w w' := by
  have HS0 := Lib.hid h
  have HC := Lib.hid (ref_canonical_ok va hva)
  by_cases hc : canonOf va = true
  · by_cases hr : 0 ≤ root ∧ root < n
    · have HI := Lib.hid (is_any h root true (by simpa using hr))
      have HSp := Lib.hid (ref_split_ok va)
      have HP0 := ref_place h root (vpnOf va)
      rw [hc] at HC
      cases hD : placeOf n L root (vpnOf va) with
      | none =>
        have hw : wayOf n L root va a u = 1 := by unfold wayOf; rw [if_neg (by simp [hc, hr]), if_pos hD]
        rw [walkV_no hw (by decide), walkL_no hw (by decide)]
        rw [hD] at HP0
        have HP := Lib.hid HP0
        replace HP : Hid (Calls Try.prog 14 #[.pointer (some ⟨r, 0, none⟩), .int .i64 root, .int .i64 (vpnOf va)] w fun e w' => e = .returned (.tuple #[.int .i64 0, .int .i64 0, .bool false]) ∧ w.grownBy w' none) := HP
        clear h hc hr hva hw hD HP0
        generalize vpnOf va = vp at *
        generalize byteOf va = bt at *
        go_enter Try.func11, Try.ntmps11
        go_wp2_with fail
        refine (HC.out _).mono ?_
        rintro e w' ⟨rfl, rfl⟩
        go_wp2_with fail
        refine HI.out.mono ?_
        rintro e w' ⟨rfl, rfl⟩
        go_wp2_with fail
        refine (HSp.out _).mono ?_
        rintro e w' ⟨rfl, rfl⟩
        go_wp2_with fail
        refine HP.out.mono ?_
        rintro e w2 ⟨rfl, h2⟩
        have HR2 := Lib.hid (HS0.out.grow h2)
        have HK2 := Lib.hid (Kept.none (R := R) h2)
        clear h2
        go_wp2_with fail
        go_ret3
        exact ⟨rfl, HR2.out, HK2.out⟩
      | some g =>
        have htab : tabOf n L root va = g := by unfold tabOf; rw [hD]; rfl
        have hg := place_lt hD
        have hent : entOf n L root va = wordI n L g (indexOf (vpnOf va) 0) := by unfold entOf; rw [htab]
        have hix := index_lt0 (vpnOf va)
        have hx := wordI_ok n L g (indexOf (vpnOf va) 0)
        rw [hD] at HP0
        have HP := Lib.hid HP0
        replace HP : Hid (Calls Try.prog 14 #[.pointer (some ⟨r, 0, none⟩), .int .i64 root, .int .i64 (vpnOf va)] w fun e w' => e = .returned (.tuple #[.int .i64 g, .int .i64 (indexOf (vpnOf va) 0), .bool true]) ∧ w.grownBy w' none) := HP
        obtain ⟨X, hX⟩ : ∃ X, wordI n L g (indexOf (vpnOf va) 0) = X := ⟨_, rfl⟩
        rw [hX] at hx hent
        have hw0 : wayOf n L root va a u = if ¬ (kindOf (flagOf X) = 2 ∧ 0 ≤ ppnOf X ∧ ppnOf X < n) then 1 else if mayOf (flagOf X) a u = false then 3 else 0 := by
          unfold wayOf; rw [if_neg (by simp [hc, hr]), if_neg (by rw [hD]; simp), hent]
        have hX1 := Lib.hid hX
        have HDc := Lib.hid (ref_decode_ok X hx)
        have HK0 := ref_kind_ok (flagOf X) (ppnOf X)
        have HM0 := ref_may_ok (flagOf X) (ppnOf X) a u
        have HOx := Lib.hid hx
        have HGr := Lib.hid hg
        have HIx := Lib.hid hix
        have HE1 := Lib.hid hent
        have HT1 := Lib.hid htab
        clear hX h hc hr hva hD HP0 hix hg htab hent hx
        by_cases hk : kindOf (flagOf X) = 2
        · rw [hk] at HK0
          by_cases hb : 0 ≤ ppnOf X ∧ ppnOf X < n
          · rw [if_neg (fun q => q ⟨hk, hb⟩)] at hw0
            have HB := Lib.hid hb
            have HK := Lib.hid HK0
            clear hk hb HK0
            by_cases hm : mayOf (flagOf X) a u = false
            · rw [if_pos hm] at hw0
              rw [walkV_no hw0 (by decide), walkL_no hw0 (by decide)]
              rw [hm] at HM0
              have HM := Lib.hid HM0
              clear hm hw0 HM0
              generalize flagOf X = A at *
              generalize ppnOf X = B at *
              generalize indexOf (vpnOf va) 0 = ix at *
              generalize vpnOf va = vp at *
              generalize byteOf va = bt at *
              go_enter Try.func11, Try.ntmps11
              go_wp2_with fail
              refine (HC.out _).mono ?_
              rintro e w' ⟨rfl, rfl⟩
              go_wp2_with fail
              refine HI.out.mono ?_
              rintro e w' ⟨rfl, rfl⟩
              go_wp2_with fail
              refine (HSp.out _).mono ?_
              rintro e w' ⟨rfl, rfl⟩
              go_wp2_with fail
              refine HP.out.mono ?_
              rintro e w2 ⟨rfl, h2⟩
              have HR2 := Lib.hid (HS0.out.grow h2)
              have HG2 := Lib.hid h2
              clear h2
              go_wp2_with fail
              refine (rword_at HR2.out _ _).mono ?_
              rintro e w' ⟨rfl, rfl⟩
              rw [hX1.out]
              go_wp2_with fail
              refine (HDc.out _).mono ?_
              rintro e w3 ⟨rfl, h3⟩
              have HG3 := Lib.hid (grown_trans HG2.out (grown_trans (grown_of_below' h3) (World.grownBy_alloc w3 (.cells #[.int .i64 A, .int .i64 B] 40) none)))
              have HR3 := Lib.hid ((HR2.out.grow (grown_of_below' h3)).grow (World.grownBy_alloc w3 (.cells #[.int .i64 A, .int .i64 B] 40) none))
              have HY3 := Lib.hid (show EntB (w3.alloc (.cells #[.int .i64 A, .int .i64 B] 40)) w3.heap.size A B from heap_alloc_new w3 _)
              have HYR := Lib.hid (show w3.heap.size ∉ R from fun hm => by have := (HR2.out.grow (grown_of_below' h3)).mem.Rlt _ hm; omega)
              clear h3
              go_wp2_with fail
              refine (HK.out _).mono ?_
              rintro e w4 ⟨rfl, h4⟩
              have HG4 := Lib.hid (grown_trans HG3.out (grown_of_below' h4))
              have HR4 := Lib.hid (HR3.out.grow (grown_of_below' h4))
              have HY4 := Lib.hid (HY3.out.grow (grown_of_below' h4))
              have hc0 := HY4.out.at.1
              have hc1 := HY4.out.at.2
              clear h4
              go_wp2_with fail
              refine (is_any HR4.out B true (by simpa using HB.out)).mono ?_
              rintro e w' ⟨rfl, rfl⟩
              go_wp2_with fail
              refine (HM.out _).mono ?_
              rintro e w5 ⟨rfl, h5⟩
              have HG5 := Lib.hid (grown_trans HG4.out (grown_of_below' h5))
              have HR5 := Lib.hid (HR4.out.grow (grown_of_below' h5))
              have HY5 := Lib.hid (HY4.out.grow (grown_of_below' h5))
              clear h5 hc0 hc1
              go_wp2_with fail
              go_ret3
              exact ⟨rfl, HR5.out, Kept.none HG5.out⟩
            · have hm1 : mayOf (flagOf X) a u = true := by cases hq : mayOf (flagOf X) a u with | true => rfl | false => exact absurd hq hm
              rw [if_neg hm] at hw0
              rw [hm1] at HM0
              have HM := Lib.hid HM0
              have hv : walkV n L root va a u = .tuple #[.int .i64 0, .int .i64 (ppnOf X), .int .i64 (byteOf va)] := by unfold walkV; rw [if_pos hw0, HE1.out]
              have hl : walkL n L root va a u = setL n L g (indexOf (vpnOf va) 0) (markOf X a) := by unfold walkL; rw [if_pos hw0, HE1.out, HT1.out]
              rw [hv, hl]
              clear hm hm1 hw0 HM0 hv hl HE1 HT1
              have HMk := Lib.hid (okU_mark X a HOx.out)
              by_cases ha : a = 2
              · subst ha
                have hmk : markOf X 2 = bits .or .u64 (bits .or .u64 X 64) 128 := rfl
                rw [hmk] at HMk ⊢
                clear hmk
                generalize flagOf X = A at *
                generalize ppnOf X = B at *
                generalize indexOf (vpnOf va) 0 = ix at *
                generalize vpnOf va = vp at *
                generalize byteOf va = bt at *
                go_enter Try.func11, Try.ntmps11
                go_wp2_with fail
                refine (HC.out _).mono ?_
                rintro e w' ⟨rfl, rfl⟩
                go_wp2_with fail
                refine HI.out.mono ?_
                rintro e w' ⟨rfl, rfl⟩
                go_wp2_with fail
                refine (HSp.out _).mono ?_
                rintro e w' ⟨rfl, rfl⟩
                go_wp2_with fail
                refine HP.out.mono ?_
                rintro e w2 ⟨rfl, h2⟩
                have HR2 := Lib.hid (HS0.out.grow h2)
                have HG2 := Lib.hid h2
                clear h2
                go_wp2_with fail
                refine (rword_at HR2.out _ _).mono ?_
                rintro e w' ⟨rfl, rfl⟩
                rw [hX1.out]
                go_wp2_with fail
                refine (HDc.out _).mono ?_
                rintro e w3 ⟨rfl, h3⟩
                have HG3 := Lib.hid (grown_trans HG2.out (grown_trans (grown_of_below' h3) (World.grownBy_alloc w3 (.cells #[.int .i64 A, .int .i64 B] 40) none)))
                have HR3 := Lib.hid ((HR2.out.grow (grown_of_below' h3)).grow (World.grownBy_alloc w3 (.cells #[.int .i64 A, .int .i64 B] 40) none))
                have HY3 := Lib.hid (show EntB (w3.alloc (.cells #[.int .i64 A, .int .i64 B] 40)) w3.heap.size A B from heap_alloc_new w3 _)
                have HYR := Lib.hid (show w3.heap.size ∉ R from fun hm => by have := (HR2.out.grow (grown_of_below' h3)).mem.Rlt _ hm; omega)
                clear h3
                go_wp2_with fail
                refine (HK.out _).mono ?_
                rintro e w4 ⟨rfl, h4⟩
                have HG4 := Lib.hid (grown_trans HG3.out (grown_of_below' h4))
                have HR4 := Lib.hid (HR3.out.grow (grown_of_below' h4))
                have HY4 := Lib.hid (HY3.out.grow (grown_of_below' h4))
                have hc0 := HY4.out.at.1
                have hc1 := HY4.out.at.2
                clear h4
                go_wp2_with fail
                refine (is_any HR4.out B true (by simpa using HB.out)).mono ?_
                rintro e w' ⟨rfl, rfl⟩
                go_wp2_with fail
                refine (HM.out _).mono ?_
                rintro e w5 ⟨rfl, h5⟩
                have HG5 := Lib.hid (grown_trans HG4.out (grown_of_below' h5))
                have HR5 := Lib.hid (HR4.out.grow (grown_of_below' h5))
                have HY5 := Lib.hid (HY4.out.grow (grown_of_below' h5))
                clear h5 hc0 hc1
                go_wp2_with fail
                refine (rsetWordE HR5.out _ _ _ HGr.out HIx.out HMk.out).mono ?_
                rintro e w6 ⟨rfl, h6, k6⟩
                have HR6 := Lib.hid h6
                have HK6 := Lib.hid (Kept.trans (Kept.none HG5.out) k6 HG5.out.size)
                have HY6 := Lib.hid (HY5.out.kept k6 HYR.out)
                have hc0 := HY6.out.at.1
                have hc1 := HY6.out.at.2
                clear h6 k6
                go_wp2_with fail
                go_quiet (fail)
                go_wp2_with fail
                go_ret3
                exact ⟨rfl, HR6.out.alike rfl rfl rfl rfl, HK6.out.alike rfl⟩
              · have ea : (a == 2) = false := by simp [ha]
                have hmk : markOf X a = bits .or .u64 X 64 := by unfold markOf; rw [if_neg ha]
                clear ha
                rw [hmk] at HMk ⊢
                clear hmk
                generalize flagOf X = A at *
                generalize ppnOf X = B at *
                generalize indexOf (vpnOf va) 0 = ix at *
                generalize vpnOf va = vp at *
                generalize byteOf va = bt at *
                go_enter Try.func11, Try.ntmps11
                go_wp2_with fail
                refine (HC.out _).mono ?_
                rintro e w' ⟨rfl, rfl⟩
                go_wp2_with fail
                refine HI.out.mono ?_
                rintro e w' ⟨rfl, rfl⟩
                go_wp2_with fail
                refine (HSp.out _).mono ?_
                rintro e w' ⟨rfl, rfl⟩
                go_wp2_with fail
                refine HP.out.mono ?_
                rintro e w2 ⟨rfl, h2⟩
                have HR2 := Lib.hid (HS0.out.grow h2)
                have HG2 := Lib.hid h2
                clear h2
                go_wp2_with fail
                refine (rword_at HR2.out _ _).mono ?_
                rintro e w' ⟨rfl, rfl⟩
                rw [hX1.out]
                go_wp2_with fail
                refine (HDc.out _).mono ?_
                rintro e w3 ⟨rfl, h3⟩
                have HG3 := Lib.hid (grown_trans HG2.out (grown_trans (grown_of_below' h3) (World.grownBy_alloc w3 (.cells #[.int .i64 A, .int .i64 B] 40) none)))
                have HR3 := Lib.hid ((HR2.out.grow (grown_of_below' h3)).grow (World.grownBy_alloc w3 (.cells #[.int .i64 A, .int .i64 B] 40) none))
                have HY3 := Lib.hid (show EntB (w3.alloc (.cells #[.int .i64 A, .int .i64 B] 40)) w3.heap.size A B from heap_alloc_new w3 _)
                have HYR := Lib.hid (show w3.heap.size ∉ R from fun hm => by have := (HR2.out.grow (grown_of_below' h3)).mem.Rlt _ hm; omega)
                clear h3
                go_wp2_with fail
                refine (HK.out _).mono ?_
                rintro e w4 ⟨rfl, h4⟩
                have HG4 := Lib.hid (grown_trans HG3.out (grown_of_below' h4))
                have HR4 := Lib.hid (HR3.out.grow (grown_of_below' h4))
                have HY4 := Lib.hid (HY3.out.grow (grown_of_below' h4))
                have hc0 := HY4.out.at.1
                have hc1 := HY4.out.at.2
                clear h4
                go_wp2_with fail
                refine (is_any HR4.out B true (by simpa using HB.out)).mono ?_
                rintro e w' ⟨rfl, rfl⟩
                go_wp2_with fail
                refine (HM.out _).mono ?_
                rintro e w5 ⟨rfl, h5⟩
                have HG5 := Lib.hid (grown_trans HG4.out (grown_of_below' h5))
                have HR5 := Lib.hid (HR4.out.grow (grown_of_below' h5))
                have HY5 := Lib.hid (HY4.out.grow (grown_of_below' h5))
                clear h5 hc0 hc1
                go_wp2_with fail
                refine (rsetWordE HR5.out _ _ _ HGr.out HIx.out HMk.out).mono ?_
                rintro e w6 ⟨rfl, h6, k6⟩
                have HR6 := Lib.hid h6
                have HK6 := Lib.hid (Kept.trans (Kept.none HG5.out) k6 HG5.out.size)
                have HY6 := Lib.hid (HY5.out.kept k6 HYR.out)
                have hc0 := HY6.out.at.1
                have hc1 := HY6.out.at.2
                clear h6 k6
                go_wp2_with fail
                go_quiet (fail)
                go_wp2_with fail
                go_ret3
                exact ⟨rfl, HR6.out.alike rfl rfl rfl rfl, HK6.out.alike rfl⟩
          · rw [if_pos (fun q => hb q.2)] at hw0
            rw [walkV_no hw0 (by decide), walkL_no hw0 (by decide)]
            have HB := Lib.hid hb
            have HK := Lib.hid HK0
            clear hk hb hw0 HK0 HM0
            generalize flagOf X = A at *
            generalize ppnOf X = B at *
            generalize indexOf (vpnOf va) 0 = ix at *
            generalize vpnOf va = vp at *
            generalize byteOf va = bt at *
            go_enter Try.func11, Try.ntmps11
            go_wp2_with fail
            refine (HC.out _).mono ?_
            rintro e w' ⟨rfl, rfl⟩
            go_wp2_with fail
            refine HI.out.mono ?_
            rintro e w' ⟨rfl, rfl⟩
            go_wp2_with fail
            refine (HSp.out _).mono ?_
            rintro e w' ⟨rfl, rfl⟩
            go_wp2_with fail
            refine HP.out.mono ?_
            rintro e w2 ⟨rfl, h2⟩
            have HR2 := Lib.hid (HS0.out.grow h2)
            have HG2 := Lib.hid h2
            clear h2
            go_wp2_with fail
            refine (rword_at HR2.out _ _).mono ?_
            rintro e w' ⟨rfl, rfl⟩
            rw [hX1.out]
            go_wp2_with fail
            refine (HDc.out _).mono ?_
            rintro e w3 ⟨rfl, h3⟩
            have HG3 := Lib.hid (grown_trans HG2.out (grown_trans (grown_of_below' h3) (World.grownBy_alloc w3 (.cells #[.int .i64 A, .int .i64 B] 40) none)))
            have HR3 := Lib.hid ((HR2.out.grow (grown_of_below' h3)).grow (World.grownBy_alloc w3 (.cells #[.int .i64 A, .int .i64 B] 40) none))
            have HY3 := Lib.hid (show EntB (w3.alloc (.cells #[.int .i64 A, .int .i64 B] 40)) w3.heap.size A B from heap_alloc_new w3 _)
            have HYR := Lib.hid (show w3.heap.size ∉ R from fun hm => by have := (HR2.out.grow (grown_of_below' h3)).mem.Rlt _ hm; omega)
            clear h3
            go_wp2_with fail
            refine (HK.out _).mono ?_
            rintro e w4 ⟨rfl, h4⟩
            have HG4 := Lib.hid (grown_trans HG3.out (grown_of_below' h4))
            have HR4 := Lib.hid (HR3.out.grow (grown_of_below' h4))
            have HY4 := Lib.hid (HY3.out.grow (grown_of_below' h4))
            have hc0 := HY4.out.at.1
            have hc1 := HY4.out.at.2
            clear h4
            go_wp2_with fail
            refine (is_any HR4.out B false (by simpa using HB.out)).mono ?_
            rintro e w' ⟨rfl, rfl⟩
            go_wp2_with fail
            go_ret3
            exact ⟨rfl, HR4.out, Kept.none HG4.out⟩
        · rw [if_pos (fun q => hk q.1)] at hw0
          rw [walkV_no hw0 (by decide), walkL_no hw0 (by decide)]
          have HK := Lib.hid HK0
          have e0 : (kindOf (flagOf X) != 2) = true := by simp [hk]
          clear hk hw0 HK0 HM0
          generalize kindOf (flagOf X) = kd at *
          generalize flagOf X = A at *
          generalize ppnOf X = B at *
          generalize indexOf (vpnOf va) 0 = ix at *
          generalize vpnOf va = vp at *
          generalize byteOf va = bt at *
          go_enter Try.func11, Try.ntmps11
          go_wp2_with fail
          refine (HC.out _).mono ?_
          rintro e w' ⟨rfl, rfl⟩
          go_wp2_with fail
          refine HI.out.mono ?_
          rintro e w' ⟨rfl, rfl⟩
          go_wp2_with fail
          refine (HSp.out _).mono ?_
          rintro e w' ⟨rfl, rfl⟩
          go_wp2_with fail
          refine HP.out.mono ?_
          rintro e w2 ⟨rfl, h2⟩
          have HR2 := Lib.hid (HS0.out.grow h2)
          have HG2 := Lib.hid h2
          clear h2
          go_wp2_with fail
          refine (rword_at HR2.out _ _).mono ?_
          rintro e w' ⟨rfl, rfl⟩
          rw [hX1.out]
          go_wp2_with fail
          refine (HDc.out _).mono ?_
          rintro e w3 ⟨rfl, h3⟩
          have HG3 := Lib.hid (grown_trans HG2.out (grown_trans (grown_of_below' h3) (World.grownBy_alloc w3 (.cells #[.int .i64 A, .int .i64 B] 40) none)))
          have HR3 := Lib.hid ((HR2.out.grow (grown_of_below' h3)).grow (World.grownBy_alloc w3 (.cells #[.int .i64 A, .int .i64 B] 40) none))
          have HY3 := Lib.hid (show EntB (w3.alloc (.cells #[.int .i64 A, .int .i64 B] 40)) w3.heap.size A B from heap_alloc_new w3 _)
          have HYR := Lib.hid (show w3.heap.size ∉ R from fun hm => by have := (HR2.out.grow (grown_of_below' h3)).mem.Rlt _ hm; omega)
          clear h3
          go_wp2_with fail
          refine (HK.out _).mono ?_
          rintro e w4 ⟨rfl, h4⟩
          have HG4 := Lib.hid (grown_trans HG3.out (grown_of_below' h4))
          have HR4 := Lib.hid (HR3.out.grow (grown_of_below' h4))
          have HY4 := Lib.hid (HY3.out.grow (grown_of_below' h4))
          have hc0 := HY4.out.at.1
          have hc1 := HY4.out.at.2
          clear h4
          go_wp2_with fail
          go_ret3
          exact ⟨rfl, HR4.out, Kept.none HG4.out⟩
    · have HI := Lib.hid (is_any h root false (by simpa using hr))
      have hw : wayOf n L root va a u = 2 := by unfold wayOf; rw [if_pos (.inr hr)]
      rw [walkV_no hw (by decide), walkL_no hw (by decide)]
      rw [hc] at HC
      clear h hc hr hva hw
      go_enter Try.func11, Try.ntmps11
      go_wp2_with fail
      refine (HC.out _).mono ?_
      rintro e w' ⟨rfl, rfl⟩
      go_wp2_with fail
      refine HI.out.mono ?_
      rintro e w' ⟨rfl, rfl⟩
      go_wp2_with fail
      go_ret3
      exact ⟨rfl, HS0.out, Kept.refl⟩
  · have hc1 : canonOf va = false := by cases hq : canonOf va with | false => rfl | true => exact absurd hq hc
    have hw : wayOf n L root va a u = 2 := by unfold wayOf; rw [if_pos (.inl hc1)]
    rw [walkV_no hw (by decide), walkL_no hw (by decide)]
    rw [hc1] at HC
    clear h hc hc1 hva hw
    go_enter Try.func11, Try.ntmps11
    go_wp2_with fail
    refine (HC.out _).mono ?_
    rintro e w' ⟨rfl, rfl⟩
    go_wp2_with fail
    go_ret3
    exact ⟨rfl, HS0.out, Kept.refl⟩
end
end Go.Proofs.Ytomkhdefjfjlnaa
