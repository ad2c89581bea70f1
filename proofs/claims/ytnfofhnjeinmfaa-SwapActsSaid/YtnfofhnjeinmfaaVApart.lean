/- SwapApart, walked out of what package swap says. -/
import Derived.Test.YtnfofhnjeinmfaaVPlans
namespace Go.Proofs.Ytnfofhnjeinmfaa
open Go.ChangeShapes Go.WideShapes Go.ChangeAt Go.RowKit Go.Deep
set_option linter.unusedVariables false

def st8 (L : List (List UInt8)) (pr cr cw : Int) : VS := ⟨L, pr, 0, cr, cw⟩
theorem st8_ok {L : List (List UInt8)} (hl : L.length = 8) (hp : ∀ p, p ∈ L → p.length = 4096) {pr cr cw : Int} (h1 : 0 ≤ pr) (h2 : pr ≤ 9) (h3 : 0 ≤ cr) (h4 : cr ≤ 9) (h5 : 0 ≤ cw) (h6 : cw ≤ 9) : (st8 L pr cr cw).Ok 1000 :=
  ⟨by show L.length ≤ 256; omega, hp, h1, by show pr < _; omega, by show (0 : Int) ≤ 0; omega, by show (0 : Int) < _; omega, h3, by show cr ≤ _; omega, h5, by show cw ≤ _; omega⟩
theorem st8_write {L : List (List UInt8)} (hl : L.length = 8) {cw : Int} (i : Nat) (hi : i < 8) {bs : List UInt8} (hb : bs.length = 4096) : writeV (st8 L 0 0 cw) i bs = (0, st8 (L.set i bs) 0 0 (cw + 1)) := by
  unfold writeV
  rw [if_pos ⟨⟨by omega, by show (i : Int) < (L.length : Int); omega⟩, hb⟩, if_neg (by show ¬ (0 : Int) = 1; decide), Int.toNat_natCast]
  rfl
theorem new_8 : newV 8 = st8 (List.replicate 8 pageZ) 0 0 0 := rfl
theorem st8_plan {L : List (List UInt8)} {cw : Int} : planV (st8 L 0 0 cw) false 1 = (0, st8 L 1 0 cw) := rfl
theorem st8_peek {L : List (List UInt8)} (hl : L.length = 8) {pr cr cw : Int} (i : Nat) (hi : i < 8) : peekV (st8 L pr cr cw) i = L.getD i [] := by
  unfold peekV
  rw [if_pos ⟨by omega, by show (i : Int) < (L.length : Int); omega⟩, Int.toNat_natCast]
  rfl
theorem st8_read {L : List (List UInt8)} (hl : L.length = 8) {cw : Int} : readV (st8 L 1 0 cw) 0 = (6, [], st8 L 0 1 cw) := by
  unfold readV
  rw [if_pos ⟨by omega, by show (0 : Int) < (L.length : Int); omega⟩, if_pos (show (st8 L 1 0 cw).pr = 1 from rfl)]
  rfl
theorem two_get {i k n : Nat} {pa pb : List UInt8} (hi : i < 8) (hk : k < 8) (hn : n < 8) : (((List.replicate 8 pageZ).set i pa).set k pb).getD n [] = if n = k then pb else if n = i then pa else pageZ := by
  unfold List.getD
  rw [List.getElem?_set, List.getElem?_set]
  simp only [List.length_set, List.length_replicate]
  by_cases e : k = n
  · subst e; simp [hk]
  · have e2 : ¬ n = k := fun h => e h.symm
    rw [if_neg e, if_neg e2]
    by_cases f : i = n
    · subst f; simp [hi]
    · have f2 : ¬ n = i := fun h => f h.symm
      rw [if_neg f, if_neg f2, List.getElem?_replicate, if_pos hn]
      rfl

set_option maxRecDepth 100000 in
set_option maxHeartbeats 8000000 in
theorem apart_walk9 {D : World → Nat → VS → List Nat → Prop} (H : SwOk D) (w : World) (sa : Option Addr) (la ca : Nat) (A : List UInt8) (hA : Src w sa la A) (sb : Option Addr) (lb cb : Nat) (B : List UInt8) (hB : Src w sb lb B) (x y : Int) (hx : okU x) (hy : okU y) :
    Calls Try.prog 7 #[.slice sa la ca, .slice sb lb cb, .agg #[.int .u64 x, .int .u64 y]] w fun e w' => e = .returned (.bool true) ∧ w.grownBy w' none := by
  have HLv := Lib.hid (fun wx => lives9 H wx)
  have HT := Lib.hid H
  have ga := World.grownBy_alloc w (.cells #[.int .u64 x, .int .u64 y] 63 (0, 0)) none
  have hz := heap_alloc_new w (.cells #[.int .u64 x, .int .u64 y] 63 (0, 0))
  generalize hwA : w.alloc (.cells #[.int .u64 x, .int .u64 y] 63 (0, 0)) = wA at *
  have HZ := Lib.hid hz
  have HGa := Lib.hid ga
  have HA := Lib.hid hA
  have HB := Lib.hid hB
  by_cases hl : la > 4096 ∨ lb > 4096
  · clear H ga hz hA hB
    rcases (show la > 4096 ∨ (¬ la > 4096 ∧ lb > 4096) by omega) with h1 | ⟨h1, h2⟩
    · have d0 : decide ((la : Int) > 4096) = true := by simp; omega
      go_enter Try.func7, Try.ntmps7
      go_wp2_with fail
      refine (HLv.out _).mono ?_
      rintro e w7 ⟨rfl, g7⟩
      have HG := Lib.hid (grown_trans HGa.out g7)
      clear g7
      go_wp2_with fail
      go_ret
      exact ⟨rfl, HG.out⟩
    · have d0 : decide ((la : Int) > 4096) = false := by simp; omega
      have d1 : decide ((lb : Int) > 4096) = true := by simp; omega
      go_enter Try.func7, Try.ntmps7
      go_wp2_with fail
      refine (HLv.out _).mono ?_
      rintro e w7 ⟨rfl, g7⟩
      have HG := Lib.hid (grown_trans HGa.out g7)
      clear g7
      go_wp2_with fail
      go_ret
      exact ⟨rfl, HG.out⟩
  · have hla : la ≤ 4096 := by omega
    have hlb : lb ≤ 4096 := by omega
    have d0 : decide ((la : Int) > 4096) = false := by simp; omega
    have d1 : decide ((lb : Int) > 4096) = false := by simp; omega
    obtain ⟨i, hi⟩ : ∃ i : Nat, x % 8 = i := Int.eq_ofNat_of_zero_le (by omega)
    obtain ⟨k, hk⟩ : ∃ k : Nat, y % 8 = k := Int.eq_ofNat_of_zero_le (by omega)
    have hi8 : i < 8 := by omega
    have hk8 : k < 8 := by omega
    have x0 := hx.1
    have x1 := hx.2
    have y0 := hy.1
    have y1 := hy.2
    have HN := Lib.hid (H.new wA 8 (by decide))
    clear H ga hz hA hB hl hx hy
    go_enter Try.func7, Try.ntmps7
    go_wp2_with fail
    refine HN.out.mono ?_
    rintro e w1 ⟨p, O, rfl, h1, g1, o1⟩
    have H1 := Lib.hid (show LV D w w1 p (newV 8) O 1000 from ⟨h1, fun b hb => Nat.le_trans HGa.out.size (o1 b hb), grown_trans HGa.out g1, (newV_ok 8 (by decide)).up (by decide)⟩)
    have hz1 := (g1.block w.heap.size (Array.getElem?_eq_some_iff.1 HZ.out).1 (by simp)).trans HZ.out
    have z0 : w1.cell? ⟨w.heap.size, 0, none⟩ = some (.int .u64 x) := by rw [cell_of_row _ _ _ _ _ _ hz1]; rfl
    have z1 : w1.cell? ⟨w.heap.size, 1, none⟩ = some (.int .u64 y) := by rw [cell_of_row _ _ _ _ _ _ hz1]; rfl
    clear h1 g1 o1 HN hz1
    go_wp2_with fail
    go_quiet (fail)
    clear z0 z1
    have H1d := Lib.hid (H1.out.grow HT.out (grown_draws w1 nq))
    generalize w1.drewN nq = wd at *
    clear H1
    have HPa := Lib.hid (page_ok ca ((HA.out.kept H1d.out.grown (by simp))) (by omega))
    go_wp2_with fail
    refine HPa.out.mono ?_
    rintro e w3 ⟨ga, rfl, hg, hbs, g3⟩
    have H3 := Lib.hid (H1d.out.grow HT.out g3)
    have hsrc := hbs.src
    rw [fillOf_len] at hsrc
    have hk := HT.out.write H3.out.d H3.out.ok (by decide) (i : Int) (some ⟨ga, 0, none⟩) 4096 4096 (fillOf A) (okS (by omega) (by omega)) hsrc (by decide) (fun _ ad e hm => by cases e; have := HT.out.lt H1d.out.d ga hm; omega)
    rw [new_8, st8_write (List.length_replicate) i hi8 (fillOf_len A)] at hk
    have HK := Lib.hid hk
    clear hk hsrc hbs hg g3 HPa H1d
    go_wp2_with fail
    refine HK.out.mono ?_
    rintro e w4 ⟨rfl, h4⟩
    obtain ⟨O4, h4, -, -⟩ := H3.out.left h4 (k' := 1000) (st8_ok (by simp) (fun p hp => (List.mem_or_eq_of_mem_set hp).elim (fun h => by rw [(List.mem_replicate.1 h).2]; exact pageZ_length) fun h => h ▸ fillOf_len A) (by decide) (by decide) (by decide) (by decide) (by decide) (by decide))
    have H4 := Lib.hid h4
    have HPb := Lib.hid (page_ok cb ((HB.out.kept h4.grown (by simp))) (by omega))
    clear h4 HK H3
    go_wp2_with fail
    refine HPb.out.mono ?_
    rintro e w5 ⟨gb, rfl, hg, hbs, g5⟩
    have H5 := Lib.hid (H4.out.grow HT.out g5)
    have hsrc := hbs.src
    rw [fillOf_len] at hsrc
    have hk := HT.out.write H5.out.d H5.out.ok (by decide) (k : Int) (some ⟨gb, 0, none⟩) 4096 4096 (fillOf B) (okS (by omega) (by omega)) hsrc (by decide) (fun _ ad e hm => by cases e; have := HT.out.lt H4.out.d gb hm; omega)
    rw [st8_write (by simp) k hk8 (fillOf_len B)] at hk
    have HK := Lib.hid hk
    clear hk hsrc hbs hg g5 HPb H4
    have HLn := Lib.hid (show (((List.replicate 8 pageZ).set i (fillOf A)).set k (fillOf B)).length = 8 by simp)
    have HGt := Lib.hid (fun n hn => two_get (pa := fillOf A) (pb := fillOf B) (n := n) hi8 hk8 hn)
    have HPg := Lib.hid (show ∀ p, p ∈ ((List.replicate 8 pageZ).set i (fillOf A)).set k (fillOf B) → p.length = 4096 from fun p hp => (List.mem_or_eq_of_mem_set hp).elim (fun h => (List.mem_or_eq_of_mem_set h).elim (fun h => by rw [(List.mem_replicate.1 h).2]; exact pageZ_length) fun h => h ▸ fillOf_len A) fun h => h ▸ fillOf_len B)
    generalize ((List.replicate 8 pageZ).set i (fillOf A)).set k (fillOf B) = L8 at *
    go_wp2_with fail
    refine HK.out.mono ?_
    rintro e w6 ⟨rfl, h6⟩
    obtain ⟨O6, h6, -, -⟩ := H5.out.left h6 (k' := 1000) (st8_ok HLn.out HPg.out (by decide) (by decide) (by decide) (by decide) (by decide) (by decide))
    have H6 := Lib.hid h6
    have hk := HT.out.plan h6.d h6.ok false 1 (okS (by decide) (by decide))
    rw [st8_plan] at hk
    have HK6 := Lib.hid hk
    clear hk h6 HK H5
    go_wp2_with fail
    refine HK6.out.mono ?_
    rintro e w7 ⟨rfl, h7⟩
    obtain ⟨O7, h7, -, -⟩ := H6.out.left h7 (k' := 1000) (st8_ok HLn.out HPg.out (by decide) (by decide) (by decide) (by decide) (by decide) (by decide))
    have H7 := Lib.hid h7
    clear h7 HK6 H6
    go_wp2_with fail
    go_loopw [10, 11] (fun iv _ wr => ∃ n : Nat, n ≤ 8 ∧ iv = .int .i64 n ∧ Hid (LV D w wr p (st8 L8 1 0 (0 + 1 + 1)) O7 1000)) (fun iv _ _ => 8 - (intOf iv).toNat)
    case atStart => exact ⟨0, by omega, rfl, H7.out⟩
    case round =>
      clear H7
      obtain ⟨n, hn, rfl, HJ⟩ := hrel
      by_cases hlt : n < 8
      · have e0 : decide ((n : Int) < 8) = true := by simp; omega
        have HPz := Lib.hid (page_ok 0 (nil_src wr) (by decide))
        go_wp2_with fail
        refine HPz.out.mono ?_
        rintro e w8 ⟨gz, rfl, hg, hbz, g8⟩
        have HJ8 := Lib.hid (HJ.out.grow HT.out g8)
        rw [fill_nil] at hbz
        have HBz := Lib.hid hbz
        clear hg hbz g8 HPz
        by_cases en : n = i
        · have fi : ((n : Int) == (i : Int)) = true := beq_iff_eq.2 (by omega)
          have HEn := Lib.hid en
          clear en
          have HP2 := Lib.hid (page_ok ca ((HA.out.kept HJ8.out.grown (by simp))) (by omega))
          go_wp2_with fail
          refine HP2.out.mono ?_
          rintro e w8b ⟨g2, rfl, hg, hb2, g8b⟩
          have HJ9 := Lib.hid (HJ8.out.grow HT.out g8b)
          have HB2 := Lib.hid hb2
          clear hg hb2 g8b HP2
          by_cases ek : n = k
          · have fk : ((n : Int) == (k : Int)) = true := beq_iff_eq.2 (by omega)
            have HEk := Lib.hid ek
            clear ek
            have HP3 := Lib.hid (page_ok cb ((HB.out.kept HJ9.out.grown (by simp))) (by omega))
            go_wp2_with fail
            refine HP3.out.mono ?_
            rintro e w8c ⟨g3, rfl, hg, hb3, g8c⟩
            replace HJ9 := Lib.hid (HJ9.out.grow HT.out g8c)
            have HB3 := Lib.hid hb3
            clear hg hb3 g8c HP3
            have HPk := Lib.hid (HT.out.peek HJ9.out.d HJ9.out.ok (n : Int) (okS (by omega) (by omega)))
            rw [st8_peek HLn.out n hlt, HGt.out n hlt, if_pos HEk.out] at HPk
            go_wp2_with fail
            refine HPk.out.mono ?_
            rintro e w9 ⟨u, rfl, hu, g9⟩
            obtain ⟨su, cu, rfl, hsu⟩ := hu.src
            have H9 := Lib.hid (HJ9.out.grow HT.out g9)
            have hsw := (HB3.out.grow g9).src
            have hEq := bytesEq hsu hsw cu 4096 true (by simp)
            rw [fillOf_len] at hEq
            rw [fillOf_len]
            have HEq := Lib.hid hEq
            clear hu g9 hsu hsw hEq HPk
            go_wp2_with fail
            refine HEq.out.mono ?_
            rintro e w10 ⟨rfl, e10⟩
            subst w10
            go_wp2_with fail
            go_roundw
            case rel => exact ⟨n + 1, by omega, by go_num, H9.out⟩
            case measure => simp [intOf]; omega

          · have fk : ((n : Int) == (k : Int)) = false := beq_eq_false_iff_ne.2 (by omega)
            have HEk := Lib.hid ek
            clear ek
            have HPk := Lib.hid (HT.out.peek HJ9.out.d HJ9.out.ok (n : Int) (okS (by omega) (by omega)))
            rw [st8_peek HLn.out n hlt, HGt.out n hlt, if_neg HEk.out, if_pos HEn.out] at HPk
            go_wp2_with fail
            refine HPk.out.mono ?_
            rintro e w9 ⟨u, rfl, hu, g9⟩
            obtain ⟨su, cu, rfl, hsu⟩ := hu.src
            have H9 := Lib.hid (HJ9.out.grow HT.out g9)
            have hsw := (HB2.out.grow g9).src
            have hEq := bytesEq hsu hsw cu 4096 true (by simp)
            rw [fillOf_len] at hEq
            rw [fillOf_len]
            have HEq := Lib.hid hEq
            clear hu g9 hsu hsw hEq HPk
            go_wp2_with fail
            refine HEq.out.mono ?_
            rintro e w10 ⟨rfl, e10⟩
            subst w10
            go_wp2_with fail
            go_roundw
            case rel => exact ⟨n + 1, by omega, by go_num, H9.out⟩
            case measure => simp [intOf]; omega

        · have fi : ((n : Int) == (i : Int)) = false := beq_eq_false_iff_ne.2 (by omega)
          have HEn := Lib.hid en
          clear en
          by_cases ek : n = k
          · have fk : ((n : Int) == (k : Int)) = true := beq_iff_eq.2 (by omega)
            have HEk := Lib.hid ek
            clear ek
            have HP3 := Lib.hid (page_ok cb ((HB.out.kept HJ8.out.grown (by simp))) (by omega))
            go_wp2_with fail
            refine HP3.out.mono ?_
            rintro e w8c ⟨g3, rfl, hg, hb3, g8c⟩
            have HJ9 := Lib.hid (HJ8.out.grow HT.out g8c)
            have HB3 := Lib.hid hb3
            clear hg hb3 g8c HP3
            have HPk := Lib.hid (HT.out.peek HJ9.out.d HJ9.out.ok (n : Int) (okS (by omega) (by omega)))
            rw [st8_peek HLn.out n hlt, HGt.out n hlt, if_pos HEk.out] at HPk
            go_wp2_with fail
            refine HPk.out.mono ?_
            rintro e w9 ⟨u, rfl, hu, g9⟩
            obtain ⟨su, cu, rfl, hsu⟩ := hu.src
            have H9 := Lib.hid (HJ9.out.grow HT.out g9)
            have hsw := (HB3.out.grow g9).src
            have hEq := bytesEq hsu hsw cu 4096 true (by simp)
            rw [fillOf_len] at hEq
            rw [fillOf_len]
            have HEq := Lib.hid hEq
            clear hu g9 hsu hsw hEq HPk
            go_wp2_with fail
            refine HEq.out.mono ?_
            rintro e w10 ⟨rfl, e10⟩
            subst w10
            go_wp2_with fail
            go_roundw
            case rel => exact ⟨n + 1, by omega, by go_num, H9.out⟩
            case measure => simp [intOf]; omega

          · have fk : ((n : Int) == (k : Int)) = false := beq_eq_false_iff_ne.2 (by omega)
            have HEk := Lib.hid ek
            clear ek
            have HJ9 := HJ8
            have HPk := Lib.hid (HT.out.peek HJ9.out.d HJ9.out.ok (n : Int) (okS (by omega) (by omega)))
            rw [st8_peek HLn.out n hlt, HGt.out n hlt, if_neg HEk.out, if_neg HEn.out] at HPk
            go_wp2_with fail
            refine HPk.out.mono ?_
            rintro e w9 ⟨u, rfl, hu, g9⟩
            obtain ⟨su, cu, rfl, hsu⟩ := hu.src
            have H9 := Lib.hid (HJ9.out.grow HT.out g9)
            have hsw := (HBz.out.grow g9).src
            have hEq := bytesEq hsu hsw cu 4096 true (by simp)
            rw [pageZ_length] at hEq
            rw [pageZ_length]
            have HEq := Lib.hid hEq
            clear hu g9 hsu hsw hEq HPk
            go_wp2_with fail
            refine HEq.out.mono ?_
            rintro e w10 ⟨rfl, e10⟩
            subst w10
            go_wp2_with fail
            go_roundw
            case rel => exact ⟨n + 1, by omega, by go_num, H9.out⟩
            case measure => simp [intOf]; omega

      · obtain rfl : n = 8 := by omega
        have hk := HT.out.read HJ.out.d HJ.out.ok (by decide) 0 (okS (by decide) (by decide))
        rw [st8_read HLn.out] at hk
        have HK := Lib.hid hk
        clear hk hlt
        go_wp2_with fail
        refine HK.out.mono ?_
        rintro e w9 ⟨u, O9, rfl, h9, t9, o9, -⟩
        obtain ⟨O9', h9', -, -⟩ := HJ.out.left (k' := 1000) ⟨O9, h9, t9, o9⟩ (st8_ok HLn.out HPg.out (by decide) (by decide) (by decide) (by decide) (by decide) (by decide))
        have H9 := Lib.hid h9'
        have HC := Lib.hid (show Calls Try.prog 20 #[.pointer (some ⟨p, 0, none⟩)] w9 fun e w' => e = .returned (.tuple #[.int .i64 2, .int .i64 1]) ∧ w9.grownBy w' none from HT.out.count h9'.d)
        clear h9 t9 o9 h9' HK
        go_wp2_with fail
        refine HC.out.mono ?_
        rintro e w10 ⟨rfl, g10⟩
        have HG10 := Lib.hid (grown_trans H9.out.grown g10)
        clear g10 HC
        go_wp2_with fail
        refine (HLv.out _).mono ?_
        rintro e w11 ⟨rfl, g11⟩
        have HG := Lib.hid (grown_trans HG10.out g11)
        clear g11
        go_wp2_with fail
        go_ret
        exact ⟨rfl, HG.out⟩
end Go.Proofs.Ytnfofhnjeinmfaa
