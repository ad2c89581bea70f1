/- AmapCopies, walked out of what package amap says. -/
import Derived.Test.YtfmihbiongnpnaaAListC
import Derived.Test.YtfmihbiongnpnaaAOk
import Derived.Test.YtfmihbiongnpnaaAUints
import Derived.OwnWalk
namespace Go.Proofs.Ytfmihbiongnpnaa
open Go.ChangeShapes Go.WideShapes Go.ChangeAt Go.RowKit Go.Deep
set_option linter.unusedVariables false

/-- One amap of n slots, each covered once; and beside it its copy. -/
def cp1 (n : Nat) (zs : List Int) : AmL := [some ⟨List.replicate n 1, zs⟩]
def cp2 (n : Nat) (zs : List Int) (k : Nat) (ys : List Int) : AmL := [some ⟨List.replicate n 1, zs⟩, some ⟨List.replicate k 1, ys⟩]
/-- Small numbers, none below 0. -/
structure SmallZ (n : Nat) (zs : List Int) : Prop where
  len : zs.length = n
  lo : ∀ x, x ∈ zs → 0 ≤ x
section
variable {n k i j : Nat} {zs ys : List Int} {x : Int}
theorem SmallZ.at (h : SmallZ n zs) (j : Nat) : 0 ≤ zs.getD j 0 := by
  by_cases hj : j < zs.length
  · exact h.lo _ (getD_mem hj)
  · rw [List.getD_eq_getElem?_getD, List.getElem?_eq_none (by omega)]; exact Int.le_refl _
theorem SmallZ.zeros : SmallZ n (List.replicate n 0) := ⟨List.length_replicate, fun x hx => by rw [(List.mem_replicate.1 hx).2]; decide⟩
theorem SmallZ.set (h : SmallZ n zs) (hx : 0 ≤ x) : SmallZ n (zs.set j x) := ⟨by rw [List.length_set, h.len], fun y hy => by
  rcases mem_set_or hy with rfl | hy
  · exact hx
  · exact h.lo y hy⟩
theorem cov_rep {s : Int} (h : 0 ≤ s ∧ s < n) : covA ⟨List.replicate n 1, zs⟩ s = 1 := by
  have h1 : atJ (List.replicate n 1) s = 1 := by
    unfold atJ
    rw [if_pos (by rw [List.length_replicate]; exact h), getD_rep (by omega)]
  unfold covA
  rw [show AmV.cs ⟨List.replicate n 1, zs⟩ = List.replicate n 1 from rfl, h1]
  rfl
theorem cp_make (hn : 1 ≤ n) (h2 : n ≤ 4096) : makeA 2 [] n = ⟨1, [], 0, cp1 n (List.replicate n 0)⟩ := by
  unfold makeA
  rw [if_neg (by omega), if_neg (by decide), Int.toNat_natCast]
  rfl
theorem cp_of : ofA (cp1 n zs) 1 = some ⟨List.replicate n 1, zs⟩ := ofA_at (L := cp1 n zs) (i := 0) rfl
theorem cp_of1 : ofA (cp2 n zs k ys) 1 = some ⟨List.replicate n 1, zs⟩ := ofA_at (L := cp2 n zs k ys) (i := 0) rfl
theorem cp_of2 : ofA (cp2 n zs k ys) 2 = some ⟨List.replicate k 1, ys⟩ := ofA_at (L := cp2 n zs k ys) (i := 1) rfl
theorem cp_set (hj : j < n) (hx : 0 ≤ x) : setA (cp1 n zs) 1 j x = ⟨anA ⟨List.replicate n 1, zs⟩ j, [], 0, cp1 n (zs.set j x)⟩ := by
  unfold setA
  rw [cp_of]
  simp only
  rw [if_neg (by rw [cov_rep ⟨by omega, by omega⟩]; omega), Int.toNat_natCast]
  rfl
theorem cp_ids : (idsA (cp1 n zs)).length = 1 := rfl
theorem cp_copy {lo hi : Int} (hz : zs.length = n) (h0 : 0 ≤ lo) (h1 : lo < hi) (h2 : hi ≤ n) (hk : hi - lo = k) : copyA 2 (cp1 n zs) 1 lo hi = ⟨2, (partA zs lo hi).filter fun x => x != 0, 0, cp2 n zs k (partA zs lo hi)⟩ := by
  unfold copyA
  rw [cp_of]
  simp only
  rw [if_pos ⟨h0, h1, by show hi ≤ (zs.length : Int); rw [hz]; exact h2⟩, if_neg (by
    rw [cp_ids]
    decide), hk, Int.toNat_natCast]
  rfl
theorem cp_full {lo hi : Int} (hz : zs.length = n) (h0 : 0 ≤ lo) (h1 : lo < hi) (h2 : hi ≤ n) : copyA 2 (cp2 n zs k ys) 1 lo hi = ⟨0, [], 5, cp2 n zs k ys⟩ := by
  unfold copyA
  rw [cp_of1]
  simp only
  rw [if_pos ⟨h0, h1, by show hi ≤ (zs.length : Int); rw [hz]; exact h2⟩, if_pos (show 2 ≤ (idsA (cp2 n zs k ys)).length from Nat.le_refl 2)]
theorem cp_slots (hy : ys.length = k) : slotsA (cp2 n zs k ys) 2 = k := by unfold slotsA; rw [cp_of2]; show (ys.length : Int) = k; rw [hy]
theorem cp_get1 (hz : zs.length = n) (hj : j < n) : getA (cp2 n zs k ys) 1 j = zs.getD j 0 := by
  unfold getA
  rw [cp_of1]
  show anA _ _ = _
  unfold anA
  rw [if_pos ⟨by omega, by show (j : Int) < (zs.length : Int); omega⟩, Int.toNat_natCast]
theorem cp_get2 (hy : ys.length = k) (hj : j < k) : getA (cp2 n zs k ys) 2 j = ys.getD j 0 := by
  unfold getA
  rw [cp_of2]
  show anA _ _ = _
  unfold anA
  rw [if_pos ⟨by omega, by show (j : Int) < (ys.length : Int); omega⟩, Int.toNat_natCast]
theorem cp_cover (hj : j < k) : coverA (cp2 n zs k ys) 2 j = 1 := by
  unfold coverA
  rw [cp_of2]
  exact cov_rep ⟨by omega, by omega⟩
theorem cp_set2 (hk : 0 < k) (hx : 0 ≤ x) : setA (cp2 n zs k ys) 2 0 x = ⟨anA ⟨List.replicate k 1, ys⟩ 0, [], 0, cp2 n zs k (ys.set 0 x)⟩ := by
  unfold setA
  rw [cp_of2]
  simp only
  rw [if_neg (by rw [cov_rep ⟨by omega, by omega⟩]; omega)]
  rfl
end

/-- Behind an append to a row of the law's own: the pool stays. -/
theorem pool_app {D : World → Nat → Nat → AmL → List Nat → Prop} (H : StOkA D) {w w4 wr w9 : World} {p m : Nat} {L : AmL} {O : List Nat} {v : Value} {o : Obj} {xs : List Int} (h : LA D w wr p m L O) (hm : ZMk w4 wr v xs) (ho : ∀ b, b ∈ O → b < w4.heap.size) (hw : w.heap.size ≤ w4.heap.size) (k : (wr.alloc o).grownBy w9 v.ownBlock) : LA D w w9 p m L O := by
  have ga := World.grownBy_alloc wr o none
  have hv : ∀ b, v.ownBlock = some b → w4.heap.size ≤ b := fun b e => (OwnOf.lt hm.own e).1
  refine ⟨H.kept h.d (Nat.le_trans ga.size k.size) fun b hb => ?_, h.own, grown_own (grown_trans h.grown ga) k fun x e => ?_⟩
  · have h1 := H.lt h.d b hb
    exact (k.block b (Nat.lt_of_lt_of_le h1 ga.size) fun e => by have := hv b e.symm; have := ho b hb; omega).trans (ga.block b h1 (by simp))
  · have h1 := hv x e
    omega
/-- A row that lies apart from the pool stays when the pool turns, and apart. -/
theorem row_keep {w w' : World} {u : Value} {xs : List Int} {O O' : List Nat} (h : RowOf zCells 1 w u xs) (t : Turn O w w') (ho : ∀ b, u.ownBlock = some b → b ∉ O) (o' : ∀ b, b ∈ O' → b ∈ O ∨ w.heap.size ≤ b) : RowOf zCells 1 w' u xs ∧ ∀ b, u.ownBlock = some b → b ∉ O' := by
  refine ⟨row_turn h t ho, fun b e hm => ?_⟩
  rcases o' b hm with h1 | h1
  · exact ho b e h1
  · rcases h.2 with ⟨h0, _⟩ | ⟨g, o, c, hv, hg, _⟩
    · rw [h0] at e; cases e
    · rw [hv] at e
      have e2 : g = b := by simpa [Value.ownBlock] using e
      omega

set_option maxRecDepth 100000 in
set_option maxHeartbeats 600000 in
theorem copies_walk13 {D : World → Nat → Nat → AmL → List Nat → Prop} (H : AmOk D) (w : World) (n0 f0 t0 : Int) (sa : Option Addr) (l c : Nat) (ds : List Int) (hU : UintsAre w sa l ds) (hn0 : okU n0) (hf0 : okU f0) (ht0 : okU t0) :
    Calls Try.prog 5 #[.int .u64 n0, .agg #[.int .u64 f0, .int .u64 t0], .slice sa l c] w fun e w' => e = .returned (.bool true) ∧ w.grownBy w' none := by
  have HLv := Lib.hid (fun wx => lives13 H wx)
  have HT := Lib.hid H
  have HU := Lib.hid hU
  obtain ⟨m, hm1, hm2⟩ : ∃ m : Nat, n0 % 20 = m ∧ m < 20 := ⟨(n0 % 20).toNat, by omega, by omega⟩
  have hq1 : n0.tmod 20 = (m : Int) := by rw [Int.tmod_eq_emod_of_nonneg hn0.1]; exact hm1
  obtain ⟨n, hn⟩ : ∃ n : Nat, 1 + m = n := ⟨_, rfl⟩
  have hn1 : (1 : Int) + (m : Int) = (n : Int) := by omega
  have hn2 : 1 ≤ n ∧ n ≤ 20 := by omega
  have ga := World.grownBy_alloc w (.cells #[.int .u64 f0, .int .u64 t0] 61 (0, 0)) none
  have hb := heap_alloc_new w (.cells #[.int .u64 f0, .int .u64 t0] 61 (0, 0))
  have c0 : (w.alloc (.cells #[.int .u64 f0, .int .u64 t0] 61 (0, 0))).cell? ⟨w.heap.size, 0, none⟩ = some (.int .u64 f0) := by rw [cell_of_row _ _ _ _ _ _ hb]; rfl
  have c1 : (w.alloc (.cells #[.int .u64 f0, .int .u64 t0] 61 (0, 0))).cell? ⟨w.heap.size, 1, none⟩ = some (.int .u64 t0) := by rw [cell_of_row _ _ _ _ _ _ hb]; rfl
  have HN := Lib.hid (fun wx => H.new 2 wx (by decide))
  have HG0 := Lib.hid ga
  clear H hU hn hb ga
  generalize hwA : w.alloc (.cells #[.int .u64 f0, .int .u64 t0] 61 (0, 0)) = wA at *
  go_enter Try.func5, Try.ntmps5
  go_wp2_with fail
  go_quiet (fail)
  have HGq := Lib.hid (grown_trans HG0.out (grown_draws wA nq))
  generalize hWq : wA.drewN nq = Wq at *
  clear c0 c1 HG0
  go_wp2_with fail
  refine (HN.out _).mono ?_
  rintro e w1 ⟨p, O, rfl, h1, g1, o1⟩
  have H1 := Lib.hid (show LA D w w1 p 2 [] O from LA.new h1 HGq.out g1 o1)
  have hk := HT.out.make H1.out.d n (okS (by omega) (by omega))
  rw [cp_make hn2.1 (by omega)] at hk
  have HK := Lib.hid hk
  clear hk h1 g1 o1 HN HGq
  go_wp2_with fail
  refine HK.out.mono ?_
  rintro e w2 ⟨rfl, h2⟩
  obtain ⟨O2, h2, -, -⟩ := H1.out.left h2
  have H2 := Lib.hid h2
  clear h2 HK H1
  by_cases hl60 : l ≤ 60
  · have d60 : decide ((l : Int) > 60) = false := decide_eq_false (by omega)
    have HZ0 := Lib.hid (SmallZ.zeros (n := n))
    go_wp2_with fail
    generalize List.replicate n (0 : Int) = zs0 at H2 HZ0
    go_loopw [55] (fun iv wr => ∃ (j : Nat) (zs : List Int) (O : List Nat), j ≤ l ∧ iv = .int .i64 j ∧ Hid (SmallZ n zs) ∧ Hid (LA D w wr p 2 (cp1 n zs) O)) (fun iv _ => l - (intOf iv).toNat)
    case atStart => exact ⟨0, zs0, O2, by omega, rfl, HZ0, H2⟩
    case round =>
      clear H2 HZ0
      obtain ⟨j, zs, O3, hj, rfl, HZ, HJ⟩ := hrel
      by_cases hlt : j < l
      · obtain ⟨d, g, o, hd, hs, cd, hdo⟩ := HU.out.get j hlt
        have cd2 := HJ.out.grown.cell (a := ⟨g, o + j, none⟩) cd (by simp)
        subst hs
        obtain ⟨k, hk1, hk2⟩ : ∃ k : Nat, d % (n : Int) = k ∧ k < n := by
          have h1 := Int.emod_nonneg d (show (n : Int) ≠ 0 by omega)
          have h2 := Int.emod_lt_of_pos d (show (0 : Int) < (n : Int) by omega)
          exact ⟨(d % (n : Int)).toNat, by omega, by omega⟩
        have hkm : d.tmod (n : Int) = (k : Int) := by rw [Int.tmod_eq_emod_of_nonneg hdo.1]; exact hk1
        have hk := HT.out.set HJ.out.d 1 k ((j : Int) + 1) (okS (by decide) (by decide)) (okS (by omega) (by omega)) (okS (by omega) (by omega))
        simp only [cp_set hk2 (show (0 : Int) ≤ (j : Int) + 1 by omega)] at hk
        have HK := Lib.hid hk
        have HZ2 := Lib.hid (HZ.out.set (j := k) (show (0 : Int) ≤ (j : Int) + 1 by omega))
        clear hk hd cd
        go_wp2_with fail
        refine HK.out.mono ?_
        rintro e w3 ⟨rfl, h3⟩
        obtain ⟨O4, h3, -, -⟩ := HJ.out.left h3
        have H3 := Lib.hid h3
        clear h3 HK HJ
        go_wp2_with fail
        go_roundw
        case rel => exact ⟨j + 1, _, O4, by omega, by go_num, HZ2, H3⟩
        case measure => simp [intOf]; omega
      · obtain rfl : j = l := by omega
        obtain ⟨a, ha1, ha2⟩ : ∃ a : Nat, f0 % (n : Int) = a ∧ a < n := by
          have h1 := Int.emod_nonneg f0 (show (n : Int) ≠ 0 by omega)
          have h2 := Int.emod_lt_of_pos f0 (show (0 : Int) < (n : Int) by omega)
          exact ⟨(f0 % (n : Int)).toNat, by omega, by omega⟩
        have ham : f0.tmod (n : Int) = (a : Int) := by rw [Int.tmod_eq_emod_of_nonneg hf0.1]; exact ha1
        obtain ⟨d, hd⟩ : ∃ d : Nat, (n : Int) - (a : Int) = d := ⟨n - a, by omega⟩
        obtain ⟨t, ht1, ht2⟩ : ∃ t : Nat, t0 % (d : Int) = t ∧ t < d := by
          have h1 := Int.emod_nonneg t0 (show (d : Int) ≠ 0 by omega)
          have h2 := Int.emod_lt_of_pos t0 (show (0 : Int) < (d : Int) by omega)
          exact ⟨(t0 % (d : Int)).toNat, by omega, by omega⟩
        have htm : t0.tmod (d : Int) = (t : Int) := by rw [Int.tmod_eq_emod_of_nonneg ht0.1]; exact ht1
        obtain ⟨h, hh⟩ : ∃ h : Nat, (a : Int) + 1 + (t : Int) = h := ⟨a + 1 + t, by omega⟩
        obtain ⟨k, hk0⟩ : ∃ k : Nat, (h : Int) - (a : Int) = k := ⟨h - a, by omega⟩
        have hzl := HZ.out.len
        have hk := HT.out.copy HJ.out.d 1 a h (okS (by decide) (by decide)) (okS (by omega) (by omega)) (okS (by omega) (by omega))
        rw [cp_copy hzl (by omega) (by omega) (by omega) hk0] at hk
        have HK := Lib.hid hk
        have HK0 := Lib.hid hk0
        have HHN := Lib.hid (show a < h ∧ h ≤ n ∧ h = a + k by omega)
        clear hk
        go_wp2_with fail
        refine HK.out.mono ?_
        rintro e w3 ht
        obtain ⟨u, O4, rfl, r3, o3, h3, ap3⟩ := HJ.out.leftS ht
        simp only at r3 h3 ⊢
        obtain ⟨su, cu, rfl⟩ := rowOf_form r3
        have hyl : (partA zs (a : Int) (h : Int)).length = k := by
          rw [part_len (by omega) (by omega) (by omega)]
          omega
        have hk := HT.out.slots h3.d 2 (okS (by decide) (by decide))
        rw [cp_slots hyl] at hk
        have HK2 := Lib.hid hk
        have H3 := Lib.hid h3
        have HR3 := Lib.hid r3
        have HAp := Lib.hid ap3
        have HYL := Lib.hid hyl
        have hnk : ((k : Int) != (k : Int)) = false := by simp
        have hfl : ((partA zs (a : Int) (h : Int)).filter fun x => x != 0).length ≤ 4096 := by
          refine Nat.le_trans (List.length_filter_le _ _) ?_
          rw [hyl]
          omega
        clear hk h3 r3 ap3 o3 hyl ht HK HJ
        go_wp2_with fail
        refine HK2.out.mono ?_
        rintro e w4 ⟨rfl, g4⟩
        have H4 := Lib.hid (H3.out.grow HT.out.toStOkA g4)
        have HR4 := Lib.hid (rowOf_grow HR3.out g4)
        have HO4 := Lib.hid (HT.out.lt H4.out.d)
        have hw4 : w.heap.size ≤ w4.heap.size := H4.out.grown.size
        clear g4 HK2 H3 HR3
        go_wp2_with fail
        go_loopw [20, 21] (fun uv iv wr => ∃ i : Nat, a ≤ i ∧ i ≤ h ∧ iv = .int .i64 i ∧ Hid (ZMk w4 wr uv ((partA zs (a : Int) (i : Int)).filter fun x => x != 0)) ∧ Hid (LA D w wr p 2 (cp2 n zs k (partA zs (a : Int) (h : Int))) O4)) (fun _ iv _ => h - (intOf iv).toNat)
        case atStart => exact ⟨a, Nat.le_refl _, by have := HHN.out; omega, rfl, by rw [part_none]; exact MkOf.nil w4, H4⟩
        case round =>
          obtain ⟨i, hi0, hi1, rfl, HM, HJ⟩ := hrel
          have hzs := HZ.out
          by_cases hlt2 : i < h
          · obtain ⟨t, ht⟩ : ∃ t : Nat, (i : Int) - (a : Int) = t := ⟨i - a, by omega⟩
            obtain ⟨q1, q2, q3⟩ := HHN.out
            obtain ⟨z, hz⟩ : ∃ z, zs.getD i 0 = z := ⟨_, rfl⟩
            have hz0 := hzs.at i
            rw [hz] at hz0
            have hat := part_at (hi := (h : Int)) (j := t) («as» := zs) (show (0 : Int) ≤ (a : Int) by omega) (by omega)
            rw [Int.toNat_natCast, show a + t = i by omega, hz] at hat
            have hk1 := HT.out.get HJ.out.d 2 t (okS (by decide) (by decide)) (okS (by omega) (by omega))
            rw [cp_get2 HYL.out (by omega), hat] at hk1
            have HK1 := Lib.hid hk1
            have HG1 := Lib.hid (fun W (g : LA D w W p 2 (cp2 n zs k (partA zs (a : Int) (h : Int))) O4) => by have := HT.out.get g.d 1 i (okS (by decide) (by decide)) (okS (by omega) (by omega)); rw [cp_get1 hzs.len (by omega), hz] at this; exact this)
            have HG2 := Lib.hid (fun W (g : LA D w W p 2 (cp2 n zs k (partA zs (a : Int) (h : Int))) O4) => by have := HT.out.cover g.d 2 t (okS (by decide) (by decide)) (okS (by omega) (by omega)); rw [cp_cover (show t < k by omega)] at this; exact this)
            have hst := part_step («as» := zs) (lo := (a : Int)) (j := i) (by omega) (by omega) (by rw [hzs.len]; omega)
            rw [hz] at hst
            have hne : (z != z) = false := by simp
            obtain ⟨Z, hZ⟩ : ∃ Z, (partA zs (a : Int) (i : Int)).filter (fun x => x != 0) = Z := ⟨_, rfl⟩
            have hZl : Z.length ≤ 4096 := by
              rw [← hZ]
              refine Nat.le_trans (List.length_filter_le _ _) ?_
              rw [part_len (by omega) (by omega) (by rw [hzs.len]; omega)]
              omega
            have HST := Lib.hid (show (partA zs (a : Int) ((i + 1 : Nat) : Int)).filter (fun x => x != 0) = Z ++ if z ≠ 0 then [z] else [] by
              rw [show ((i + 1 : Nat) : Int) = (i : Int) + 1 by omega, hst, List.filter_append, hZ]
              congr 1
              by_cases e : z = 0
              · rw [if_neg (by omega), List.filter_cons_of_neg (by rw [e]; decide)]; rfl
              · rw [if_pos e, List.filter_cons_of_pos (by simpa using e)]; rfl)
            rw [hZ] at HM
            obtain ⟨sa1, sc1, hu1⟩ := OwnOf.form HM.out.own
            subst hu1
            clear hk1 hz hat hst hZ hzs q1 q2 q3 H4
            go_wp2_with fail
            refine HK1.out.mono ?_
            rintro e w5 ⟨rfl, g5⟩
            have H5 := Lib.hid (HJ.out.grow HT.out.toStOkA g5)
            have HM5 := Lib.hid (MkOf.grow HM.out g5)
            have HK5 := Lib.hid (HG1.out _ H5.out)
            clear g5 HK1 HJ HM
            go_wp2_with fail
            refine HK5.out.mono ?_
            rintro e w6 ⟨rfl, g6⟩
            have H6 := Lib.hid (H5.out.grow HT.out.toStOkA g6)
            have HM6 := Lib.hid (MkOf.grow HM5.out g6)
            have HK6 := Lib.hid (HG2.out _ H6.out)
            clear g6 HK5 H5 HM5
            go_wp2_with fail
            refine HK6.out.mono ?_
            rintro e w7 ⟨rfl, g7⟩
            have H7 := Lib.hid (H6.out.grow HT.out.toStOkA g7)
            have HM7 := Lib.hid (MkOf.grow HM6.out g7)
            have HK7 := Lib.hid (HG1.out _ H7.out)
            clear g7 HK6 H6 HM6
            go_wp2_with fail
            refine HK7.out.mono ?_
            rintro e w8 ⟨rfl, g8⟩
            have H8 := Lib.hid (H7.out.grow HT.out.toStOkA g8)
            have HM8 := Lib.hid (MkOf.grow HM7.out g8)
            have HK8 := Lib.hid (HG1.out _ H8.out)
            clear g8 HK7 H7 HM7
            by_cases h0 : z = 0
            · have d0 : decide (z > 0) = false := decide_eq_false (by omega)
              have HQ := HST
              rw [if_neg (by omega), List.append_nil] at HQ
              clear h0 HST
              go_wp2_with fail
              go_roundw
              case rel => exact ⟨i + 1, by omega, by omega, by go_num, by rw [HQ.out]; exact HM8, H8⟩
              case measure => simp [intOf]; omega
            · have d0 : decide (z > 0) = true := decide_eq_true (by omega)
              have HQ := HST
              rw [if_pos h0] at HQ
              clear h0 HST
              go_wp2_with fail
              refine HK8.out.mono ?_
              rintro e w9 ⟨rfl, g9⟩
              have H9 := Lib.hid (H8.out.grow HT.out.toStOkA g9)
              have HM9 := Lib.hid (MkOf.grow HM8.out g9)
              clear g9 HK8 H8 HM8
              have hgw := HM9.out.grown.size
              go_wp2_with (at_builtin; refine wpList_zpush w9 rfl _ _ rfl w4.heap.size (.slice sa1 Z.length sc1) Z z rfl HM9.out.own w9.heap.size 1 rfl rfl (by omega) HM9.out.grown.size ?_; intro g9 c9 w10 hown9 hgrow9; have HN := Lib.hid (MkOf.app HM9.out hgrow9 hown9); have HP := Lib.hid (pool_app HT.out.toStOkA H9.out HM9.out HO4.out hw4 hgrow9); clear hown9 hgrow9)
              go_roundw
              case rel => exact ⟨i + 1, by omega, by omega, by go_num, by rw [HQ.out]; exact HN, HP⟩
              case measure => simp [intOf]; omega
          · obtain rfl : i = h := by omega
            obtain ⟨q1, q2, q3⟩ := HHN.out
            obtain ⟨y, hy⟩ : ∃ y, zs.getD a 0 = y := ⟨_, rfl⟩
            have hk := HT.out.get HJ.out.d 1 a (okS (by decide) (by decide)) (okS (by omega) (by omega))
            rw [cp_get1 hzs.len (by omega), hy] at hk
            have HK1 := Lib.hid hk
            have HGy := Lib.hid (fun (ys : List Int) => (show getA (cp2 n zs k ys) 1 a = y by rw [cp_get1 hzs.len (by omega), hy]))
            have HFu := Lib.hid (fun (ys : List Int) => cp_full (n := n) (zs := zs) (k := k) (ys := ys) (lo := (a : Int)) (hi := (i : Int)) hzs.len (by omega) (by omega) (by omega))
            have hkp : 0 < k := by omega
            have hyy : (y == y) = true := by simp
            obtain ⟨Z, hZ⟩ : ∃ Z, (partA zs (a : Int) (i : Int)).filter (fun x => x != 0) = Z := ⟨_, rfl⟩
            rw [hZ] at HM HR4 hfl HAp ⊢
            obtain ⟨sv, cv, hvw⟩ := rowOf_form (MkOf.row HM.out)
            subst hvw
            have HRu := Lib.hid (rowOf_grow HR4.out HM.out.grown)
            have HRw := Lib.hid (MkOf.row HM.out)
            have HAw := Lib.hid (show ∀ b, (Value.slice sv Z.length cv).ownBlock = some b → b ∉ O4 from fun b e hm => by
              have h1 := (OwnOf.lt HM.out.own e).1
              have h2 := HO4.out b hm
              omega)
            clear hk hy hzs H4 HR4 HM q1 q2 q3 hZ
            go_wp2_with fail
            refine HK1.out.mono ?_
            rintro e w5 ⟨rfl, g5⟩
            have H5 := Lib.hid (HJ.out.grow HT.out.toStOkA g5)
            have HRu5 := Lib.hid (rowOf_grow HRu.out g5)
            have HRw5 := Lib.hid (rowOf_grow HRw.out g5)
            have hk := HT.out.set H5.out.d 2 0 777 (okS (by decide) (by decide)) (okS (by decide) (by decide)) (okS (by decide) (by decide))
            simp only [cp_set2 hkp (show (0 : Int) ≤ 777 by decide)] at hk
            have HK2 := Lib.hid hk
            clear hk g5 HK1 HJ HRu HRw
            go_wp2_with fail
            refine HK2.out.mono ?_
            rintro e w6 ⟨rfl, h6⟩
            obtain ⟨O6, h6, t6, o6⟩ := H5.out.left h6
            have H6 := Lib.hid h6
            obtain ⟨ru6, au6⟩ := row_keep HRu5.out t6 HAp.out o6
            obtain ⟨rw6, aw6⟩ := row_keep HRw5.out t6 HAw.out o6
            have HRu6 := Lib.hid ru6
            have HRw6 := Lib.hid rw6
            have HAu6 := Lib.hid au6
            have HAw6 := Lib.hid aw6
            generalize (partA zs (a : Int) (i : Int)).set 0 777 = ys6 at H6
            have hk := HT.out.copy h6.d 1 a i (okS (by decide) (by decide)) (okS (by omega) (by omega)) (okS (by omega) (by omega))
            rw [HFu.out] at hk
            have HK3 := Lib.hid hk
            clear hk h6 t6 o6 ru6 au6 rw6 aw6 HK2 H5 HRu5 HRw5
            go_wp2_with fail
            refine HK3.out.mono ?_
            rintro e w7 ht
            obtain ⟨u7, O7, rfl, r7, -, ⟨h7, t7, o7⟩, -⟩ := ht
            obtain ⟨O7, h7, -, -⟩ := H6.out.left ⟨O7, h7, t7, o7⟩
            obtain ⟨ru7, -⟩ := row_keep HRu6.out t7 HAu6.out o7
            obtain ⟨rw7, -⟩ := row_keep HRw6.out t7 HAw6.out o7
            obtain ⟨s7, c7, rfl⟩ := rowOf_form r7
            have HI := Lib.hid (ints_ok cu cv ru7 rw7 (by omega) true (by simp))
            have H7 := Lib.hid h7
            clear h7 t7 o7 ru7 rw7 r7 HK3 H6 HRu6 HRw6
            go_wp2_with fail
            refine HI.out.mono ?_
            rintro e w8 ⟨rfl, g8⟩
            have H8 := Lib.hid (H7.out.grow HT.out.toStOkA g8)
            have hk := HT.out.get H8.out.d 1 a (okS (by decide) (by decide)) (okS (by omega) (by omega))
            simp only [HGy.out] at hk
            have HK8 := Lib.hid hk
            clear hk g8 HI H7
            go_wp2_with fail
            refine HK8.out.mono ?_
            rintro e w9 ⟨rfl, g9⟩
            have HG9 := Lib.hid (grown_trans H8.out.grown g9)
            clear g9 HK8 H8
            go_wp2_with fail
            refine (HLv.out _).mono ?_
            rintro e w10 ⟨rfl, g10⟩
            have HG := Lib.hid (grown_trans HG9.out g10)
            clear g10
            go_wp2_with fail
            go_ret
            exact ⟨rfl, HG.out⟩
  · have d60 : decide ((l : Int) > 60) = true := decide_eq_true (by omega)
    go_wp2_with fail
    refine (HLv.out _).mono ?_
    rintro e w3 ⟨rfl, g3⟩
    have HG := Lib.hid (grown_trans H2.out.grown g3)
    clear g3
    go_wp2_with fail
    go_ret
    exact ⟨rfl, HG.out⟩
end Go.Proofs.Ytfmihbiongnpnaa
