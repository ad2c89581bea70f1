/- Package spread (landed): cut. -/
import Derived.Test.YtfmihbiongnpnaaJDe
import Derived.Deep.CutRange
import Derived.Deep.DeepCutAuto
namespace Go.Proofs.Ytfmihbiongnpnaa
open Go.ChangeShapes Go.WideShapes Go.ChangeAt Go.RowKit Go.Deep
set_option linter.unusedVariables false
set_option linter.unusedSimpArgs false

theorem grown_dr {a b : World} (h : a.grownBy b none) : a.grownBy b.drew none := grown_trans h (grown_drew1 b)
theorem grown_al {a b : World} {o : Obj} (h : a.grownBy b none) : a.grownBy (b.alloc o) none := grown_trans h (World.grownBy_alloc b o none)
section
variable {w : World} {y b o : Nat} {l h n : Int} {r : JR} {v : Value}
theorem RunB.set1 (k : RunB w y ⟨l, h, n⟩) (x : Int) : RunB (w.setCell ⟨y, 1, none⟩ (.int .i64 x)) y ⟨l, x, n⟩ := heap_setCell_same w y 1 _ _ _ k
theorem RunB.set0 (k : RunB w y ⟨l, h, n⟩) (x : Int) : RunB (w.setCell ⟨y, 0, none⟩ (.int .i64 x)) y ⟨x, h, n⟩ := heap_setCell_same w y 0 _ _ _ k
theorem RunB.setO (k : RunB w y r) (hb : y ≠ b) : RunB (w.setCell ⟨b, o, none⟩ v) y r := (heap_setCell_other w ⟨b, o, none⟩ y v (by first | exact hb | exact hb.symm)).trans k
end
theorem two_boxes (w : World) (r : JR) : RunB ((w.alloc (.cells #[.int .i64 r.lo, .int .i64 r.hi, .int .i64 r.n] 95 (0, 0))).alloc (.cells #[.int .i64 r.lo, .int .i64 r.hi, .int .i64 r.n] 95 (0, 0))).drew w.heap.size r ∧
    RunB ((w.alloc (.cells #[.int .i64 r.lo, .int .i64 r.hi, .int .i64 r.n] 95 (0, 0))).alloc (.cells #[.int .i64 r.lo, .int .i64 r.hi, .int .i64 r.n] 95 (0, 0))).drew (w.heap.size + 1) r ∧
    w.grownBy ((w.alloc (.cells #[.int .i64 r.lo, .int .i64 r.hi, .int .i64 r.n] 95 (0, 0))).alloc (.cells #[.int .i64 r.lo, .int .i64 r.hi, .int .i64 r.n] 95 (0, 0))).drew none := by
  have h1 := RunB.new w r
  have g2 := World.grownBy_alloc (w.alloc (.cells #[.int .i64 r.lo, .int .i64 r.hi, .int .i64 r.n] 95 (0, 0))) (.cells #[.int .i64 r.lo, .int .i64 r.hi, .int .i64 r.n] 95 (0, 0)) none
  have h2 := RunB.new (w.alloc (.cells #[.int .i64 r.lo, .int .i64 r.hi, .int .i64 r.n] 95 (0, 0))) r
  rw [World.size_alloc] at h2
  exact ⟨RunB.grow h1 (grown_dr g2), h2, grown_dr (grown_al (World.grownBy_alloc w _ none))⟩
/-- What cut answers: those below the item, those from it on. -/
def CutA (w : World) (L : List Int) (a b item : Int) (e : Ending) (w' : World) : Prop :=
  ∃ u1 u2 A B, e = .returned (.tuple #[u1, u2]) ∧ RunsC w' u1 A ∧ RunsC w' u2 B ∧ Loose L a A item ∧ Loose L item B b ∧ w.grownBy w' none
section
variable {w : World} {u : Value} {L : List Int} {R : List JR} {a b item : Int}
set_option maxHeartbeats 1000000 in
theorem cut_nil (h : Loose L a [] b) (ha : a ≤ item) (hb : item ≤ b) : Calls Try.prog 57 #[.slice none 0 0, .int .i64 item] w (CutA w L a b item) := by
  have e2 : a = b := h
  have e1 : a = item := by omega
  subst e1
  subst e2
  have HF := Lib.hid (find_at (w := w) (RunsC.nil w) h (by simp) (item := a) (k := 0) ⟨Nat.le_refl _, fun i r hi _ => by omega, fun i r _ hr => by cases hr⟩)
  have HL := Lib.hid h
  clear h ha hb
  go_enter Try.func57, Try.ntmps57
  go_wp2_with fail
  refine HF.out.mono ?_
  rintro e w2 ⟨rfl, g2⟩
  have HG := Lib.hid g2
  clear g2
  go_wp2_with fail
  go_quiet (fail)
  go_wp2_with fail
  go_ret2
  exact ⟨_, _, [], [], rfl, RunsC.nil _, RunsC.nil _, HL.out, HL.out, grown_trans HG.out (grown_draws _ _)⟩
set_option maxHeartbeats 2000000 in
theorem cut_end {g o c : Nat} (h : RunsC w (.slice (some ⟨g, o, none⟩) R.length c) R) (hs : Loose L a R b) (hl : R.length ≤ 4096) (ha : a ≤ item) (hb : item ≤ b) (hf : Found R item R.length) :
    Calls Try.prog 57 #[.slice (some ⟨g, o, none⟩) R.length c, .int .i64 item] w (CutA w L a b item) := by
  obtain rfl := hs.found_end ha hb hf
  have HF := Lib.hid (find_at h hs hl hf)
  have HL := Lib.hid hs
  have HU := Lib.hid h
  have hc := h.2 _ _ _ rfl
  obtain ⟨n, hn⟩ : ∃ n, R.length = n := ⟨_, rfl⟩
  have HT := Lib.hid (show RunsC w (.slice (some ⟨g, o, none⟩) n n) R by have := h.take (Nat.le_refl _); rwa [List.take_length, hn] at this)
  have hg : g < w.heap.size := h.lt rfl
  have HN := Lib.hid (fun W (gW : w.grownBy W none) o c => RunsC.blank (w := W) (o := o) (c := c) (Nat.lt_of_lt_of_le hg gW.size))
  have hbk : ((n : Int) == (n : Int)) = true := by simp
  rw [hn] at HF HU hc hl ⊢
  clear h hs ha hb hf hn hg
  rcases (show c = n ∨ (n < c ∧ ¬ c = n) by omega) with rfl | ⟨hcn, hcn2⟩
  all_goals
    go_enter Try.func57, Try.ntmps57
    go_wp2_with fail
    refine HF.out.mono ?_
    rintro e w2 ⟨rfl, g2⟩
    have HG := Lib.hid g2
    clear g2
    go_wp2_with fail
    go_quiet (fail)
    go_wp2_with fail
    go_ret2
    exact ⟨_, _, R, [], rfl, HT.out.grow (grown_trans HG.out (grown_draws _ _)), HN.out _ (grown_trans HG.out (grown_draws _ _)) _ _, HL.out, rfl, grown_trans HG.out (grown_draws _ _)⟩
set_option maxHeartbeats 2000000 in
theorem cut_side {g o c k : Nat} {r : JR} (h : RunsC w (.slice (some ⟨g, o, none⟩) R.length c) R) (hs : Loose L a R b) (hl : R.length ≤ 4096) (hf : Found R item k) (hr : R[k]? = some r) (he : r.lo = item) :
    Calls Try.prog 57 #[.slice (some ⟨g, o, none⟩) R.length c, .int .i64 item] w (CutA w L a b item) := by
  have HF := Lib.hid (find_at h hs hl hf)
  have hk := (List.getElem?_eq_some_iff.1 hr).1
  obtain ⟨h1, h2⟩ := hs.cut_at hr he
  have HL := Lib.hid h1
  have HL2 := Lib.hid h2
  have hc := h.2 _ _ _ rfl
  have HT := Lib.hid (h.take (Nat.le_of_lt hk))
  have HD := Lib.hid (h.drop (Nat.le_of_lt hk))
  have HU := Lib.hid h
  obtain ⟨g', o', c', hv', k0, k1, k2⟩ := h.at hr
  cases hv'
  subst he
  obtain ⟨n, hn⟩ : ∃ n, R.length = n := ⟨_, rfl⟩
  have HK := Lib.hid (fun W (gW : w.grownBy W none) => gW.cell k0 (by simp))
  rw [hn] at HF HD HU hc hl hk ⊢
  have hbk : ((k : Int) == (n : Int)) = false := by simp; omega
  have hbl : (r.lo == r.lo) = true := by simp
  have hck : ¬ c = k := by omega
  have hk0 : (0 : Int) ≤ (k : Int) := by omega
  have hk2 : (k : Int) < (n : Int) := by omega
  clear h hs hf hn h1 h2 hr k0 k1 k2
  go_enter Try.func57, Try.ntmps57
  go_wp2_with fail
  refine HF.out.mono ?_
  rintro e w2 ⟨rfl, g2⟩
  have HG := Lib.hid g2
  have k0 := HK.out _ g2
  clear g2
  go_wp2_with fail
  go_quiet (fail)
  go_wp2_with fail
  go_ret2
  exact ⟨_, _, _, _, rfl, HT.out.grow (grown_trans HG.out (grown_draws _ _)), HD.out.grow (grown_trans HG.out (grown_draws _ _)), HL.out, HL2.out, grown_trans HG.out (grown_draws _ _)⟩
set_option maxRecDepth 100000 in
set_option maxHeartbeats 8000000 in
theorem cut_mid {g o c k : Nat} {r : JR} (h : RunsC w (.slice (some ⟨g, o, none⟩) R.length c) R) (hs : Loose L a R b) (hl : R.length ≤ 4096) (hf : Found R item k) (hr : R[k]? = some r) (h0 : r.lo < item) (h1 : item < r.hi) :
    Calls Try.prog 57 #[.slice (some ⟨g, o, none⟩) R.length c, .int .i64 item] w (CutA w L a b item) := by
  have HF := Lib.hid (find_at h hs hl hf)
  have hk := (List.getElem?_eq_some_iff.1 hr).1
  obtain ⟨m1, m2⟩ := hs.cut_in hr h0 h1
  have hc := h.2 _ _ _ rfl
  have HU := Lib.hid h
  obtain ⟨g', o', c', hv', k0, k1, k2⟩ := h.at hr
  cases hv'
  have hbl : (r.lo == item) = false := by simp; omega
  obtain ⟨rl, rh, rn⟩ := r
  simp only at *
  have HLA := Lib.hid m1
  have HLB := Lib.hid m2
  obtain ⟨n, hn⟩ : ∃ n, R.length = n := ⟨_, rfl⟩
  have HUL := Lib.hid (h.take (Nat.le_of_lt hk))
  have HKL := Lib.hid (show (R.take k).length = k by rw [List.length_take]; omega)
  have HK := Lib.hid (fun W (gW : w.grownBy W none) => And.intro (gW.cell k0 (by simp)) (And.intro (gW.cell k1 (by simp)) (gW.cell k2 (by simp))))
  have HKH := Lib.hid (show (R.drop (k + 1)).length = n - (k + 1) by rw [List.length_drop, hn])
  have HUH := Lib.hid (h.drop (k := k + 1) (by omega))
  rw [hn] at HF HU HUH hc hl hk ⊢
  have hbk : ((k : Int) == (n : Int)) = false := by simp; omega
  have hk0 : (0 : Int) ≤ (k : Int) := by omega
  have hk2 : (k : Int) < (n : Int) := by omega
  clear h hs hf hn h0 h1 hr k0 k1 k2 m1 m2
  obtain ⟨m, hm⟩ : ∃ m, k + 1 = m := ⟨_, rfl⟩
  have hwr : IntKind.i64.wrap ((k : Int) + 1) = (m : Int) := by rw [IntKind.wrap_i64]; omega
  rw [hm] at HUH HKH HLB
  rcases (show (c = m ∧ n = m) ∨ (¬ c = m ∧ m ≤ n ∧ m ≤ c) by omega) with ⟨e1, e2⟩ | ⟨hck, hmn, hmc⟩
  · subst c
    subst n
    have hnil : R.drop m = [] := List.length_eq_zero_iff.1 (by rw [HKH.out]; omega)
    have HUH := Lib.hid (show RunsC w (.slice (some ⟨g, o, none⟩) 0 0) (R.drop m) by rw [hnil]; exact RunsC.blank (HU.out.lt rfl))
    have HKH := Lib.hid (show (R.drop m).length = 0 by rw [hnil]; rfl)
    have hle1 : (k : Int) ≤ (m : Int) := by omega
    have hle2 : k ≤ m := by omega
    clear hnil hc hm
    go_enter Try.func57, Try.ntmps57
    go_wp2_with fail
    refine HF.out.mono ?_
    rintro e w2 ⟨rfl, g2⟩
    have HG := Lib.hid g2
    have hkd := HK.out _ g2
    obtain ⟨k0, k1, k2⟩ := hkd
    clear g2
    go_upto_region 4 with fail
    go_cut [7, 8] from 32 to 39 (fun p7 p8 wx => ∃ b7 b8 : Nat, p7 = .pointer (some ⟨b7, 0, none⟩) ∧ p8 = .pointer (some ⟨b8, 0, none⟩) ∧ Hid (b7 ≠ b8) ∧ Hid (RunB wx b7 ⟨rl, rh, rn⟩) ∧ Hid (RunB wx b8 ⟨rl, rh, rn⟩) ∧ Hid (w2.grownBy wx none) ∧ Hid (w2.heap.size ≤ b7) ∧ Hid (w2.heap.size ≤ b8))
    case first =>
      have hkd := HK.out _ HG.out
      go_region_held3 (fun W => W.cell? ⟨g, o + k * 3, none⟩ = some (.int .i64 rl) ∧ W.cell? ⟨g, o + k * 3 + 1, none⟩ = some (.int .i64 rh) ∧ W.cell? ⟨g, o + k * 3 + 2, none⟩ = some (.int .i64 rn)) (first | exact hkd | exact HK.out _ (by repeat (first | with_reducible exact HG.out | with_reducible apply grown_dr | with_reducible apply grown_al))) (fail)
      all_goals
        obtain ⟨hnA, hnB, gC⟩ := two_boxes w2 ⟨rl, rh, rn⟩
        simp only at hnA hnB gC
        go_wp2_with fail
        go_meet
        case rel => first | exact ⟨_, _, rfl, rfl, by (show _ ≠ _; omega), hnA, hnB, gC, Nat.le_refl _, Nat.le_succ _⟩ | exact ⟨_, _, rfl, rfl, by (show _ ≠ _; omega), hnB, hnA, gC, Nat.le_succ _, Nat.le_refl _⟩
    case rest =>
      obtain ⟨b7, b8, rfl, rfl, HNE, HB7, HB8, HG2, HX7, HX8⟩ := hcut
      have hne := HNE.out
      have hfz7 := HB7.out.frozen 1
      obtain ⟨-, q71, -⟩ := HB7.out.at
      have hs7 := RunB.set1 HB7.out item
      have hs8 := RunB.setO HB8.out (b := b7) (o := 1) (v := .int .i64 item) hne.symm
      have hfz8 := RunB.frozen hs8 0
      obtain ⟨q80, -, -⟩ := hs8.at
      simp only at q71 q80
      have hs8' := RunB.set0 hs8 item
      have hs7' := RunB.setO hs7 (b := b8) (o := 0) (v := .int .i64 item) hne
      have hgC := grown_at (grown_at HG2.out (grown_set _ b7 1 (.int .i64 item)) HX7.out) (grown_set _ b8 0 (.int .i64 item)) HX8.out
      have HG0 := Lib.hid (grown_trans HG.out hgC)
      clear hs7 hs8 hgC HG2
      generalize hwC : (wc.setCell ⟨b7, 1, none⟩ (.int .i64 item)).setCell ⟨b8, 0, none⟩ (.int .i64 item) = wC at hs7' hs8' HG0
      go_upto_region 6 with fail
      try rw [hwC]
      refine wp_region_held_drew (S := fun W => (W.cell? ⟨b7, 0, none⟩ = some (.int .i64 rl) ∧ W.cell? ⟨b7, 1, none⟩ = some (.int .i64 item) ∧ W.cell? ⟨b7, 2, none⟩ = some (.int .i64 rn)) ∧ W.cell? ⟨b8, 0, none⟩ = some (.int .i64 item) ∧ W.cell? ⟨b8, 1, none⟩ = some (.int .i64 rh) ∧ W.cell? ⟨b8, 2, none⟩ = some (.int .i64 rn)) (by kernel_rfl) ⟨hs7'.at, hs8'.at⟩ (fun hHeld => ?_)
      obtain ⟨wD, hwD, hL7, hH8, hGD⟩ : ∃ wD, wC.drew = wD ∧ RunB wD b7 ⟨rl, item, rn⟩ ∧ RunB wD b8 ⟨item, rh, rn⟩ ∧ wC.grownBy wD none := ⟨_, rfl, hs7', hs8', grown_drew1 _⟩
      rw [hwD] at hHeld ⊢
      have HL7 := Lib.hid hL7
      have HH8 := Lib.hid hH8
      have HGD := Lib.hid hGD
      clear hs7' hs8' hL7 hH8 hGD q71 q80 hfz7 hfz8 hwC hwD
      refine' wpAnyH_take (i := 0) (oi := ?oi1) (v := ?v1) ?hi1 ?hs1 ?hf1 ?hr1 ?hQ1 ?hy1 ?hS1 ?rest1
      case hi1 => exact rfl
      case hs1 => kernel_rfl
      case hf1 => kernel_rfl
      case hr1 => kernel_rfl
      case hQ1 => exact fun _ _ _ h => h
      case hS1 => assumption
      case hy1 =>
        refine Or.inl ⟨by rfl, ?_⟩
        intro w hSw
        try dsimp only at hSw
        go_simp
        try with_reducible rfl
      try simp only [Act.put, List.setIfInBounds_toArray, List.set_cons_zero, List.set_cons_succ]
      refine' wpAnyH_take (i := 1) (oi := ?oi2) (v := ?v2) ?hi2 ?hs2 ?hf2 ?hr2 ?hQ2 ?hy2 ?hS2 ?rest2
      case hi2 => exact rfl
      case hs2 => kernel_rfl
      case hf2 => kernel_rfl
      case hr2 => kernel_rfl
      case hQ2 => exact fun _ _ _ h => h
      case hS2 => assumption
      case hy2 =>
        refine Or.inl ⟨by rfl, ?_⟩
        intro w hSw
        try dsimp only at hSw
        go_simp
        try with_reducible rfl
      try simp only [Act.put, List.setIfInBounds_toArray, List.set_cons_zero, List.set_cons_succ]
      refine' wpAnyH_take (i := 2) (oi := ?oi3) (v := ?v3) ?hi3 ?hs3 ?hf3 ?hr3 ?hQ3 ?hy3 ?hS3 ?rest3
      case hi3 => exact rfl
      case hs3 => kernel_rfl
      case hf3 => kernel_rfl
      case hr3 => kernel_rfl
      case hQ3 => exact fun _ _ _ h => h
      case hS3 => assumption
      case hy3 =>
        refine Or.inl ⟨by rfl, ?_⟩
        intro w hSw
        try dsimp only at hSw
        go_simp
        try with_reducible rfl
      try simp only [Act.put, List.setIfInBounds_toArray, List.set_cons_zero, List.set_cons_succ]
      refine' wpAnyH_take (i := 3) (oi := ?oi4) (v := ?v4) ?hi4 ?hs4 ?hf4 ?hr4 ?hQ4 ?hy4 ?hS4 ?rest4
      case hi4 => exact rfl
      case hs4 => kernel_rfl
      case hf4 => kernel_rfl
      case hr4 => kernel_rfl
      case hQ4 => exact fun _ _ _ h => h
      case hS4 => assumption
      case hy4 =>
        refine Or.inl ⟨by rfl, ?_⟩
        intro w hSw
        try dsimp only at hSw
        go_simp
        try with_reducible rfl
      try simp only [Act.put, List.setIfInBounds_toArray, List.set_cons_zero, List.set_cons_succ]
      refine' wpAnyH_take (i := 4) (oi := ?oi5) (v := ?v5) ?hi5 ?hs5 ?hf5 ?hr5 ?hQ5 ?hy5 ?hS5 ?rest5
      case hi5 => exact rfl
      case hs5 => kernel_rfl
      case hf5 => kernel_rfl
      case hr5 => kernel_rfl
      case hQ5 => exact fun _ _ _ h => h
      case hS5 => assumption
      case hy5 =>
        refine Or.inl ⟨by rfl, ?_⟩
        intro w hSw
        try dsimp only at hSw
        go_simp
        try with_reducible rfl
      try simp only [Act.put, List.setIfInBounds_toArray, List.set_cons_zero, List.set_cons_succ]
      refine' wpAnyH_take (i := 7) (oi := ?oi6) (v := ?v6) ?hi6 ?hs6 ?hf6 ?hr6 ?hQ6 ?hy6 ?hS6 ?rest6
      case hi6 => exact rfl
      case hs6 => kernel_rfl
      case hf6 => kernel_rfl
      case hr6 => kernel_rfl
      case hQ6 => exact fun _ _ _ h => h
      case hS6 => assumption
      case hy6 =>
        refine Or.inl ⟨by rfl, ?_⟩
        intro w hSw
        try dsimp only at hSw
        go_simp
        try with_reducible rfl
      try simp only [Act.put, List.setIfInBounds_toArray, List.set_cons_zero, List.set_cons_succ]
      refine' wpAnyH_take (i := 9) (oi := ?oi7) (v := ?v7) ?hi7 ?hs7 ?hf7 ?hr7 ?hQ7 ?hy7 ?hS7 ?rest7
      case hi7 => exact rfl
      case hs7 => kernel_rfl
      case hf7 => kernel_rfl
      case hr7 => kernel_rfl
      case hQ7 => exact fun _ _ _ h => h
      case hS7 => assumption
      case hy7 =>
        refine Or.inl ⟨by rfl, ?_⟩
        intro w hSw
        try dsimp only at hSw
        go_simp
        try with_reducible rfl
      try simp only [Act.put, List.setIfInBounds_toArray, List.set_cons_zero, List.set_cons_succ]
      refine' wpAnyH_take (i := 10) (oi := ?oi8) (v := ?v8) ?hi8 ?hs8 ?hf8 ?hr8 ?hQ8 ?hy8 ?hS8 ?rest8
      case hi8 => exact rfl
      case hs8 => kernel_rfl
      case hf8 => kernel_rfl
      case hr8 => kernel_rfl
      case hQ8 => exact fun _ _ _ h => h
      case hS8 => assumption
      case hy8 =>
        refine Or.inl ⟨by rfl, ?_⟩
        intro w hSw
        try dsimp only at hSw
        go_simp
        try with_reducible rfl
      try simp only [Act.put, List.setIfInBounds_toArray, List.set_cons_zero, List.set_cons_succ]
      refine' wpAnyH_take (i := 11) (oi := ?oi9) (v := ?v9) ?hi9 ?hs9 ?hf9 ?hr9 ?hQ9 ?hy9 ?hS9 ?rest9
      case hi9 => exact rfl
      case hs9 => kernel_rfl
      case hf9 => kernel_rfl
      case hr9 => kernel_rfl
      case hQ9 => exact fun _ _ _ h => h
      case hS9 => assumption
      case hy9 =>
        refine Or.inl ⟨by rfl, ?_⟩
        intro w hSw
        try dsimp only at hSw
        go_simp
        try with_reducible rfl
      try simp only [Act.put, List.setIfInBounds_toArray, List.set_cons_zero, List.set_cons_succ]
      refine' wpAnyH_take (i := 12) (oi := ?oi10) (v := ?v10) ?hi10 ?hs10 ?hf10 ?hr10 ?hQ10 ?hy10 ?hS10 ?rest10
      case hi10 => exact rfl
      case hs10 => kernel_rfl
      case hf10 => kernel_rfl
      case hr10 => kernel_rfl
      case hQ10 => exact fun _ _ _ h => h
      case hS10 => assumption
      case hy10 =>
        refine Or.inl ⟨by rfl, ?_⟩
        intro w hSw
        try dsimp only at hSw
        go_simp
        try with_reducible rfl
      try simp only [Act.put, List.setIfInBounds_toArray, List.set_cons_zero, List.set_cons_succ]
      refine wpAnyH_ready (rs := [5, 8]) (by kernel_rfl) (by simp) ?_
      refine' AllReadyH.cons (o := ?o11) ?ho11 ?h11 ?hs11
      case ho11 => exact rfl
      case h11 =>
        intro K hK
        go_simp
        have hn1 := RunB.new wD ⟨rl, item, rn⟩
        have ga1 := World.grownBy_alloc wD (.cells #[.int .i64 rl, .int .i64 item, .int .i64 rn] 95) none
        simp only at hn1
        generalize hw1 : wD.alloc (.cells #[.int .i64 rl, .int .i64 item, .int .i64 rn] 95 (0, 0)) = W1 at hn1 ga1 ⊢
        have HN1 := Lib.hid hn1
        have HG1 := Lib.hid (grown_trans HGD.out ga1)
        have HL71 := Lib.hid (HL7.out.grow ga1)
        have HH81 := Lib.hid (HH8.out.grow ga1)
        clear hn1 ga1 hw1
        refine hK.out _ _ ?_ (fun hHeld => ?_)
        · exact ⟨HL71.out.at, HH81.out.at⟩
        clear hK K
        try dsimp only [Act.put]
        try simp only [Act.put, List.setIfInBounds_toArray, List.set_cons_zero, List.set_cons_succ]
        refine wpAnyH_ready (rs := [6, 8]) (by kernel_rfl) (by simp) ?_
        refine' AllReadyH.cons (o := ?o12) ?ho12 ?h12 ?hs12
        case ho12 => exact rfl
        case h12 =>
          intro K hK
          obtain ⟨g2, c2, W2, hr2, hn2, ga2⟩ := low_run (HUL.out.grow (grown_trans HG0.out HG1.out)) HKL.out (by omega) HN1.out
          refine step_append_run rfl _ _ _ _ rfl _ _ (by rfl) (by rfl) _ _ (hr2 _) ?_
          show K (Act.put _ (some 50) _) _
          have HN2 := Lib.hid hn2
          have HG2 := Lib.hid (grown_trans HG1.out ga2)
          have HL72 := Lib.hid (HL71.out.grow ga2)
          have HH82 := Lib.hid (HH81.out.grow ga2)
          have HB52 := Lib.hid (HN1.out.grow ga2)
          clear hn2 ga2 hr2
          refine hK.out _ _ ?_ (fun hHeld => ?_)
          · exact ⟨HL72.out.at, HH82.out.at⟩
          clear hK K
          try dsimp only [Act.put]
          try simp only [Act.put, List.setIfInBounds_toArray, List.set_cons_zero, List.set_cons_succ]
          refine wpAnyH_ready (rs := [8]) (by kernel_rfl) (by simp) ?_
          refine' AllReadyH.cons (o := ?o13) ?ho13 ?h13 ?hs13
          case ho13 => exact rfl
          case h13 =>
            intro K hK
            go_simp
            have hn3 := RunB.new W2 ⟨item, rh, rn⟩
            have ga3 := World.grownBy_alloc W2 (.cells #[.int .i64 item, .int .i64 rh, .int .i64 rn] 95) none
            simp only at hn3
            generalize hw3 : W2.alloc (.cells #[.int .i64 item, .int .i64 rh, .int .i64 rn] 95 (0, 0)) = W3 at hn3 ga3 ⊢
            have HN3 := Lib.hid hn3
            have HG3 := Lib.hid (grown_trans HG2.out ga3)
            have HL73 := Lib.hid (HL72.out.grow ga3)
            have HH83 := Lib.hid (HH82.out.grow ga3)
            have HB53 := Lib.hid (HB52.out.grow ga3)
            have HA3 := Lib.hid (HN2.out.grow ga3)
            clear hn3 ga3 hw3
            refine hK.out _ _ ?_ (fun hHeld => ?_)
            · exact ⟨HL73.out.at, HH83.out.at⟩
            clear hK K
            try dsimp only [Act.put]
            try simp only [Act.put, List.setIfInBounds_toArray, List.set_cons_zero, List.set_cons_succ]
            refine wpAnyH_ready (rs := [13]) (by kernel_rfl) (by simp) ?_
            refine' AllReadyH.cons (o := ?o14) ?ho14 ?h14 ?hs14
            case ho14 => exact rfl
            case h14 =>
              intro K hK
              obtain ⟨g4, c4, W4, hr4, hn4, ga4⟩ := high_run (HUH.out.grow (grown_trans HG0.out HG3.out)) HKH.out (by omega) HN3.out
              refine step_append_run rfl _ _ _ _ rfl _ _ (by rfl) (by rfl) _ _ (hr4 _) ?_
              show K (Act.put _ (some 57) _) _
              have HN4 := Lib.hid hn4
              have HG4 := Lib.hid (grown_trans HG3.out ga4)
              have HL74 := Lib.hid (HL73.out.grow ga4)
              have HH84 := Lib.hid (HH83.out.grow ga4)
              have HB54 := Lib.hid (HB53.out.grow ga4)
              have HA4 := Lib.hid (HA3.out.grow ga4)
              have HB84 := Lib.hid (HN3.out.grow ga4)
              clear hn4 ga4 hr4
              refine hK.out _ _ ?_ (fun hHeld => ?_)
              · exact ⟨HL74.out.at, HH84.out.at⟩
              clear hK K
              try dsimp only [Act.put]
              try simp only [Act.put, List.setIfInBounds_toArray, List.set_cons_zero, List.set_cons_succ]
              refine' wpAnyH_take (i := 14) (oi := ?oi15) (v := ?v15) ?hi15 ?hs15 ?hf15 ?hr15 ?hQ15 ?hy15 ?hS15 ?rest15
              case hi15 => exact rfl
              case hs15 => kernel_rfl
              case hf15 => kernel_rfl
              case hr15 => kernel_rfl
              case hQ15 => exact fun _ _ _ h => h
              case hS15 => assumption
              case hy15 =>
                refine Or.inl ⟨by rfl, ?_⟩
                intro w hSw
                try dsimp only at hSw
                go_simp
                try with_reducible rfl
              try simp only [Act.put, List.setIfInBounds_toArray, List.set_cons_zero, List.set_cons_succ]
              refine' wpAnyH_take (i := 15) (oi := ?oi16) (v := ?v16) ?hi16 ?hs16 ?hf16 ?hr16 ?hQ16 ?hy16 ?hS16 ?rest16
              case hi16 => exact rfl
              case hs16 => kernel_rfl
              case hf16 => kernel_rfl
              case hr16 => kernel_rfl
              case hQ16 => exact fun _ _ _ h => h
              case hS16 => assumption
              case hy16 =>
                refine Or.inl ⟨by rfl, ?_⟩
                intro w hSw
                try dsimp only at hSw
                go_simp
                try with_reducible rfl
              try simp only [Act.put, List.setIfInBounds_toArray, List.set_cons_zero, List.set_cons_succ]
              refine wpAnyH_done (by kernel_rfl) ?_ _
              simp only [List.getElem_toArray, List.getElem_cons_succ, List.getElem_cons_zero, Act.put, List.setIfInBounds_toArray, List.set_cons_zero, List.set_cons_succ]
              go_wp2_with fail
              go_ret2
              exact ⟨_, _, _, _, rfl, HA4.out, HN4.out, HLA.out, HLB.out, grown_trans HG0.out HG4.out⟩
            exact AllReadyH.nil
          exact AllReadyH.nil
        refine' AllReadyH.cons (o := ?o17) ?ho17 ?h17 ?hs17
        case ho17 => exact rfl
        case h17 =>
          intro K hK
          go_simp
          have hn5 := RunB.new W1 ⟨item, rh, rn⟩
          have ga5 := World.grownBy_alloc W1 (.cells #[.int .i64 item, .int .i64 rh, .int .i64 rn] 95) none
          simp only at hn5
          generalize hw5 : W1.alloc (.cells #[.int .i64 item, .int .i64 rh, .int .i64 rn] 95 (0, 0)) = W5 at hn5 ga5 ⊢
          have HN5 := Lib.hid hn5
          have HG5 := Lib.hid (grown_trans HG1.out ga5)
          have HL75 := Lib.hid (HL71.out.grow ga5)
          have HH85 := Lib.hid (HH81.out.grow ga5)
          have HB55 := Lib.hid (HN1.out.grow ga5)
          clear hn5 ga5 hw5
          refine hK.out _ _ ?_ (fun hHeld => ?_)
          · exact ⟨HL75.out.at, HH85.out.at⟩
          clear hK K
          try dsimp only [Act.put]
          try simp only [Act.put, List.setIfInBounds_toArray, List.set_cons_zero, List.set_cons_succ]
          refine wpAnyH_ready (rs := [6]) (by kernel_rfl) (by simp) ?_
          refine' AllReadyH.cons (o := ?o18) ?ho18 ?h18 ?hs18
          case ho18 => exact rfl
          case h18 =>
            intro K hK
            obtain ⟨g6, c6, W6, hr6, hn6, ga6⟩ := low_run (HUL.out.grow (grown_trans HG0.out HG5.out)) HKL.out (by omega) HB55.out
            refine step_append_run rfl _ _ _ _ rfl _ _ (by rfl) (by rfl) _ _ (hr6 _) ?_
            show K (Act.put _ (some 50) _) _
            have HN6 := Lib.hid hn6
            have HG6 := Lib.hid (grown_trans HG5.out ga6)
            have HL76 := Lib.hid (HL75.out.grow ga6)
            have HH86 := Lib.hid (HH85.out.grow ga6)
            have HB56 := Lib.hid (HB55.out.grow ga6)
            have HB86 := Lib.hid (HN5.out.grow ga6)
            clear hn6 ga6 hr6
            refine hK.out _ _ ?_ (fun hHeld => ?_)
            · exact ⟨HL76.out.at, HH86.out.at⟩
            clear hK K
            try dsimp only [Act.put]
            try simp only [Act.put, List.setIfInBounds_toArray, List.set_cons_zero, List.set_cons_succ]
            refine wpAnyH_ready (rs := [13]) (by kernel_rfl) (by simp) ?_
            refine' AllReadyH.cons (o := ?o19) ?ho19 ?h19 ?hs19
            case ho19 => exact rfl
            case h19 =>
              intro K hK
              obtain ⟨g7, c7, W7, hr7, hn7, ga7⟩ := high_run (HUH.out.grow (grown_trans HG0.out HG6.out)) HKH.out (by omega) HB86.out
              refine step_append_run rfl _ _ _ _ rfl _ _ (by rfl) (by rfl) _ _ (hr7 _) ?_
              show K (Act.put _ (some 57) _) _
              have HN7 := Lib.hid hn7
              have HG7 := Lib.hid (grown_trans HG6.out ga7)
              have HL77 := Lib.hid (HL76.out.grow ga7)
              have HH87 := Lib.hid (HH86.out.grow ga7)
              have HB57 := Lib.hid (HB56.out.grow ga7)
              have HB87 := Lib.hid (HB86.out.grow ga7)
              have HA7 := Lib.hid (HN6.out.grow ga7)
              clear hn7 ga7 hr7
              refine hK.out _ _ ?_ (fun hHeld => ?_)
              · exact ⟨HL77.out.at, HH87.out.at⟩
              clear hK K
              try dsimp only [Act.put]
              try simp only [Act.put, List.setIfInBounds_toArray, List.set_cons_zero, List.set_cons_succ]
              refine' wpAnyH_take (i := 14) (oi := ?oi20) (v := ?v20) ?hi20 ?hs20 ?hf20 ?hr20 ?hQ20 ?hy20 ?hS20 ?rest20
              case hi20 => exact rfl
              case hs20 => kernel_rfl
              case hf20 => kernel_rfl
              case hr20 => kernel_rfl
              case hQ20 => exact fun _ _ _ h => h
              case hS20 => assumption
              case hy20 =>
                refine Or.inl ⟨by rfl, ?_⟩
                intro w hSw
                try dsimp only at hSw
                go_simp
                try with_reducible rfl
              try simp only [Act.put, List.setIfInBounds_toArray, List.set_cons_zero, List.set_cons_succ]
              refine' wpAnyH_take (i := 15) (oi := ?oi21) (v := ?v21) ?hi21 ?hs21 ?hf21 ?hr21 ?hQ21 ?hy21 ?hS21 ?rest21
              case hi21 => exact rfl
              case hs21 => kernel_rfl
              case hf21 => kernel_rfl
              case hr21 => kernel_rfl
              case hQ21 => exact fun _ _ _ h => h
              case hS21 => assumption
              case hy21 =>
                refine Or.inl ⟨by rfl, ?_⟩
                intro w hSw
                try dsimp only at hSw
                go_simp
                try with_reducible rfl
              try simp only [Act.put, List.setIfInBounds_toArray, List.set_cons_zero, List.set_cons_succ]
              refine wpAnyH_done (by kernel_rfl) ?_ _
              simp only [List.getElem_toArray, List.getElem_cons_succ, List.getElem_cons_zero, Act.put, List.setIfInBounds_toArray, List.set_cons_zero, List.set_cons_succ]
              go_wp2_with fail
              go_ret2
              exact ⟨_, _, _, _, rfl, HA7.out, HN7.out, HLA.out, HLB.out, grown_trans HG0.out HG7.out⟩
            exact AllReadyH.nil
          exact AllReadyH.nil
        exact AllReadyH.nil
      refine' AllReadyH.cons (o := ?o22) ?ho22 ?h22 ?hs22
      case ho22 => exact rfl
      case h22 =>
        intro K hK
        go_simp
        have hn8 := RunB.new wD ⟨item, rh, rn⟩
        have ga8 := World.grownBy_alloc wD (.cells #[.int .i64 item, .int .i64 rh, .int .i64 rn] 95) none
        simp only at hn8
        generalize hw8 : wD.alloc (.cells #[.int .i64 item, .int .i64 rh, .int .i64 rn] 95 (0, 0)) = W8 at hn8 ga8 ⊢
        have HN8 := Lib.hid hn8
        have HG8 := Lib.hid (grown_trans HGD.out ga8)
        have HL78 := Lib.hid (HL7.out.grow ga8)
        have HH88 := Lib.hid (HH8.out.grow ga8)
        clear hn8 ga8 hw8
        refine hK.out _ _ ?_ (fun hHeld => ?_)
        · exact ⟨HL78.out.at, HH88.out.at⟩
        clear hK K
        try dsimp only [Act.put]
        try simp only [Act.put, List.setIfInBounds_toArray, List.set_cons_zero, List.set_cons_succ]
        refine wpAnyH_ready (rs := [5]) (by kernel_rfl) (by simp) ?_
        refine' AllReadyH.cons (o := ?o23) ?ho23 ?h23 ?hs23
        case ho23 => exact rfl
        case h23 =>
          intro K hK
          go_simp
          have hn9 := RunB.new W8 ⟨rl, item, rn⟩
          have ga9 := World.grownBy_alloc W8 (.cells #[.int .i64 rl, .int .i64 item, .int .i64 rn] 95) none
          simp only at hn9
          generalize hw9 : W8.alloc (.cells #[.int .i64 rl, .int .i64 item, .int .i64 rn] 95 (0, 0)) = W9 at hn9 ga9 ⊢
          have HN9 := Lib.hid hn9
          have HG9 := Lib.hid (grown_trans HG8.out ga9)
          have HL79 := Lib.hid (HL78.out.grow ga9)
          have HH89 := Lib.hid (HH88.out.grow ga9)
          have HB89 := Lib.hid (HN8.out.grow ga9)
          clear hn9 ga9 hw9
          refine hK.out _ _ ?_ (fun hHeld => ?_)
          · exact ⟨HL79.out.at, HH89.out.at⟩
          clear hK K
          try dsimp only [Act.put]
          try simp only [Act.put, List.setIfInBounds_toArray, List.set_cons_zero, List.set_cons_succ]
          refine wpAnyH_ready (rs := [6]) (by kernel_rfl) (by simp) ?_
          refine' AllReadyH.cons (o := ?o24) ?ho24 ?h24 ?hs24
          case ho24 => exact rfl
          case h24 =>
            intro K hK
            obtain ⟨g10, c10, W10, hr10, hn10, ga10⟩ := low_run (HUL.out.grow (grown_trans HG0.out HG9.out)) HKL.out (by omega) HN9.out
            refine step_append_run rfl _ _ _ _ rfl _ _ (by rfl) (by rfl) _ _ (hr10 _) ?_
            show K (Act.put _ (some 50) _) _
            have HN10 := Lib.hid hn10
            have HG10 := Lib.hid (grown_trans HG9.out ga10)
            have HL710 := Lib.hid (HL79.out.grow ga10)
            have HH810 := Lib.hid (HH89.out.grow ga10)
            have HB810 := Lib.hid (HB89.out.grow ga10)
            have HB510 := Lib.hid (HN9.out.grow ga10)
            clear hn10 ga10 hr10
            refine hK.out _ _ ?_ (fun hHeld => ?_)
            · exact ⟨HL710.out.at, HH810.out.at⟩
            clear hK K
            try dsimp only [Act.put]
            try simp only [Act.put, List.setIfInBounds_toArray, List.set_cons_zero, List.set_cons_succ]
            refine wpAnyH_ready (rs := [13]) (by kernel_rfl) (by simp) ?_
            refine' AllReadyH.cons (o := ?o25) ?ho25 ?h25 ?hs25
            case ho25 => exact rfl
            case h25 =>
              intro K hK
              obtain ⟨g11, c11, W11, hr11, hn11, ga11⟩ := high_run (HUH.out.grow (grown_trans HG0.out HG10.out)) HKH.out (by omega) HB810.out
              refine step_append_run rfl _ _ _ _ rfl _ _ (by rfl) (by rfl) _ _ (hr11 _) ?_
              show K (Act.put _ (some 57) _) _
              have HN11 := Lib.hid hn11
              have HG11 := Lib.hid (grown_trans HG10.out ga11)
              have HL711 := Lib.hid (HL710.out.grow ga11)
              have HH811 := Lib.hid (HH810.out.grow ga11)
              have HB811 := Lib.hid (HB810.out.grow ga11)
              have HB511 := Lib.hid (HB510.out.grow ga11)
              have HA11 := Lib.hid (HN10.out.grow ga11)
              clear hn11 ga11 hr11
              refine hK.out _ _ ?_ (fun hHeld => ?_)
              · exact ⟨HL711.out.at, HH811.out.at⟩
              clear hK K
              try dsimp only [Act.put]
              try simp only [Act.put, List.setIfInBounds_toArray, List.set_cons_zero, List.set_cons_succ]
              refine' wpAnyH_take (i := 14) (oi := ?oi26) (v := ?v26) ?hi26 ?hs26 ?hf26 ?hr26 ?hQ26 ?hy26 ?hS26 ?rest26
              case hi26 => exact rfl
              case hs26 => kernel_rfl
              case hf26 => kernel_rfl
              case hr26 => kernel_rfl
              case hQ26 => exact fun _ _ _ h => h
              case hS26 => assumption
              case hy26 =>
                refine Or.inl ⟨by rfl, ?_⟩
                intro w hSw
                try dsimp only at hSw
                go_simp
                try with_reducible rfl
              try simp only [Act.put, List.setIfInBounds_toArray, List.set_cons_zero, List.set_cons_succ]
              refine' wpAnyH_take (i := 15) (oi := ?oi27) (v := ?v27) ?hi27 ?hs27 ?hf27 ?hr27 ?hQ27 ?hy27 ?hS27 ?rest27
              case hi27 => exact rfl
              case hs27 => kernel_rfl
              case hf27 => kernel_rfl
              case hr27 => kernel_rfl
              case hQ27 => exact fun _ _ _ h => h
              case hS27 => assumption
              case hy27 =>
                refine Or.inl ⟨by rfl, ?_⟩
                intro w hSw
                try dsimp only at hSw
                go_simp
                try with_reducible rfl
              try simp only [Act.put, List.setIfInBounds_toArray, List.set_cons_zero, List.set_cons_succ]
              refine wpAnyH_done (by kernel_rfl) ?_ _
              simp only [List.getElem_toArray, List.getElem_cons_succ, List.getElem_cons_zero, Act.put, List.setIfInBounds_toArray, List.set_cons_zero, List.set_cons_succ]
              go_wp2_with fail
              go_ret2
              exact ⟨_, _, _, _, rfl, HA11.out, HN11.out, HLA.out, HLB.out, grown_trans HG0.out HG11.out⟩
            exact AllReadyH.nil
          exact AllReadyH.nil
        exact AllReadyH.nil
      exact AllReadyH.nil
  · have hle1 : (k : Int) ≤ (c : Int) := by omega
    have hle2 : (m : Int) ≤ (n : Int) := by omega
    have hle3 : (n : Int) ≤ (c : Int) := by omega
    have hle5 : k ≤ c := by omega
    have hle6 : k ≤ n := by omega
    clear hm
    go_enter Try.func57, Try.ntmps57
    go_wp2_with fail
    refine HF.out.mono ?_
    rintro e w2 ⟨rfl, g2⟩
    have HG := Lib.hid g2
    have hkd := HK.out _ g2
    obtain ⟨k0, k1, k2⟩ := hkd
    clear g2
    go_upto_region 4 with fail
    go_cut [7, 8] from 32 to 39 (fun p7 p8 wx => ∃ b7 b8 : Nat, p7 = .pointer (some ⟨b7, 0, none⟩) ∧ p8 = .pointer (some ⟨b8, 0, none⟩) ∧ Hid (b7 ≠ b8) ∧ Hid (RunB wx b7 ⟨rl, rh, rn⟩) ∧ Hid (RunB wx b8 ⟨rl, rh, rn⟩) ∧ Hid (w2.grownBy wx none) ∧ Hid (w2.heap.size ≤ b7) ∧ Hid (w2.heap.size ≤ b8))
    case first =>
      have hkd := HK.out _ HG.out
      go_region_held3 (fun W => W.cell? ⟨g, o + k * 3, none⟩ = some (.int .i64 rl) ∧ W.cell? ⟨g, o + k * 3 + 1, none⟩ = some (.int .i64 rh) ∧ W.cell? ⟨g, o + k * 3 + 2, none⟩ = some (.int .i64 rn)) (first | exact hkd | exact HK.out _ (by repeat (first | with_reducible exact HG.out | with_reducible apply grown_dr | with_reducible apply grown_al))) (fail)
      all_goals
        obtain ⟨hnA, hnB, gC⟩ := two_boxes w2 ⟨rl, rh, rn⟩
        simp only at hnA hnB gC
        go_wp2_with fail
        go_meet
        case rel => first | exact ⟨_, _, rfl, rfl, by (show _ ≠ _; omega), hnA, hnB, gC, Nat.le_refl _, Nat.le_succ _⟩ | exact ⟨_, _, rfl, rfl, by (show _ ≠ _; omega), hnB, hnA, gC, Nat.le_succ _, Nat.le_refl _⟩
    case rest =>
      obtain ⟨b7, b8, rfl, rfl, HNE, HB7, HB8, HG2, HX7, HX8⟩ := hcut
      have hne := HNE.out
      have hfz7 := HB7.out.frozen 1
      obtain ⟨-, q71, -⟩ := HB7.out.at
      have hs7 := RunB.set1 HB7.out item
      have hs8 := RunB.setO HB8.out (b := b7) (o := 1) (v := .int .i64 item) hne.symm
      have hfz8 := RunB.frozen hs8 0
      obtain ⟨q80, -, -⟩ := hs8.at
      simp only at q71 q80
      have hs8' := RunB.set0 hs8 item
      have hs7' := RunB.setO hs7 (b := b8) (o := 0) (v := .int .i64 item) hne
      have hgC := grown_at (grown_at HG2.out (grown_set _ b7 1 (.int .i64 item)) HX7.out) (grown_set _ b8 0 (.int .i64 item)) HX8.out
      have HG0 := Lib.hid (grown_trans HG.out hgC)
      clear hs7 hs8 hgC HG2
      generalize hwC : (wc.setCell ⟨b7, 1, none⟩ (.int .i64 item)).setCell ⟨b8, 0, none⟩ (.int .i64 item) = wC at hs7' hs8' HG0
      go_upto_region 6 with fail
      try rw [hwC]
      refine wp_region_held_drew (S := fun W => (W.cell? ⟨b7, 0, none⟩ = some (.int .i64 rl) ∧ W.cell? ⟨b7, 1, none⟩ = some (.int .i64 item) ∧ W.cell? ⟨b7, 2, none⟩ = some (.int .i64 rn)) ∧ W.cell? ⟨b8, 0, none⟩ = some (.int .i64 item) ∧ W.cell? ⟨b8, 1, none⟩ = some (.int .i64 rh) ∧ W.cell? ⟨b8, 2, none⟩ = some (.int .i64 rn)) (by kernel_rfl) ⟨hs7'.at, hs8'.at⟩ (fun hHeld => ?_)
      obtain ⟨wD, hwD, hL7, hH8, hGD⟩ : ∃ wD, wC.drew = wD ∧ RunB wD b7 ⟨rl, item, rn⟩ ∧ RunB wD b8 ⟨item, rh, rn⟩ ∧ wC.grownBy wD none := ⟨_, rfl, hs7', hs8', grown_drew1 _⟩
      rw [hwD] at hHeld ⊢
      have HL7 := Lib.hid hL7
      have HH8 := Lib.hid hH8
      have HGD := Lib.hid hGD
      clear hs7' hs8' hL7 hH8 hGD q71 q80 hfz7 hfz8 hwC hwD
      refine' wpAnyH_take (i := 0) (oi := ?oi28) (v := ?v28) ?hi28 ?hs28 ?hf28 ?hr28 ?hQ28 ?hy28 ?hS28 ?rest28
      case hi28 => exact rfl
      case hs28 => kernel_rfl
      case hf28 => kernel_rfl
      case hr28 => kernel_rfl
      case hQ28 => exact fun _ _ _ h => h
      case hS28 => assumption
      case hy28 =>
        refine Or.inl ⟨by rfl, ?_⟩
        intro w hSw
        try dsimp only at hSw
        go_simp
        try with_reducible rfl
      try simp only [Act.put, List.setIfInBounds_toArray, List.set_cons_zero, List.set_cons_succ]
      refine' wpAnyH_take (i := 1) (oi := ?oi29) (v := ?v29) ?hi29 ?hs29 ?hf29 ?hr29 ?hQ29 ?hy29 ?hS29 ?rest29
      case hi29 => exact rfl
      case hs29 => kernel_rfl
      case hf29 => kernel_rfl
      case hr29 => kernel_rfl
      case hQ29 => exact fun _ _ _ h => h
      case hS29 => assumption
      case hy29 =>
        refine Or.inl ⟨by rfl, ?_⟩
        intro w hSw
        try dsimp only at hSw
        go_simp
        try with_reducible rfl
      try simp only [Act.put, List.setIfInBounds_toArray, List.set_cons_zero, List.set_cons_succ]
      refine' wpAnyH_take (i := 2) (oi := ?oi30) (v := ?v30) ?hi30 ?hs30 ?hf30 ?hr30 ?hQ30 ?hy30 ?hS30 ?rest30
      case hi30 => exact rfl
      case hs30 => kernel_rfl
      case hf30 => kernel_rfl
      case hr30 => kernel_rfl
      case hQ30 => exact fun _ _ _ h => h
      case hS30 => assumption
      case hy30 =>
        refine Or.inl ⟨by rfl, ?_⟩
        intro w hSw
        try dsimp only at hSw
        go_simp
        try with_reducible rfl
      try simp only [Act.put, List.setIfInBounds_toArray, List.set_cons_zero, List.set_cons_succ]
      refine' wpAnyH_take (i := 3) (oi := ?oi31) (v := ?v31) ?hi31 ?hs31 ?hf31 ?hr31 ?hQ31 ?hy31 ?hS31 ?rest31
      case hi31 => exact rfl
      case hs31 => kernel_rfl
      case hf31 => kernel_rfl
      case hr31 => kernel_rfl
      case hQ31 => exact fun _ _ _ h => h
      case hS31 => assumption
      case hy31 =>
        refine Or.inl ⟨by rfl, ?_⟩
        intro w hSw
        try dsimp only at hSw
        go_simp
        try with_reducible rfl
      try simp only [Act.put, List.setIfInBounds_toArray, List.set_cons_zero, List.set_cons_succ]
      refine' wpAnyH_take (i := 4) (oi := ?oi32) (v := ?v32) ?hi32 ?hs32 ?hf32 ?hr32 ?hQ32 ?hy32 ?hS32 ?rest32
      case hi32 => exact rfl
      case hs32 => kernel_rfl
      case hf32 => kernel_rfl
      case hr32 => kernel_rfl
      case hQ32 => exact fun _ _ _ h => h
      case hS32 => assumption
      case hy32 =>
        refine Or.inl ⟨by rfl, ?_⟩
        intro w hSw
        try dsimp only at hSw
        go_simp
        try with_reducible rfl
      try simp only [Act.put, List.setIfInBounds_toArray, List.set_cons_zero, List.set_cons_succ]
      refine' wpAnyH_take (i := 7) (oi := ?oi33) (v := ?v33) ?hi33 ?hs33 ?hf33 ?hr33 ?hQ33 ?hy33 ?hS33 ?rest33
      case hi33 => exact rfl
      case hs33 => kernel_rfl
      case hf33 => kernel_rfl
      case hr33 => kernel_rfl
      case hQ33 => exact fun _ _ _ h => h
      case hS33 => assumption
      case hy33 =>
        refine Or.inl ⟨by rfl, ?_⟩
        intro w hSw
        try dsimp only at hSw
        go_simp
        try with_reducible rfl
      try simp only [Act.put, List.setIfInBounds_toArray, List.set_cons_zero, List.set_cons_succ]
      refine' wpAnyH_take (i := 9) (oi := ?oi34) (v := ?v34) ?hi34 ?hs34 ?hf34 ?hr34 ?hQ34 ?hy34 ?hS34 ?rest34
      case hi34 => exact rfl
      case hs34 => kernel_rfl
      case hf34 => kernel_rfl
      case hr34 => kernel_rfl
      case hQ34 => exact fun _ _ _ h => h
      case hS34 => assumption
      case hy34 =>
        refine Or.inl ⟨by rfl, ?_⟩
        intro w hSw
        try dsimp only at hSw
        go_simp
        try with_reducible rfl
      try simp only [Act.put, List.setIfInBounds_toArray, List.set_cons_zero, List.set_cons_succ]
      refine' wpAnyH_take (i := 10) (oi := ?oi35) (v := ?v35) ?hi35 ?hs35 ?hf35 ?hr35 ?hQ35 ?hy35 ?hS35 ?rest35
      case hi35 => exact rfl
      case hs35 => kernel_rfl
      case hf35 => kernel_rfl
      case hr35 => kernel_rfl
      case hQ35 => exact fun _ _ _ h => h
      case hS35 => assumption
      case hy35 =>
        refine Or.inl ⟨by rfl, ?_⟩
        intro w hSw
        try dsimp only at hSw
        go_simp
        try with_reducible rfl
      try simp only [Act.put, List.setIfInBounds_toArray, List.set_cons_zero, List.set_cons_succ]
      refine' wpAnyH_take (i := 11) (oi := ?oi36) (v := ?v36) ?hi36 ?hs36 ?hf36 ?hr36 ?hQ36 ?hy36 ?hS36 ?rest36
      case hi36 => exact rfl
      case hs36 => kernel_rfl
      case hf36 => kernel_rfl
      case hr36 => kernel_rfl
      case hQ36 => exact fun _ _ _ h => h
      case hS36 => assumption
      case hy36 =>
        refine Or.inl ⟨by rfl, ?_⟩
        intro w hSw
        try dsimp only at hSw
        go_simp
        try with_reducible rfl
      try simp only [Act.put, List.setIfInBounds_toArray, List.set_cons_zero, List.set_cons_succ]
      refine' wpAnyH_take (i := 12) (oi := ?oi37) (v := ?v37) ?hi37 ?hs37 ?hf37 ?hr37 ?hQ37 ?hy37 ?hS37 ?rest37
      case hi37 => exact rfl
      case hs37 => kernel_rfl
      case hf37 => kernel_rfl
      case hr37 => kernel_rfl
      case hQ37 => exact fun _ _ _ h => h
      case hS37 => assumption
      case hy37 =>
        refine Or.inl ⟨by rfl, ?_⟩
        intro w hSw
        try dsimp only at hSw
        go_simp
        try with_reducible rfl
      try simp only [Act.put, List.setIfInBounds_toArray, List.set_cons_zero, List.set_cons_succ]
      refine wpAnyH_ready (rs := [5, 8]) (by kernel_rfl) (by simp) ?_
      refine' AllReadyH.cons (o := ?o38) ?ho38 ?h38 ?hs38
      case ho38 => exact rfl
      case h38 =>
        intro K hK
        go_simp
        have hn12 := RunB.new wD ⟨rl, item, rn⟩
        have ga12 := World.grownBy_alloc wD (.cells #[.int .i64 rl, .int .i64 item, .int .i64 rn] 95) none
        simp only at hn12
        generalize hw12 : wD.alloc (.cells #[.int .i64 rl, .int .i64 item, .int .i64 rn] 95 (0, 0)) = W12 at hn12 ga12 ⊢
        have HN12 := Lib.hid hn12
        have HG12 := Lib.hid (grown_trans HGD.out ga12)
        have HL712 := Lib.hid (HL7.out.grow ga12)
        have HH812 := Lib.hid (HH8.out.grow ga12)
        clear hn12 ga12 hw12
        refine hK.out _ _ ?_ (fun hHeld => ?_)
        · exact ⟨HL712.out.at, HH812.out.at⟩
        clear hK K
        try dsimp only [Act.put]
        try simp only [Act.put, List.setIfInBounds_toArray, List.set_cons_zero, List.set_cons_succ]
        refine wpAnyH_ready (rs := [6, 8]) (by kernel_rfl) (by simp) ?_
        refine' AllReadyH.cons (o := ?o39) ?ho39 ?h39 ?hs39
        case ho39 => exact rfl
        case h39 =>
          intro K hK
          obtain ⟨g13, c13, W13, hr13, hn13, ga13⟩ := low_run (HUL.out.grow (grown_trans HG0.out HG12.out)) HKL.out (by omega) HN12.out
          refine step_append_run rfl _ _ _ _ rfl _ _ (by rfl) (by rfl) _ _ (hr13 _) ?_
          show K (Act.put _ (some 50) _) _
          have HN13 := Lib.hid hn13
          have HG13 := Lib.hid (grown_trans HG12.out ga13)
          have HL713 := Lib.hid (HL712.out.grow ga13)
          have HH813 := Lib.hid (HH812.out.grow ga13)
          have HB513 := Lib.hid (HN12.out.grow ga13)
          clear hn13 ga13 hr13
          refine hK.out _ _ ?_ (fun hHeld => ?_)
          · exact ⟨HL713.out.at, HH813.out.at⟩
          clear hK K
          try dsimp only [Act.put]
          try simp only [Act.put, List.setIfInBounds_toArray, List.set_cons_zero, List.set_cons_succ]
          refine wpAnyH_ready (rs := [8]) (by kernel_rfl) (by simp) ?_
          refine' AllReadyH.cons (o := ?o40) ?ho40 ?h40 ?hs40
          case ho40 => exact rfl
          case h40 =>
            intro K hK
            go_simp
            have hn14 := RunB.new W13 ⟨item, rh, rn⟩
            have ga14 := World.grownBy_alloc W13 (.cells #[.int .i64 item, .int .i64 rh, .int .i64 rn] 95) none
            simp only at hn14
            generalize hw14 : W13.alloc (.cells #[.int .i64 item, .int .i64 rh, .int .i64 rn] 95 (0, 0)) = W14 at hn14 ga14 ⊢
            have HN14 := Lib.hid hn14
            have HG14 := Lib.hid (grown_trans HG13.out ga14)
            have HL714 := Lib.hid (HL713.out.grow ga14)
            have HH814 := Lib.hid (HH813.out.grow ga14)
            have HB514 := Lib.hid (HB513.out.grow ga14)
            have HA14 := Lib.hid (HN13.out.grow ga14)
            clear hn14 ga14 hw14
            refine hK.out _ _ ?_ (fun hHeld => ?_)
            · exact ⟨HL714.out.at, HH814.out.at⟩
            clear hK K
            try dsimp only [Act.put]
            try simp only [Act.put, List.setIfInBounds_toArray, List.set_cons_zero, List.set_cons_succ]
            refine wpAnyH_ready (rs := [13]) (by kernel_rfl) (by simp) ?_
            refine' AllReadyH.cons (o := ?o41) ?ho41 ?h41 ?hs41
            case ho41 => exact rfl
            case h41 =>
              intro K hK
              obtain ⟨g15, c15, W15, hr15, hn15, ga15⟩ := high_run (HUH.out.grow (grown_trans HG0.out HG14.out)) HKH.out (by omega) HN14.out
              refine step_append_run rfl _ _ _ _ rfl _ _ (by rfl) (by rfl) _ _ (hr15 _) ?_
              show K (Act.put _ (some 57) _) _
              have HN15 := Lib.hid hn15
              have HG15 := Lib.hid (grown_trans HG14.out ga15)
              have HL715 := Lib.hid (HL714.out.grow ga15)
              have HH815 := Lib.hid (HH814.out.grow ga15)
              have HB515 := Lib.hid (HB514.out.grow ga15)
              have HA15 := Lib.hid (HA14.out.grow ga15)
              have HB815 := Lib.hid (HN14.out.grow ga15)
              clear hn15 ga15 hr15
              refine hK.out _ _ ?_ (fun hHeld => ?_)
              · exact ⟨HL715.out.at, HH815.out.at⟩
              clear hK K
              try dsimp only [Act.put]
              try simp only [Act.put, List.setIfInBounds_toArray, List.set_cons_zero, List.set_cons_succ]
              refine' wpAnyH_take (i := 14) (oi := ?oi42) (v := ?v42) ?hi42 ?hs42 ?hf42 ?hr42 ?hQ42 ?hy42 ?hS42 ?rest42
              case hi42 => exact rfl
              case hs42 => kernel_rfl
              case hf42 => kernel_rfl
              case hr42 => kernel_rfl
              case hQ42 => exact fun _ _ _ h => h
              case hS42 => assumption
              case hy42 =>
                refine Or.inl ⟨by rfl, ?_⟩
                intro w hSw
                try dsimp only at hSw
                go_simp
                try with_reducible rfl
              try simp only [Act.put, List.setIfInBounds_toArray, List.set_cons_zero, List.set_cons_succ]
              refine' wpAnyH_take (i := 15) (oi := ?oi43) (v := ?v43) ?hi43 ?hs43 ?hf43 ?hr43 ?hQ43 ?hy43 ?hS43 ?rest43
              case hi43 => exact rfl
              case hs43 => kernel_rfl
              case hf43 => kernel_rfl
              case hr43 => kernel_rfl
              case hQ43 => exact fun _ _ _ h => h
              case hS43 => assumption
              case hy43 =>
                refine Or.inl ⟨by rfl, ?_⟩
                intro w hSw
                try dsimp only at hSw
                go_simp
                try with_reducible rfl
              try simp only [Act.put, List.setIfInBounds_toArray, List.set_cons_zero, List.set_cons_succ]
              refine wpAnyH_done (by kernel_rfl) ?_ _
              simp only [List.getElem_toArray, List.getElem_cons_succ, List.getElem_cons_zero, Act.put, List.setIfInBounds_toArray, List.set_cons_zero, List.set_cons_succ]
              go_wp2_with fail
              go_ret2
              exact ⟨_, _, _, _, rfl, HA15.out, HN15.out, HLA.out, HLB.out, grown_trans HG0.out HG15.out⟩
            exact AllReadyH.nil
          exact AllReadyH.nil
        refine' AllReadyH.cons (o := ?o44) ?ho44 ?h44 ?hs44
        case ho44 => exact rfl
        case h44 =>
          intro K hK
          go_simp
          have hn16 := RunB.new W12 ⟨item, rh, rn⟩
          have ga16 := World.grownBy_alloc W12 (.cells #[.int .i64 item, .int .i64 rh, .int .i64 rn] 95) none
          simp only at hn16
          generalize hw16 : W12.alloc (.cells #[.int .i64 item, .int .i64 rh, .int .i64 rn] 95 (0, 0)) = W16 at hn16 ga16 ⊢
          have HN16 := Lib.hid hn16
          have HG16 := Lib.hid (grown_trans HG12.out ga16)
          have HL716 := Lib.hid (HL712.out.grow ga16)
          have HH816 := Lib.hid (HH812.out.grow ga16)
          have HB516 := Lib.hid (HN12.out.grow ga16)
          clear hn16 ga16 hw16
          refine hK.out _ _ ?_ (fun hHeld => ?_)
          · exact ⟨HL716.out.at, HH816.out.at⟩
          clear hK K
          try dsimp only [Act.put]
          try simp only [Act.put, List.setIfInBounds_toArray, List.set_cons_zero, List.set_cons_succ]
          refine wpAnyH_ready (rs := [6]) (by kernel_rfl) (by simp) ?_
          refine' AllReadyH.cons (o := ?o45) ?ho45 ?h45 ?hs45
          case ho45 => exact rfl
          case h45 =>
            intro K hK
            obtain ⟨g17, c17, W17, hr17, hn17, ga17⟩ := low_run (HUL.out.grow (grown_trans HG0.out HG16.out)) HKL.out (by omega) HB516.out
            refine step_append_run rfl _ _ _ _ rfl _ _ (by rfl) (by rfl) _ _ (hr17 _) ?_
            show K (Act.put _ (some 50) _) _
            have HN17 := Lib.hid hn17
            have HG17 := Lib.hid (grown_trans HG16.out ga17)
            have HL717 := Lib.hid (HL716.out.grow ga17)
            have HH817 := Lib.hid (HH816.out.grow ga17)
            have HB517 := Lib.hid (HB516.out.grow ga17)
            have HB817 := Lib.hid (HN16.out.grow ga17)
            clear hn17 ga17 hr17
            refine hK.out _ _ ?_ (fun hHeld => ?_)
            · exact ⟨HL717.out.at, HH817.out.at⟩
            clear hK K
            try dsimp only [Act.put]
            try simp only [Act.put, List.setIfInBounds_toArray, List.set_cons_zero, List.set_cons_succ]
            refine wpAnyH_ready (rs := [13]) (by kernel_rfl) (by simp) ?_
            refine' AllReadyH.cons (o := ?o46) ?ho46 ?h46 ?hs46
            case ho46 => exact rfl
            case h46 =>
              intro K hK
              obtain ⟨g18, c18, W18, hr18, hn18, ga18⟩ := high_run (HUH.out.grow (grown_trans HG0.out HG17.out)) HKH.out (by omega) HB817.out
              refine step_append_run rfl _ _ _ _ rfl _ _ (by rfl) (by rfl) _ _ (hr18 _) ?_
              show K (Act.put _ (some 57) _) _
              have HN18 := Lib.hid hn18
              have HG18 := Lib.hid (grown_trans HG17.out ga18)
              have HL718 := Lib.hid (HL717.out.grow ga18)
              have HH818 := Lib.hid (HH817.out.grow ga18)
              have HB518 := Lib.hid (HB517.out.grow ga18)
              have HB818 := Lib.hid (HB817.out.grow ga18)
              have HA18 := Lib.hid (HN17.out.grow ga18)
              clear hn18 ga18 hr18
              refine hK.out _ _ ?_ (fun hHeld => ?_)
              · exact ⟨HL718.out.at, HH818.out.at⟩
              clear hK K
              try dsimp only [Act.put]
              try simp only [Act.put, List.setIfInBounds_toArray, List.set_cons_zero, List.set_cons_succ]
              refine' wpAnyH_take (i := 14) (oi := ?oi47) (v := ?v47) ?hi47 ?hs47 ?hf47 ?hr47 ?hQ47 ?hy47 ?hS47 ?rest47
              case hi47 => exact rfl
              case hs47 => kernel_rfl
              case hf47 => kernel_rfl
              case hr47 => kernel_rfl
              case hQ47 => exact fun _ _ _ h => h
              case hS47 => assumption
              case hy47 =>
                refine Or.inl ⟨by rfl, ?_⟩
                intro w hSw
                try dsimp only at hSw
                go_simp
                try with_reducible rfl
              try simp only [Act.put, List.setIfInBounds_toArray, List.set_cons_zero, List.set_cons_succ]
              refine' wpAnyH_take (i := 15) (oi := ?oi48) (v := ?v48) ?hi48 ?hs48 ?hf48 ?hr48 ?hQ48 ?hy48 ?hS48 ?rest48
              case hi48 => exact rfl
              case hs48 => kernel_rfl
              case hf48 => kernel_rfl
              case hr48 => kernel_rfl
              case hQ48 => exact fun _ _ _ h => h
              case hS48 => assumption
              case hy48 =>
                refine Or.inl ⟨by rfl, ?_⟩
                intro w hSw
                try dsimp only at hSw
                go_simp
                try with_reducible rfl
              try simp only [Act.put, List.setIfInBounds_toArray, List.set_cons_zero, List.set_cons_succ]
              refine wpAnyH_done (by kernel_rfl) ?_ _
              simp only [List.getElem_toArray, List.getElem_cons_succ, List.getElem_cons_zero, Act.put, List.setIfInBounds_toArray, List.set_cons_zero, List.set_cons_succ]
              go_wp2_with fail
              go_ret2
              exact ⟨_, _, _, _, rfl, HA18.out, HN18.out, HLA.out, HLB.out, grown_trans HG0.out HG18.out⟩
            exact AllReadyH.nil
          exact AllReadyH.nil
        exact AllReadyH.nil
      refine' AllReadyH.cons (o := ?o49) ?ho49 ?h49 ?hs49
      case ho49 => exact rfl
      case h49 =>
        intro K hK
        go_simp
        have hn19 := RunB.new wD ⟨item, rh, rn⟩
        have ga19 := World.grownBy_alloc wD (.cells #[.int .i64 item, .int .i64 rh, .int .i64 rn] 95) none
        simp only at hn19
        generalize hw19 : wD.alloc (.cells #[.int .i64 item, .int .i64 rh, .int .i64 rn] 95 (0, 0)) = W19 at hn19 ga19 ⊢
        have HN19 := Lib.hid hn19
        have HG19 := Lib.hid (grown_trans HGD.out ga19)
        have HL719 := Lib.hid (HL7.out.grow ga19)
        have HH819 := Lib.hid (HH8.out.grow ga19)
        clear hn19 ga19 hw19
        refine hK.out _ _ ?_ (fun hHeld => ?_)
        · exact ⟨HL719.out.at, HH819.out.at⟩
        clear hK K
        try dsimp only [Act.put]
        try simp only [Act.put, List.setIfInBounds_toArray, List.set_cons_zero, List.set_cons_succ]
        refine wpAnyH_ready (rs := [5]) (by kernel_rfl) (by simp) ?_
        refine' AllReadyH.cons (o := ?o50) ?ho50 ?h50 ?hs50
        case ho50 => exact rfl
        case h50 =>
          intro K hK
          go_simp
          have hn20 := RunB.new W19 ⟨rl, item, rn⟩
          have ga20 := World.grownBy_alloc W19 (.cells #[.int .i64 rl, .int .i64 item, .int .i64 rn] 95) none
          simp only at hn20
          generalize hw20 : W19.alloc (.cells #[.int .i64 rl, .int .i64 item, .int .i64 rn] 95 (0, 0)) = W20 at hn20 ga20 ⊢
          have HN20 := Lib.hid hn20
          have HG20 := Lib.hid (grown_trans HG19.out ga20)
          have HL720 := Lib.hid (HL719.out.grow ga20)
          have HH820 := Lib.hid (HH819.out.grow ga20)
          have HB820 := Lib.hid (HN19.out.grow ga20)
          clear hn20 ga20 hw20
          refine hK.out _ _ ?_ (fun hHeld => ?_)
          · exact ⟨HL720.out.at, HH820.out.at⟩
          clear hK K
          try dsimp only [Act.put]
          try simp only [Act.put, List.setIfInBounds_toArray, List.set_cons_zero, List.set_cons_succ]
          refine wpAnyH_ready (rs := [6]) (by kernel_rfl) (by simp) ?_
          refine' AllReadyH.cons (o := ?o51) ?ho51 ?h51 ?hs51
          case ho51 => exact rfl
          case h51 =>
            intro K hK
            obtain ⟨g21, c21, W21, hr21, hn21, ga21⟩ := low_run (HUL.out.grow (grown_trans HG0.out HG20.out)) HKL.out (by omega) HN20.out
            refine step_append_run rfl _ _ _ _ rfl _ _ (by rfl) (by rfl) _ _ (hr21 _) ?_
            show K (Act.put _ (some 50) _) _
            have HN21 := Lib.hid hn21
            have HG21 := Lib.hid (grown_trans HG20.out ga21)
            have HL721 := Lib.hid (HL720.out.grow ga21)
            have HH821 := Lib.hid (HH820.out.grow ga21)
            have HB821 := Lib.hid (HB820.out.grow ga21)
            have HB521 := Lib.hid (HN20.out.grow ga21)
            clear hn21 ga21 hr21
            refine hK.out _ _ ?_ (fun hHeld => ?_)
            · exact ⟨HL721.out.at, HH821.out.at⟩
            clear hK K
            try dsimp only [Act.put]
            try simp only [Act.put, List.setIfInBounds_toArray, List.set_cons_zero, List.set_cons_succ]
            refine wpAnyH_ready (rs := [13]) (by kernel_rfl) (by simp) ?_
            refine' AllReadyH.cons (o := ?o52) ?ho52 ?h52 ?hs52
            case ho52 => exact rfl
            case h52 =>
              intro K hK
              obtain ⟨g22, c22, W22, hr22, hn22, ga22⟩ := high_run (HUH.out.grow (grown_trans HG0.out HG21.out)) HKH.out (by omega) HB821.out
              refine step_append_run rfl _ _ _ _ rfl _ _ (by rfl) (by rfl) _ _ (hr22 _) ?_
              show K (Act.put _ (some 57) _) _
              have HN22 := Lib.hid hn22
              have HG22 := Lib.hid (grown_trans HG21.out ga22)
              have HL722 := Lib.hid (HL721.out.grow ga22)
              have HH822 := Lib.hid (HH821.out.grow ga22)
              have HB822 := Lib.hid (HB821.out.grow ga22)
              have HB522 := Lib.hid (HB521.out.grow ga22)
              have HA22 := Lib.hid (HN21.out.grow ga22)
              clear hn22 ga22 hr22
              refine hK.out _ _ ?_ (fun hHeld => ?_)
              · exact ⟨HL722.out.at, HH822.out.at⟩
              clear hK K
              try dsimp only [Act.put]
              try simp only [Act.put, List.setIfInBounds_toArray, List.set_cons_zero, List.set_cons_succ]
              refine' wpAnyH_take (i := 14) (oi := ?oi53) (v := ?v53) ?hi53 ?hs53 ?hf53 ?hr53 ?hQ53 ?hy53 ?hS53 ?rest53
              case hi53 => exact rfl
              case hs53 => kernel_rfl
              case hf53 => kernel_rfl
              case hr53 => kernel_rfl
              case hQ53 => exact fun _ _ _ h => h
              case hS53 => assumption
              case hy53 =>
                refine Or.inl ⟨by rfl, ?_⟩
                intro w hSw
                try dsimp only at hSw
                go_simp
                try with_reducible rfl
              try simp only [Act.put, List.setIfInBounds_toArray, List.set_cons_zero, List.set_cons_succ]
              refine' wpAnyH_take (i := 15) (oi := ?oi54) (v := ?v54) ?hi54 ?hs54 ?hf54 ?hr54 ?hQ54 ?hy54 ?hS54 ?rest54
              case hi54 => exact rfl
              case hs54 => kernel_rfl
              case hf54 => kernel_rfl
              case hr54 => kernel_rfl
              case hQ54 => exact fun _ _ _ h => h
              case hS54 => assumption
              case hy54 =>
                refine Or.inl ⟨by rfl, ?_⟩
                intro w hSw
                try dsimp only at hSw
                go_simp
                try with_reducible rfl
              try simp only [Act.put, List.setIfInBounds_toArray, List.set_cons_zero, List.set_cons_succ]
              refine wpAnyH_done (by kernel_rfl) ?_ _
              simp only [List.getElem_toArray, List.getElem_cons_succ, List.getElem_cons_zero, Act.put, List.setIfInBounds_toArray, List.set_cons_zero, List.set_cons_succ]
              go_wp2_with fail
              go_ret2
              exact ⟨_, _, _, _, rfl, HA22.out, HN22.out, HLA.out, HLB.out, grown_trans HG0.out HG22.out⟩
            exact AllReadyH.nil
          exact AllReadyH.nil
        exact AllReadyH.nil
      exact AllReadyH.nil
end
end Go.Proofs.Ytfmihbiongnpnaa
