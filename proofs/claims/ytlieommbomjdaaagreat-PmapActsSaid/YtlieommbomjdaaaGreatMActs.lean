/- PmapActs, walked out of what package pmap says. -/
import Derived.Test.YtlieommbomjdaaaGreatMB5
import Derived.Deep.CutBlock
import Derived.Deep.DeepCutAuto
namespace Go.Proofs.YtlieommbomjdaaaGreat
open Go.ChangeShapes Go.WideShapes Go.ChangeAt Go.RowKit Go.Deep
set_option linter.unusedVariables false

/-- What the law's loops have: the spaces l, in both; the rows tv and ov of them. -/
structure AW (S : SpP) (w wr : World) (m d n p rb fb : Nat) (R : List Nat) (pb : Nat) (tv ov : Value) (W : WoF) (xs : List FrV) (l : List Sp7) : Prop where
  all : All7 S w wr m d n p rb fb R pb (tv.ownBlock.toList ++ ov.ownBlock.toList) W xs l W xs l
  ms : MSt n W xs l
  t : PRow 37 wr w.heap.size tv (l.map Sp7.x)
  o : PRow 41 wr w.heap.size ov (l.map Sp7.y)
  sep : ∀ b, tv.ownBlock = some b → ov.ownBlock ≠ some b
/-- .. with one space more, the rows a piece behind: tv has had it, ov not yet. -/
structure AWt (S : SpP) (w wr : World) (m d n p rb fb : Nat) (R : List Nat) (pb : Nat) (tv ov : Value) (W : WoF) (xs : List FrV) (l : List Sp7) (ps qs : List Nat) : Prop where
  all : All7 S w wr m d n p rb fb R pb (tv.ownBlock.toList ++ ov.ownBlock.toList) W xs l W xs l
  ms : MSt n W xs l
  t : PRow 37 wr w.heap.size tv ps
  o : PRow 41 wr w.heap.size ov qs
  sep : ∀ b, tv.ownBlock = some b → ov.ownBlock ≠ some b
section
variable {S : SpP} {Z : World → Nat → List Nat → Prop} {w wr w9 : World} {m d n p rb fb : Nat} {R : List Nat} {pb : Nat} {tv ov : Value} {W : WoF} {xs : List FrV} {l : List Sp7} {ps qs : List Nat} {x y g cap N : Nat}
theorem AWt.addT (H : PmOk S Z) (h : AWt S w wr m d n p rb fb R pb tv ov W xs l ps qs) (h9 : PRow 37 w9 w.heap.size (.slice (some ⟨g, 0, none⟩) N cap) (ps ++ [x])) (g9 : (wr.alloc (.cells #[.pointer (some ⟨x, 0, none⟩)] 37)).grownBy w9 tv.ownBlock) (hat : tv.ownBlock = some g ∨ wr.heap.size ≤ g) :
    AWt S w w9 m d n p rb fb R pb (.slice (some ⟨g, 0, none⟩) N cap) ov W xs l (ps ++ [x]) qs := by
  have hT := turn_app g9
  have hlt9 := h9.lt (g := g) rfl
  refine ⟨h.all.turnB H hT (fun b hb => by simp [hb]) fun b hb => ?_, h.ms, h9, h.o.kept fun b hb => ?_, fun b hb e => ?_⟩
  · rcases List.mem_append.1 hb with hb | hb
    · obtain rfl : b = g := by simpa [Value.ownBlock] using hb
      refine ⟨?_, hlt9.2⟩
      rcases hat with e | e
      · exact .inl (by simp [e])
      · exact .inr e
    · have hb2 : ov.ownBlock = some b := by simpa using hb
      exact ⟨.inl (by simp [hb2]), Nat.lt_of_lt_of_le (h.o.lt hb2).2 hT.size⟩
  · refine hT.block b (h.o.lt hb).2 fun hm => ?_
    have : tv.ownBlock = some b := by simpa using hm
    exact h.sep b this hb
  · have hbg : g = b := by simpa [Value.ownBlock] using hb
    subst hbg
    rcases hat with e2 | e2
    · exact h.sep g e2 e
    · have := (h.o.lt e).2; omega
theorem AWt.addO (H : PmOk S Z) (h : AWt S w wr m d n p rb fb R pb tv ov W xs l ps qs) (h9 : PRow 41 w9 w.heap.size (.slice (some ⟨g, 0, none⟩) N cap) (qs ++ [y])) (g9 : (wr.alloc (.cells #[.pointer (some ⟨y, 0, none⟩)] 41)).grownBy w9 ov.ownBlock) (hat : ov.ownBlock = some g ∨ wr.heap.size ≤ g) :
    AWt S w w9 m d n p rb fb R pb tv (.slice (some ⟨g, 0, none⟩) N cap) W xs l ps (qs ++ [y]) := by
  have hT := turn_app g9
  have hlt9 := h9.lt (g := g) rfl
  refine ⟨h.all.turnB H hT (fun b hb => by simp [hb]) fun b hb => ?_, h.ms, h.t.kept fun b hb => ?_, h9, fun b hb e => ?_⟩
  · rcases List.mem_append.1 hb with hb | hb
    · have hb2 : tv.ownBlock = some b := by simpa using hb
      exact ⟨.inl (by simp [hb2]), Nat.lt_of_lt_of_le (h.t.lt hb2).2 hT.size⟩
    · obtain rfl : b = g := by simpa [Value.ownBlock] using hb
      refine ⟨?_, hlt9.2⟩
      rcases hat with e | e
      · exact .inl (by simp [e])
      · exact .inr e
  · refine hT.block b (h.t.lt hb).2 fun hm => ?_
    have : ov.ownBlock = some b := by simpa using hm
    exact h.sep b hb this
  · have hbg : g = b := by simpa [Value.ownBlock] using e
    subst hbg
    rcases hat with e2 | e2
    · exact h.sep g hb e2
    · have := (h.t.lt hb).2; omega
end
theorem all7_start {S : SpP} {w wc wd we : World} {m d n p rb fb pb gb c : Nat} {O R : List Nat} {M : List UInt8} (hP : PM w wc m d n p O (wordI n M) (List.replicate n zeroF)) (hR : RS wc wd rb fb n R M) (hQ : RP we pb 0 (List.replicate n zeroF) gb c) (ge : wd.grownBy we none) (hpg : ∀ b, b ∈ [pb, gb] → wd.heap.size ≤ b) :
    All7 S w we m d n p rb fb R pb [] (wordI n M) (List.replicate n zeroF) [] (wordI n M) (List.replicate n zeroF) [] := by
  have g1 : wc.grownBy wd none := grown_of_below' hR.below
  have hlt := hP.lt
  have hw := hP.below.size
  have hrb := hR.rge
  have hfb := hR.fge
  have hRg := hR.Rge
  have h1 := g1.size
  refine ⟨O, gb, ⟨hP.grow (grown_trans g1 ge), fun q hq => (List.not_mem_nil hq).elim, fun q hq => (List.not_mem_nil hq).elim, fun q hq => (List.not_mem_nil hq).elim, fun i j q q' hi => by simp at hi⟩,
    ⟨⟨⟨M, c, (hR.grow ge).lower hP.below, rfl, hQ⟩, goods_new n, List.length_replicate, by have := hpg pb (by simp); omega, fun b hb hm => ?_⟩, fun q hq => (List.not_mem_nil hq).elim, fun q hq => (List.not_mem_nil hq).elim, fun q hq => (List.not_mem_nil hq).elim, fun i j q q' hi => by simp at hi⟩, fun b hb hm => ?_, fun b hb => (List.not_mem_nil hb).elim⟩
  · have h2 := hpg b hb
    simp only [List.mem_cons] at hm
    rcases hm with rfl | rfl | hm
    · have := hR.mem.rlt; omega
    · have := hR.mem.flt; omega
    · have := hR.mem.Rlt b hm; omega
  · have hbl : b < wc.heap.size := by
      rcases PB_mem.1 hm with e | e | e | ⟨q, hq, _⟩
      · exact hlt b (by simp [e])
      · exact hlt b (by simp [e])
      · exact hlt b (by simp [e])
      · exact (List.not_mem_nil hq).elim
    rcases DB_mem.1 hb with e | ⟨q, hq, _⟩
    · simp only [List.mem_cons] at e
      rcases e with rfl | rfl | rfl | rfl | e
      · have := hpg b (by simp); omega
      · have := hpg b (by simp); omega
      · omega
      · omega
      · have := hRg b e; omega
    · exact (List.not_mem_nil hq).elim
theorem eql_pm_nil (w : World) (a : Addr) : (binOp .eql 37 (.pointer (some a)) (.pointer none)).run Tryz.prog w = .ok (.bool false) w := by
  have h1 : ∀ d : Nat, (Op.equalIn (d + 1) 37 (.pointer (some a)) (.pointer none)).run Tryz.prog w = .ok false w := fun d => by
    simp [Op.equalIn, run_underlying Tryz.underlying37]
  simp only [binOp]
  simp [Op.equal, Op.maxDepth, h1 9999]
theorem eql_rm_nil (w : World) (a : Addr) : (binOp .eql 41 (.pointer (some a)) (.pointer none)).run Tryz.prog w = .ok (.bool false) w := by
  have h1 : ∀ d : Nat, (Op.equalIn (d + 1) 41 (.pointer (some a)) (.pointer none)).run Tryz.prog w = .ok false w := fun d => by
    simp [Op.equalIn, run_underlying Tryz.underlying41]
  simp only [binOp]
  simp [Op.equal, Op.maxDepth, h1 9999]
theorem neq_rm_nil (w : World) (a : Addr) : (binOp .neq 41 (.pointer (some a)) (.pointer none)).run Tryz.prog w = .ok (.bool true) w := by
  have h1 : ∀ d : Nat, (Op.equalIn (d + 1) 41 (.pointer (some a)) (.pointer none)).run Tryz.prog w = .ok false w := fun d => by
    simp [Op.equalIn, run_underlying Tryz.underlying41]
  simp only [binOp]
  simp [Op.equal, Op.maxDepth, h1 9999]
theorem eql_mem_nil (w : World) (a : Addr) : (binOp .eql 27 (.pointer (some a)) (.pointer none)).run Tryz.prog w = .ok (.bool false) w := by
  have h1 : ∀ d : Nat, (Op.equalIn (d + 1) 27 (.pointer (some a)) (.pointer none)).run Tryz.prog w = .ok false w := fun d => by
    simp [Op.equalIn, run_underlying Tryz.underlying27]
  simp only [binOp]
  simp [Op.equal, Op.maxDepth, h1 9999]
theorem eql_pm_nn (w : World) : (binOp .eql 37 (.pointer none) (.pointer none)).run Tryz.prog w = .ok (.bool true) w := by kernel_rfl
theorem eql_rm_nn (w : World) : (binOp .eql 41 (.pointer none) (.pointer none)).run Tryz.prog w = .ok (.bool true) w := by kernel_rfl
theorem neq_rm_nn (w : World) : (binOp .neq 41 (.pointer none) (.pointer none)).run Tryz.prog w = .ok (.bool false) w := by kernel_rfl

set_option maxRecDepth 100000 in
set_option maxHeartbeats 8000000 in
theorem acts7_walk {S : SpP} {Z : World → Nat → List Nat → Prop} (H : PmOk S Z) (w : World) (F0 P0 : Int) (sv : Option Addr) (la ca : Nat) (As : List A7) (hA : A7sAre w sv la As) (hF : okI F0) (hP : okI P0) :
    Calls Tryz.prog 3 #[.agg #[.int .i64 F0, .int .i64 P0], .slice sv la ca] w fun e w' => e = .returned (.bool true) ∧ w.grownBy w' none := by
  have HH := Lib.hid H
  have HL := Lib.hid (lives7 H)
  have HAs := Lib.hid hA
  have hlen := hA.len
  have ga := World.grownBy_alloc w (.cells #[.int .i64 F0, .int .i64 P0] 23 (0, 0)) none
  have hb := heap_alloc_new w (.cells #[.int .i64 F0, .int .i64 P0] 23 (0, 0))
  have c0 : (w.alloc (.cells #[.int .i64 F0, .int .i64 P0] 23 (0, 0))).cell? ⟨w.heap.size, 0, none⟩ = some (.int .i64 F0) := by rw [cell_of_row _ _ _ _ _ _ hb]; rfl
  have c1 : (w.alloc (.cells #[.int .i64 F0, .int .i64 P0] 23 (0, 0))).cell? ⟨w.heap.size, 1, none⟩ = some (.int .i64 P0) := by rw [cell_of_row _ _ _ _ _ _ hb]; rfl
  have hu1 : IntKind.u64.wrap F0 = F0 % 18446744073709551616 := IntKind.wrap_u64 F0
  have hu2 : IntKind.u64.wrap P0 = P0 % 18446744073709551616 := IntKind.wrap_u64 P0
  have HG := Lib.hid ga
  have b1 : 0 ≤ F0 % 18446744073709551616 := by omega
  have b2 : 0 ≤ P0 % 18446744073709551616 := by omega
  obtain ⟨n, hn⟩ : ∃ n : Nat, 1 + F0 % 18446744073709551616 % 24 = (n : Int) := ⟨(1 + F0 % 18446744073709551616 % 24).toNat, by omega⟩
  obtain ⟨k, hk⟩ : ∃ k : Nat, 1 + P0 % 18446744073709551616 % 3 = (k : Int) := ⟨(1 + P0 % 18446744073709551616 % 3).toNat, by omega⟩
  have hn1 : 1 ≤ n := by omega
  have hn2 : n ≤ 24 := by omega
  have hk1 : 1 ≤ k := by omega
  have hk2 : k ≤ 3 := by omega
  clear ga hb H hA
  by_cases h40 : (la : Int) > 40
  · have d0 : decide ((la : Int) > 40) = true := by simpa using h40
    clear h40
    go_enter Tryz.func3, Tryz.ntmps3
    go_wp2_with fail
    go_quiet (fail)
    have HGd := Lib.hid (grown_trans HG.out (grown_drewN _ nq none))
    go_wp2_with fail
    refine (HL.out _).mono ?_
    rintro e w9 ⟨rfl, g9⟩
    have HG9 := Lib.hid (grown_trans HGd.out g9)
    clear g9
    go_wp2_with fail
    go_ret
    exact ⟨rfl, HG9.out⟩
  · have d0 : decide ((la : Int) > 40) = false := by simpa using h40
    have hla : la ≤ 40 := by omega
    clear h40
    go_enter Tryz.func3, Tryz.ntmps3
    go_wp2_with fail
    go_quiet (fail)
    have HGd := Lib.hid (grown_trans HG.out (grown_drewN _ nq none))
    generalize (w.alloc (.cells #[.int .i64 F0, .int .i64 P0] 23 (0, 0))).drewN nq = wa at *
    have HN := Lib.hid (newE w (below_of_grown HGd.out (Nat.le_refl _) (by simp)) (n : Int) n rfl hn1 (by omega))
    have HRn := Lib.hid (fun W => rnew_ok n W hn1 (by omega))
    have HRp := Lib.hid (fun W => ref_new_ok n 0 W hn1 (by omega) (by omega) (by omega))
    have HMst := Lib.hid (fun W => mst_nil n (by omega) W)
    have hq1 := eql_mem_nil
    have hq2 := eql_pool_nil
    obtain ⟨M, hM⟩ : ∃ M : List UInt8, List.replicate (n * 4096) 0 = M := ⟨_, rfl⟩
    rw [hM] at HN
    have HM := Lib.hid hM
    have HWa := Lib.hid HGd.out
    clear hM HG HGd c0 c1 hu1 hu2
    go_wp2_with fail
    refine HN.out.mono ?_
    rintro e wb ⟨rfl, h1, g1⟩
    have HP := Lib.hid (pm_start h1 hn1 (by omega) (n : Int) rfl)
    generalize wa.heap.size + 1 = m at *
    generalize wa.heap.size = d at *
    clear h1 g1 HN
    go_wp2_with fail
    refine HP.out.mono ?_
    rintro e wc ⟨p, O, rfl, h2, -, -⟩
    have H2 := Lib.hid h2
    clear h2 HP
    go_wp2_with fail
    refine (HRn.out _).mono ?_
    rintro e wd ⟨rfl, R, vR, hNW⟩
    obtain ⟨fb, hRS⟩ := hNW.rs (Below.refl _ wc) hn1 (by omega)
    rw [HM.out] at hRS
    have HRS := Lib.hid hRS
    generalize wc.heap.size = rb at *
    clear hNW hRS HRn
    go_wp2_with fail
    refine (HRp.out _).mono ?_
    rintro e we ⟨pb, gb, c, rfl, hQ, gQ, hpg⟩
    have HA0 := Lib.hid (show AW S w we m d n p rb fb R pb (.slice none 0 0) (.slice none 0 0) (wordI n M) (List.replicate n zeroF) [] from
      ⟨(all7_start H2.out HRS.out hQ gQ hpg).fresh HH.out (grown_refl _ _) (fun b hb => by simp [Value.ownBlock] at hb), HMst.out _, PRow.nil _ _ _, PRow.nil _ _ _, fun b hb => by simp [Value.ownBlock] at hb⟩)
    clear hQ gQ hpg HRp H2 HRS HMst HM
    go_wp2_with fail
    have g1 := eql_pm_nil
    have g2 := eql_rm_nil
    have g3 := neq_rm_nil
    have g4 := eql_pm_nn
    have g5 := eql_rm_nn
    have g6 := neq_rm_nn
    go_loopw [11, 12, 13, 14, 15, 16, 17] (fun tv ov iv _ _ _ _ wr => ∃ (i : Nat) (W : WoF) (xs : List FrV) (l : List Sp7), i ≤ k ∧ iv = .int .i64 i ∧ l.length ≤ i ∧ Hid (AW S w wr m d n p rb fb R pb tv ov W xs l) ∧ Hid (∀ q, q ∈ l → q.a ≤ i)) (fun _ _ iv _ _ _ _ _ => k - (intOf iv).toNat)
    case atStart => exact ⟨0, _, _, [], by omega, rfl, by simp, HA0, fun q hq => (List.not_mem_nil hq).elim⟩
    case round =>
      obtain ⟨i, W, xs, l, hi, rfl, hll, HW, HIa⟩ := hrel
      by_cases hlt : i < k
      · have ha : okI ((i : Int) + 1) := ⟨by omega, by omega⟩
        have hno : ∀ q, q ∈ l → q.a ≠ (i : Int) + 1 := fun q hq e => by have := HIa.out q hq; omega
        rcases HW.out.ms.new ha hno with e5 | ⟨kf, zs, hkf, et, hms⟩
        · have HC := Lib.hid (HW.out.all.newNo HH.out ha e5)
          have HE5 := Lib.hid e5
          have HOa := Lib.hid ha
          clear e5 hno ha
          go_wp2_with fail
          refine HC.out.mono ?_
          rintro e w4 ⟨rfl, h4, k4⟩
          have HD := Lib.hid (h4.dnewNo HH.out HOa.out HE5.out)
          have HT4 := Lib.hid (HW.out.t.kept (w' := w4) fun b hb => k4 b (by simp [hb]))
          have HO4 := Lib.hid (HW.out.o.kept (w' := w4) fun b hb => k4 b (by simp [hb]))
          clear h4 k4 HC
          go_wp2_with fail
          refine HD.out.mono ?_
          rintro e w5 ⟨rfl, h5, k5⟩
          have HW5 := Lib.hid (show AW S w w5 m d n p rb fb R pb u11 u12 W xs l from ⟨h5, HW.out.ms, HT4.out.kept fun b hb => k5 b (by simp [hb]), HO4.out.kept fun b hb => k5 b (by simp [hb]), HW.out.sep⟩)
          clear h5 k5 HD
          go_wp2_with fail
          go_roundw
          case rel => exact ⟨i + 1, W, xs, l, by omega, by go_num, by omega, HW5, fun q hq => by have := HIa.out q hq; omega⟩
          case measure => simp [intOf]; omega
        · have HC := Lib.hid (HW.out.all.newOk HH.out HW.out.ms.ok ha hkf et)
          have HEt := Lib.hid et
          have HOa := Lib.hid ha
          have HMs := Lib.hid hms
          clear et hno ha hms
          go_wp2_with fail
          refine HC.out.mono ?_
          rintro e w4 ⟨x, OX, rfl, h4, k4⟩
          have HD := Lib.hid (All7.dnewOk HH.out h4 HOa.out hkf HEt.out)
          have HT4 := Lib.hid (HW.out.t.kept (w' := w4) fun b hb => k4 b (by simp [hb]))
          have HO4 := Lib.hid (HW.out.o.kept (w' := w4) fun b hb => k4 b (by simp [hb]))
          clear h4 k4 HC
          go_wp2_with fail
          refine HD.out.mono ?_
          rintro e w5 ⟨y, rfl, h5, k5⟩
          have HW5 := Lib.hid (show AWt S w w5 m d n p rb fb R pb u11 u12 (zeroW W kf) zs (l ++ [⟨x, OX, y, (i : Int) + 1, kf, 1⟩]) (l.map Sp7.x) (l.map Sp7.y) from ⟨h5, HMs.out x OX y, HT4.out.kept fun b hb => k5 b (by simp [hb]), HO4.out.kept fun b hb => k5 b (by simp [hb]), HW.out.sep⟩)
          have hsz5 := h5.low.size
          have hlm : (l.map Sp7.x).length ≤ 1000000 := by rw [List.length_map]; omega
          have hlm2 : (l.map Sp7.y).length ≤ 1000000 := by rw [List.length_map]; omega
          clear h5 k5 HD
          go_wp2_with (at_builtin; first
            | (refine wpList_ptr Tryz.underlying35 info_pm w5 rfl _ _ rfl w.heap.size _ (l.map Sp7.x) x (by rfl) HW5.out.t w5.heap.size _ (by rfl) rfl hlm hsz5 ?_; intro g9 cap9 w9 hown9 hg9 hat9; have HW9 := Lib.hid (HW5.out.addT HH.out hown9 hg9 hat9); have hsz9 := HW9.out.all.low.size; clear hown9 hg9 hat9)
            | (refine wpList_ptr Tryz.underlying36 info_rm w9 rfl _ _ rfl w.heap.size _ (l.map Sp7.y) y (by rfl) HW9.out.o w9.heap.size _ (by rfl) rfl hlm2 hsz9 ?_; intro g8 cap8 w8 hown8 hg8 hat8; have HW8 := Lib.hid (HW9.out.addO HH.out hown8 hg8 hat8); clear hown8 hg8 hat8))
          go_roundw
          case rel =>
            refine ⟨i + 1, zeroW W kf, zs, l ++ [⟨x, OX, y, (i : Int) + 1, kf, 1⟩], by omega, by go_num, by rw [List.length_append, List.length_singleton]; omega, ?_, ?_⟩
            · exact ⟨HW8.out.all, HW8.out.ms, by have h := HW8.out.t; rw [List.length_map] at h; rw [List.map_append]; exact h, by have h := HW8.out.o; rw [List.length_map] at h; rw [List.map_append]; exact h, HW8.out.sep⟩
            · intro q hq
              rcases List.mem_append.1 hq with hq | hq
              · have := HIa.out q hq; omega
              · obtain rfl := List.mem_singleton.1 hq
                show (i : Int) + 1 ≤ ((i + 1 : Nat) : Int)
                omega
          case measure => simp [intOf]; omega
      · obtain rfl : i = k := by omega
        have hsz0 := HW.out.all.low.size
        obtain ⟨st, ct, et, -⟩ := HW.out.t.form
        obtain ⟨so, co, eo, -⟩ := HW.out.o.form
        rw [List.length_map] at et eo
        subst et
        subst eo
        obtain ⟨L, hL⟩ : ∃ L, l.length = L := ⟨_, rfl⟩
        rw [hL] at HW hll
        rw [hL]
        have HL0 := Lib.hid hL
        have hL3 : L ≤ 3 := by omega
        clear hL HIa
        go_wp2_with fail
        go_loopw [19, 20, 21, 22, 23, 24, 25, 26, 27, 102] (fun _ _ _ _ _ _ _ _ _ jv wx => ∃ (j : Nat) (W : WoF) (xs : List FrV) (l2 : List Sp7), j ≤ la ∧ jv = .int .i64 j ∧ l2.length = L ∧ Hid (AW S w wx m d n p rb fb R pb (.slice st L ct) (.slice so L co) W xs l2)) (fun _ _ _ _ _ _ _ _ _ jv _ => la - (intOf jv).toNat)
        case atStart => exact ⟨0, W, xs, l, by omega, rfl, HL0.out, HW⟩
        case round =>
          obtain ⟨j, W2, xs2, l2, hj, rfl, hl2, HJ⟩ := hrel
          by_cases hlt : j < la
          · obtain ⟨A, hAj⟩ : ∃ A, As[j]? = some A := ⟨_, List.getElem?_eq_getElem (by omega)⟩
            obtain ⟨ga, oa, hsv, y0, y1, y2, y3, y4⟩ := HAs.out.at HJ.out.all.low hAj
            subst hsv
            have HOk := Lib.hid (HAs.out.ok A (List.mem_of_getElem? hAj))
            obtain ⟨ak, sn, av, aa, ab⟩ := A
            simp only at y0 y1 y2 y3 y4
            by_cases hL0 : L = 0
            · have dL : ((L : Int) == 0) = true := by simp; omega
              have hsL := hl2
              clear hl2
              have HLL := Lib.hid hsL
              clear hsL
              have HX0 := Lib.hid (CW.grow HH.out (show CW S w wr m d n p rb fb R pb (.slice st L ct) (.slice so L co) W2 xs2 l2 0 from ⟨HJ.out.all, HJ.out.ms, HJ.out.t, HJ.out.o⟩) (World.grownBy_alloc wr (.cells #[.int .i64 ak, .int .i64 sn, .int .i64 av, .int .i64 aa, .int .i64 ab] 45 (0, 0)) none))
              clear HJ
              go_wp2_with fail
              go_loopw [28, 242] (fun _ iv wx => ∃ (i2 : Nat) (xs3 : List FrV), i2 ≤ L ∧ iv = .int .i64 i2 ∧ Hid (CW S w wx m d n p rb fb R pb (.slice st L ct) (.slice so L co) W2 xs3 l2 i2)) (fun _ iv _ => L - (intOf iv).toNat)
              case atStart => exact ⟨0, xs2, by omega, rfl, HX0⟩
              case round =>
                obtain ⟨i2, xs3, hi2, rfl, HCw⟩ := hrel
                by_cases hlt3 : i2 < L
                · exfalso; omega
                · obtain rfl : i2 = L := by omega
                  have hfr := HCw.out.all.free
                  have hz := HCw.out.ms
                  rw [List.drop_eq_nil_of_le (Nat.le_of_eq HLL.out)] at hz
                  rw [hz.free] at hfr
                  have HFr := Lib.hid hfr
                  have HLo := Lib.hid HCw.out.low
                  clear hfr hz
                  go_wp2_with fail
                  refine HFr.out.mono ?_
                  rintro e wf ⟨rfl, gf⟩
                  have HLf := Lib.hid (grown_trans HLo.out gf)
                  clear gf
                  go_wp2_with fail
                  refine (HL.out _).mono ?_
                  rintro e wg ⟨rfl, gg⟩
                  have HLg := Lib.hid (grown_trans HLf.out gg)
                  clear gg
                  go_wp2_with fail
                  go_ret
                  exact ⟨rfl, HLg.out⟩
            · have dL : ((L : Int) == 0) = false := by simp; omega
              have hu3 : IntKind.u64.wrap sn = sn % 18446744073709551616 := IntKind.wrap_u64 sn
              have b3 : 0 ≤ sn % 18446744073709551616 := by omega
              obtain ⟨ix, hix⟩ : ∃ ix : Nat, sn % 18446744073709551616 % (L : Int) = (ix : Int) := ⟨(sn % 18446744073709551616 % (L : Int)).toNat, by have := Int.emod_nonneg (sn % 18446744073709551616) (show (L : Int) ≠ 0 by omega); omega⟩
              have hixL : ix < L := by have := Int.emod_lt_of_pos (sn % 18446744073709551616) (show (0 : Int) < L by omega); omega
              have q0 : 0 ≤ sn % 18446744073709551616 % (L : Int) := by omega
              have q1 : sn % 18446744073709551616 % (L : Int) ≤ 9223372036854775807 := by omega
              obtain ⟨q, hq⟩ : ∃ q, l2[ix]? = some q := ⟨_, List.getElem?_eq_getElem (by omega)⟩
              have HQ := Lib.hid hq
              have hBn : A7B (wr.alloc (.cells #[.int .i64 ak, .int .i64 sn, .int .i64 av, .int .i64 aa, .int .i64 ab] 45 (0, 0))) wr.heap.size ⟨ak, sn, av, aa, ab⟩ := heap_alloc_new wr _
              have gB := World.grownBy_alloc wr (.cells #[.int .i64 ak, .int .i64 sn, .int .i64 av, .int .i64 aa, .int .i64 ab] 45 (0, 0)) none
              have hsB := World.size_alloc wr (.cells #[.int .i64 ak, .int .i64 sn, .int .i64 av, .int .i64 aa, .int .i64 ab] 45 (0, 0))
              have HA1 := Lib.hid (HJ.out.all.fresh HH.out gB (B' := (Value.slice st L ct).ownBlock.toList ++ (Value.slice so L co).ownBlock.toList ++ [wr.heap.size]) fun b hb => by
                rcases List.mem_append.1 hb with hb | hb
                · refine ⟨.inl hb, ?_⟩
                  rcases List.mem_append.1 hb with hb | hb
                  · exact Nat.lt_of_lt_of_le (HJ.out.t.lt (by simpa using hb)).2 gB.size
                  · exact Nat.lt_of_lt_of_le (HJ.out.o.lt (by simpa using hb)).2 gB.size
                · obtain rfl := List.mem_singleton.1 hb
                  exact ⟨.inr (Nat.le_refl _), by omega⟩)
              have ht1 := HJ.out.t.grow gB
              have ho1 := HJ.out.o.grow gB
              obtain ⟨gt, egt, ctx⟩ := ht1.ptr (by rw [List.length_map]; omega) (show (l2.map Sp7.x)[ix]? = some q.x by rw [List.getElem?_map, hq]; rfl)
              obtain ⟨go', ego, cox⟩ := ho1.ptr (by rw [List.length_map]; omega) (show (l2.map Sp7.y)[ix]? = some q.y by rw [List.getElem?_map, hq]; rfl)
              have HT1 := Lib.hid ht1
              have HO1 := Lib.hid ho1
              have HMs := Lib.hid HJ.out.ms
              have HSep := Lib.hid HJ.out.sep
              have HBx := Lib.hid hBn
              have hBn0 := hBn
              obtain ⟨m0, m1, m2, m3, m4⟩ := hBn.at
              subst egt
              subst ego
              clear hq hBn gB hsB ht1 ho1 HJ
              go_wp2_with fail
              go_quiet (fail)
              clear m0 m1 m2 m3 m4
              have gq := grown_drewN (wr.alloc (.cells #[.int .i64 ak, .int .i64 sn, .int .i64 av, .int .i64 aa, .int .i64 ab] 45 (0, 0))) nq none
              have gq2 := grown_trans gq (grown_drew1 _)
              have HA4 := Lib.hid (HA1.out.grow HH.out gq2)
              have HT4 := Lib.hid (HT1.out.grow gq2)
              have HO4 := Lib.hid (HO1.out.grow gq2)
              have hb4 := HBx.out.grow gq2
              replace HBx := Lib.hid hb4
              have hk := hb4.at
              simp only at hk
              have hb3 := (hBn0.grow gq).at
              simp only at hb3
              have HB3 := Lib.hid hb3
              obtain ⟨m0, m1, m2, m3, m4⟩ := hb3
              generalize (wr.alloc (.cells #[.int .i64 ak, .int .i64 sn, .int .i64 av, .int .i64 aa, .int .i64 ab] 45 (0, 0))).drewN nq = w4 at *
              generalize wr.heap.size = Bx at *
              have hinv := HMs.out.inv HQ.out
              have HRr := Lib.hid (hinv.ok.lt hinv.root)
              have HNn := Lib.hid (show 0 ≤ q.N ∧ q.N ≤ 1000 by rw [show q.N = cntF xs2 q.a from hinv.N]; have := cnt_le xs2 q.a; have : xs2.length = n := hinv.ok.len; omega)
              have HC0 := Lib.hid (show ActAt S w w4 m d n p rb fb R pb (.slice (some ⟨gt, 0, none⟩) L ct) (.slice (some ⟨go', 0, none⟩) L co) Bx ⟨ak, sn, av, aa, ab⟩ W2 xs2 l2 from ⟨HA1.out.grow HH.out gq, HMs.out, HT1.out.grow gq, HO1.out.grow gq, HSep.out, hBn0.grow gq⟩)
              clear hinv gq gq2 hb4 hBn0 HA1 HT1 HO1
              go_upto_block 4 with fail
              clear m0 m1 m2 m3 m4
              go_cut [23] from 127 to 186 (fun okv w6 => okv = .bool true ∧ ∃ (S' : MS) (q5 : Sp7), q5.x = q.x ∧ q5.y = q.y ∧ q5.a = q.a ∧ q5.r = q.r ∧ q5.N = S'.N ∧ Hid (ActAt S w w6 m d n p rb fb R pb (.slice (some ⟨gt, 0, none⟩) L ct) (.slice (some ⟨go', 0, none⟩) L co) Bx ⟨ak, sn, av, aa, ab⟩ S'.W S'.xs (l2.set ix q5)))
              case first =>
                obtain ⟨m0, m1, m2, m3, m4⟩ := (show _ ∧ _ ∧ _ ∧ _ ∧ _ from HB3.out)
                rcases (show ak = 0 ∨ ak = 1 ∨ ak = 2 ∨ ak = 3 ∨ (ak ≠ 0 ∧ ak ≠ 1 ∧ ak ≠ 2 ∧ ak ≠ 3) by omega) with hkk | hkk | hkk | hkk | hkk
                · -- Enter
                  have b0 : (ak == 0) = true := by simp [hkk]
                  clear hkk
                  obtain ⟨E, hE⟩ : ∃ E, enterM n q.a q.r av aa ab ⟨W2, xs2, q.N⟩ = E := ⟨_, rfl⟩
                  obtain ⟨E1, S'⟩ := E
                  have hst : ∀ OX', MSt n S'.W S'.xs (l2.set ix ⟨q.x, OX', q.y, q.a, q.r, S'.N⟩) := fun OX' => by
                    have h0 := HMs.out.inv HQ.out
                    obtain ⟨o1, o2, o3⟩ := h0.ok.enterM_ok (v := av) h0.root aa ab
                    have o4 := h0.ok.enterM_cnt (v := av) h0.root aa ab
                    rw [hE] at o1 o2 o3 o4
                    exact HMs.out.step HQ.out o1 o2 o3 o4 rfl rfl rfl
                  have hpc := HA4.out.pcall HH.out HQ.out (fun O hx => HH.out.enter hx (HMs.out.inv HQ.out) av aa ab HOk.out.v HOk.out.a HOk.out.b)
                  rw [hE] at hpc
                  have HPc := Lib.hid hpc
                  have HSt := Lib.hid hst
                  have HEq := Lib.hid hE
                  clear hpc hst hE
                  go_wp2_with fail
                  go_region_held3 (fun W => (W.cell? ⟨Bx, 0, none⟩ = some (.int .i64 ak) ∧ W.cell? ⟨Bx, 1, none⟩ = some (.int .i64 sn) ∧ W.cell? ⟨Bx, 2, none⟩ = some (.int .i64 av) ∧ W.cell? ⟨Bx, 3, none⟩ = some (.int .i64 aa) ∧ W.cell? ⟨Bx, 4, none⟩ = some (.int .i64 ab))) (with_reducible exact hk)
                    (first
                      | (go_at_call 11; (with_reducible refine (HPc.out.mono ?_)); rintro e w5 ⟨rfl, OX', h5, k5⟩; have HA45 := Lib.hid h5; have HT45 := Lib.hid (HT4.out.kept (w' := w5) fun b hb => k5 b (by simp [hb])); have HO45 := Lib.hid (HO4.out.kept (w' := w5) fun b hb => k5 b (by simp [hb])); have hb5 : A7B w5 Bx ⟨ak, sn, av, aa, ab⟩ := (k5 Bx (by simp)).trans HBx.out; have HB5 := Lib.hid hb5; replace hk := hb5.at; clear h5 k5 hb5)
                      | (go_at_call 12; (with_reducible refine ((HA45.out.dcall (q' := ⟨q.x, OX', q.y, q.a, q.r, S'.N⟩) (s' := S') (V := .int .i64 E1) HH.out HQ.out rfl rfl rfl rfl (fun gb hx => by have h9 := dx_enter hx (HMs.out.inv HQ.out).a av aa ab HRr.out HNn.out; rw [HEq.out] at h9; exact h9)).mono ?_)); rintro e w6 ⟨rfl, h6, k6⟩; have HA5 := Lib.hid h6; have HT5 := Lib.hid (HT45.out.kept (w' := w6) fun b hb => k6 b (by simp [hb])); have HO5 := Lib.hid (HO45.out.kept (w' := w6) fun b hb => k6 b (by simp [hb])); have hb6 : A7B w6 Bx ⟨ak, sn, av, aa, ab⟩ := (k6 Bx (by simp)).trans HB5.out; replace hk := hb6.at; clear h6 k6))
                  all_goals
                    have HC := Lib.hid (show ActAt S w w6 m d n p rb fb R pb (.slice (some ⟨gt, 0, none⟩) L ct) (.slice (some ⟨go', 0, none⟩) L co) Bx ⟨ak, sn, av, aa, ab⟩ S'.W S'.xs (l2.set ix ⟨q.x, OX', q.y, q.a, q.r, S'.N⟩) from
                      ⟨HA5.out, HSt.out OX', by rw [map_set_x (q' := ⟨q.x, OX', q.y, q.a, q.r, S'.N⟩) HQ.out rfl]; exact HT5.out, by rw [map_set_y (q' := ⟨q.x, OX', q.y, q.a, q.r, S'.N⟩) HQ.out rfl]; exact HO5.out, HSep.out, hb6⟩)
                    clear hk
                    go_wp2_with fail
                    go_meet
                    case rel => exact ⟨rfl, S', ⟨q.x, OX', q.y, q.a, q.r, S'.N⟩, rfl, rfl, rfl, rfl, rfl, HC⟩
                · -- Remove
                  have b0 : (ak == 0) = false := by simp [hkk]
                  have b1 : (ak == 1) = true := by simp [hkk]
                  clear hkk
                  obtain ⟨E, hE⟩ : ∃ E, removeM n q.r av ⟨W2, xs2, q.N⟩ = E := ⟨_, rfl⟩
                  obtain ⟨E1, S'⟩ := E
                  have hst : ∀ OX', MSt n S'.W S'.xs (l2.set ix ⟨q.x, OX', q.y, q.a, q.r, S'.N⟩) := fun OX' => by
                    have h0 := HMs.out.inv HQ.out
                    obtain ⟨o1, o2, o3⟩ := h0.ok.removeM_ok (v := av) h0.root
                    have o4 := h0.ok.remove_cnt (v := av) h0.root
                    rw [hE] at o1 o2 o3 o4
                    exact HMs.out.step HQ.out o1 o2 o3 o4 rfl rfl rfl
                  have hpc := HA4.out.pcall HH.out HQ.out (fun O hx => HH.out.remove hx (HMs.out.inv HQ.out) av HOk.out.v)
                  rw [hE] at hpc
                  have HPc := Lib.hid hpc
                  have HSt := Lib.hid hst
                  have HEq := Lib.hid hE
                  clear hpc hst hE
                  go_wp2_with fail
                  go_region_held3 (fun W => (W.cell? ⟨Bx, 0, none⟩ = some (.int .i64 ak) ∧ W.cell? ⟨Bx, 1, none⟩ = some (.int .i64 sn) ∧ W.cell? ⟨Bx, 2, none⟩ = some (.int .i64 av) ∧ W.cell? ⟨Bx, 3, none⟩ = some (.int .i64 aa) ∧ W.cell? ⟨Bx, 4, none⟩ = some (.int .i64 ab))) (with_reducible exact hk)
                    (first
                      | (go_at_call 13; (with_reducible refine (HPc.out.mono ?_)); rintro e w5 ⟨rfl, OX', h5, k5⟩; have HA45 := Lib.hid h5; have HT45 := Lib.hid (HT4.out.kept (w' := w5) fun b hb => k5 b (by simp [hb])); have HO45 := Lib.hid (HO4.out.kept (w' := w5) fun b hb => k5 b (by simp [hb])); have hb5 : A7B w5 Bx ⟨ak, sn, av, aa, ab⟩ := (k5 Bx (by simp)).trans HBx.out; have HB5 := Lib.hid hb5; replace hk := hb5.at; clear h5 k5 hb5)
                      | (go_at_call 14; (with_reducible refine ((HA45.out.dcall (q' := ⟨q.x, OX', q.y, q.a, q.r, S'.N⟩) (s' := S') (V := .bool E1) HH.out HQ.out rfl rfl rfl rfl (fun gb hx => by have h9 := dx_remove hx av HRr.out HNn.out; rw [HEq.out] at h9; exact h9)).mono ?_)); rintro e w6 ⟨rfl, h6, k6⟩; have HA5 := Lib.hid h6; have HT5 := Lib.hid (HT45.out.kept (w' := w6) fun b hb => k6 b (by simp [hb])); have HO5 := Lib.hid (HO45.out.kept (w' := w6) fun b hb => k6 b (by simp [hb])); have hb6 : A7B w6 Bx ⟨ak, sn, av, aa, ab⟩ := (k6 Bx (by simp)).trans HB5.out; replace hk := hb6.at; clear h6 k6))
                  all_goals
                    have HC := Lib.hid (show ActAt S w w6 m d n p rb fb R pb (.slice (some ⟨gt, 0, none⟩) L ct) (.slice (some ⟨go', 0, none⟩) L co) Bx ⟨ak, sn, av, aa, ab⟩ S'.W S'.xs (l2.set ix ⟨q.x, OX', q.y, q.a, q.r, S'.N⟩) from
                      ⟨HA5.out, HSt.out OX', by rw [map_set_x (q' := ⟨q.x, OX', q.y, q.a, q.r, S'.N⟩) HQ.out rfl]; exact HT5.out, by rw [map_set_y (q' := ⟨q.x, OX', q.y, q.a, q.r, S'.N⟩) HQ.out rfl]; exact HO5.out, HSep.out, hb6⟩)
                    clear hk
                    go_wp2_with fail
                    go_meet
                    case rel => exact ⟨rfl, S', ⟨q.x, OX', q.y, q.a, q.r, S'.N⟩, rfl, rfl, rfl, rfl, rfl, HC⟩
                · -- Protect
                  have b0 : (ak == 0) = false := by simp [hkk]
                  have b1 : (ak == 1) = false := by simp [hkk]
                  have b2 : (ak == 2) = true := by simp [hkk]
                  clear hkk
                  obtain ⟨E, hE⟩ : ∃ E, protectM n q.r av ab ⟨W2, xs2, q.N⟩ = E := ⟨_, rfl⟩
                  obtain ⟨E1, S'⟩ := E
                  have hst : ∀ OX', MSt n S'.W S'.xs (l2.set ix ⟨q.x, OX', q.y, q.a, q.r, S'.N⟩) := fun OX' => by
                    have h0 := HMs.out.inv HQ.out
                    obtain ⟨o1, o2, o3, o4⟩ := h0.ok.protect_ok (v := av) h0.root ab
                    rw [hE] at o1 o2 o3 o4
                    exact HMs.out.step HQ.out o1 o2 o3 o4 rfl rfl rfl
                  have hpc := HA4.out.pcall HH.out HQ.out (fun O hx => HH.out.protect hx (HMs.out.inv HQ.out) av ab HOk.out.v HOk.out.b)
                  rw [hE] at hpc
                  have HPc := Lib.hid hpc
                  have HSt := Lib.hid hst
                  have HEq := Lib.hid hE
                  clear hpc hst hE
                  go_wp2_with fail
                  go_region_held3 (fun W => (W.cell? ⟨Bx, 0, none⟩ = some (.int .i64 ak) ∧ W.cell? ⟨Bx, 1, none⟩ = some (.int .i64 sn) ∧ W.cell? ⟨Bx, 2, none⟩ = some (.int .i64 av) ∧ W.cell? ⟨Bx, 3, none⟩ = some (.int .i64 aa) ∧ W.cell? ⟨Bx, 4, none⟩ = some (.int .i64 ab))) (with_reducible exact hk)
                    (first
                      | (go_at_call 15; (with_reducible refine (HPc.out.mono ?_)); rintro e w5 ⟨rfl, OX', h5, k5⟩; have HA45 := Lib.hid h5; have HT45 := Lib.hid (HT4.out.kept (w' := w5) fun b hb => k5 b (by simp [hb])); have HO45 := Lib.hid (HO4.out.kept (w' := w5) fun b hb => k5 b (by simp [hb])); have hb5 : A7B w5 Bx ⟨ak, sn, av, aa, ab⟩ := (k5 Bx (by simp)).trans HBx.out; have HB5 := Lib.hid hb5; replace hk := hb5.at; clear h5 k5 hb5)
                      | (go_at_call 16; (with_reducible refine ((HA45.out.dcall (q' := ⟨q.x, OX', q.y, q.a, q.r, S'.N⟩) (s' := S') (V := .bool E1) HH.out HQ.out rfl rfl rfl rfl (fun gb hx => by have h9 := dx_protect hx av ab HRr.out HNn.out; rw [HEq.out] at h9; exact h9)).mono ?_)); rintro e w6 ⟨rfl, h6, k6⟩; have HA5 := Lib.hid h6; have HT5 := Lib.hid (HT45.out.kept (w' := w6) fun b hb => k6 b (by simp [hb])); have HO5 := Lib.hid (HO45.out.kept (w' := w6) fun b hb => k6 b (by simp [hb])); have hb6 : A7B w6 Bx ⟨ak, sn, av, aa, ab⟩ := (k6 Bx (by simp)).trans HB5.out; replace hk := hb6.at; clear h6 k6))
                  all_goals
                    have HC := Lib.hid (show ActAt S w w6 m d n p rb fb R pb (.slice (some ⟨gt, 0, none⟩) L ct) (.slice (some ⟨go', 0, none⟩) L co) Bx ⟨ak, sn, av, aa, ab⟩ S'.W S'.xs (l2.set ix ⟨q.x, OX', q.y, q.a, q.r, S'.N⟩) from
                      ⟨HA5.out, HSt.out OX', by rw [map_set_x (q' := ⟨q.x, OX', q.y, q.a, q.r, S'.N⟩) HQ.out rfl]; exact HT5.out, by rw [map_set_y (q' := ⟨q.x, OX', q.y, q.a, q.r, S'.N⟩) HQ.out rfl]; exact HO5.out, HSep.out, hb6⟩)
                    clear hk
                    go_wp2_with fail
                    go_meet
                    case rel => exact ⟨rfl, S', ⟨q.x, OX', q.y, q.a, q.r, S'.N⟩, rfl, rfl, rfl, rfl, rfl, HC⟩
                · -- Clear
                  have b0 : (ak == 0) = false := by simp [hkk]
                  have b1 : (ak == 1) = false := by simp [hkk]
                  have b2 : (ak == 2) = false := by simp [hkk]
                  have b3' : (ak == 3) = true := by simp [hkk]
                  clear hkk
                  obtain ⟨E, hE⟩ : ∃ E, clearM n q.r av ab ⟨W2, xs2, q.N⟩ = E := ⟨_, rfl⟩
                  obtain ⟨E1, S'⟩ := E
                  have hst : ∀ OX', MSt n S'.W S'.xs (l2.set ix ⟨q.x, OX', q.y, q.a, q.r, S'.N⟩) := fun OX' => by
                    have h0 := HMs.out.inv HQ.out
                    obtain ⟨o1, o2, o3, o4⟩ := h0.ok.clear_ok (v := av) h0.root ab
                    rw [hE] at o1 o2 o3 o4
                    exact HMs.out.step HQ.out o1 o2 o3 o4 rfl rfl rfl
                  have hpc := HA4.out.pcall HH.out HQ.out (fun O hx => HH.out.clear hx (HMs.out.inv HQ.out) av ab HOk.out.v HOk.out.b)
                  rw [hE] at hpc
                  have HPc := Lib.hid hpc
                  have HSt := Lib.hid hst
                  have HEq := Lib.hid hE
                  clear hpc hst hE
                  go_wp2_with fail
                  go_region_held3 (fun W => (W.cell? ⟨Bx, 0, none⟩ = some (.int .i64 ak) ∧ W.cell? ⟨Bx, 1, none⟩ = some (.int .i64 sn) ∧ W.cell? ⟨Bx, 2, none⟩ = some (.int .i64 av) ∧ W.cell? ⟨Bx, 3, none⟩ = some (.int .i64 aa) ∧ W.cell? ⟨Bx, 4, none⟩ = some (.int .i64 ab))) (with_reducible exact hk)
                    (first
                      | (go_at_call 17; (with_reducible refine (HPc.out.mono ?_)); rintro e w5 ⟨rfl, OX', h5, k5⟩; have HA45 := Lib.hid h5; have HT45 := Lib.hid (HT4.out.kept (w' := w5) fun b hb => k5 b (by simp [hb])); have HO45 := Lib.hid (HO4.out.kept (w' := w5) fun b hb => k5 b (by simp [hb])); have hb5 : A7B w5 Bx ⟨ak, sn, av, aa, ab⟩ := (k5 Bx (by simp)).trans HBx.out; have HB5 := Lib.hid hb5; replace hk := hb5.at; clear h5 k5 hb5)
                      | (go_at_call 18; (with_reducible refine ((HA45.out.dcall (q' := ⟨q.x, OX', q.y, q.a, q.r, S'.N⟩) (s' := S') (V := .int .i64 E1) HH.out HQ.out rfl rfl rfl rfl (fun gb hx => by have h9 := dx_clear hx av ab HRr.out HNn.out; rw [HEq.out] at h9; exact h9)).mono ?_)); rintro e w6 ⟨rfl, h6, k6⟩; have HA5 := Lib.hid h6; have HT5 := Lib.hid (HT45.out.kept (w' := w6) fun b hb => k6 b (by simp [hb])); have HO5 := Lib.hid (HO45.out.kept (w' := w6) fun b hb => k6 b (by simp [hb])); have hb6 : A7B w6 Bx ⟨ak, sn, av, aa, ab⟩ := (k6 Bx (by simp)).trans HB5.out; replace hk := hb6.at; clear h6 k6))
                  all_goals
                    have HC := Lib.hid (show ActAt S w w6 m d n p rb fb R pb (.slice (some ⟨gt, 0, none⟩) L ct) (.slice (some ⟨go', 0, none⟩) L co) Bx ⟨ak, sn, av, aa, ab⟩ S'.W S'.xs (l2.set ix ⟨q.x, OX', q.y, q.a, q.r, S'.N⟩) from
                      ⟨HA5.out, HSt.out OX', by rw [map_set_x (q' := ⟨q.x, OX', q.y, q.a, q.r, S'.N⟩) HQ.out rfl]; exact HT5.out, by rw [map_set_y (q' := ⟨q.x, OX', q.y, q.a, q.r, S'.N⟩) HQ.out rfl]; exact HO5.out, HSep.out, hb6⟩)
                    clear hk
                    go_wp2_with fail
                    go_meet
                    case rel => exact ⟨rfl, S', ⟨q.x, OX', q.y, q.a, q.r, S'.N⟩, rfl, rfl, rfl, rfl, rfl, HC⟩
                · have b0 : (ak == 0) = false := by simp [hkk]
                  have b1 : (ak == 1) = false := by simp [hkk]
                  have b2 : (ak == 2) = false := by simp [hkk]
                  have b3' : (ak == 3) = false := by simp [hkk]
                  have HC := Lib.hid (show ActAt S w w4 m d n p rb fb R pb (.slice (some ⟨gt, 0, none⟩) L ct) (.slice (some ⟨go', 0, none⟩) L co) Bx ⟨ak, sn, av, aa, ab⟩ W2 xs2 (l2.set ix q) from by
                    rw [set_same HQ.out]
                    exact HC0.out)
                  clear hkk hk
                  go_wp2_with fail
                  go_meet
                  case rel => exact ⟨rfl, ⟨W2, xs2, q.N⟩, q, rfl, rfl, rfl, rfl, rfl, HC⟩
              case rest =>
                -- what is found, and whether all is alike
                obtain ⟨rfl, S', q5, ex, ey, ea, er, eN, HC⟩ := hcut
                have HQ5 := Lib.hid (show (l2.set ix q5)[ix]? = some q5 from List.getElem?_set_self (List.getElem?_eq_some_iff.1 HQ.out).1)
                have HA5 := Lib.hid HC.out.all
                have HMs5 := Lib.hid HC.out.ms
                have HT5' := Lib.hid HC.out.t
                have HO5' := Lib.hid HC.out.o
                have hk := HC.out.box.at
                simp only at hk
                obtain ⟨m0, m1, m2, m3, m4⟩ := hk
                obtain ⟨fA, fB, fk, hfo⟩ := findV_form7 (leafE n S'.W q5.r av)
                have hinv5 := HMs5.out.inv HQ5.out
                have hF1 := HA5.out.plook HQ5.out (fun O hx => HH.out.find hx hinv5 av HOk.out.v)
                have hF2 := fun W2 (g2 : wc.grownBy W2 none) => (HA5.out.grow HH.out g2).dlook HQ5.out (fun gb hx => dx_find hx av)
                rw [hfo, ex] at hF1
                rw [hfo, ey] at hF2
                have HF1 := Lib.hid hF1
                have HF2 := Lib.hid hF2
                have HI5 := Lib.hid (show Inv7 n ⟨S'.W, S'.xs, q5.N⟩ q5.a q5.r from hinv5)
                have HEy := Lib.hid ey
                have HEx := Lib.hid ex
                clear hF1 hF2 hfo hinv5 ex ey ea er eN HC HA4 HT4 HO4 HBx
                have HG1 := Lib.hid (show Calls Tryz.prog 19 #[.pointer (some ⟨q.x, 0, none⟩), .int .i64 av] wc fun e w' => e = .returned (.tuple #[.agg #[.int .i64 fA, .int .i64 fB], .bool fk]) ∧ wc.grownBy w' none from HF1.out)
                go_wp2_with fail
                refine HG1.out.mono ?_
                rintro e w7 ⟨rfl, g7⟩
                have g8 := grown_trans g7 (World.grownBy_alloc w7 (.cells #[.int .i64 fA, .int .i64 fB] 52 (0, 0)) none)
                have hE1 : EntB (w7.alloc (.cells #[.int .i64 fA, .int .i64 fB] 52 (0, 0))) w7.heap.size fA fB := heap_alloc_new w7 _
                have HG2 := Lib.hid (show Calls Tryz.prog 20 #[.pointer (some ⟨q.y, 0, none⟩), .int .i64 av] _ fun e w' => e = .returned (.tuple #[.agg #[.int .i64 fA, .int .i64 fB], .bool fk]) ∧ (w7.alloc (.cells #[.int .i64 fA, .int .i64 fB] 52 (0, 0))).grownBy w' none from HF2.out _ g8)
                have HE1 := Lib.hid hE1
                have HG8 := Lib.hid g8
                have n2 := g8.cell m2 (by simp)
                clear g7 g8 hE1
                go_wp2_with fail
                refine HG2.out.mono ?_
                rintro e w9 ⟨rfl, g9⟩
                have ga := grown_trans g9 (World.grownBy_alloc w9 (.cells #[.int .i64 fA, .int .i64 fB] 52 (0, 0)) none)
                have HGa := Lib.hid (grown_trans HG8.out ga)
                have hE2 : EntB (w9.alloc (.cells #[.int .i64 fA, .int .i64 fB] 52 (0, 0))) w9.heap.size fA fB := heap_alloc_new w9 _
                have hE3 := HE1.out.grow ga
                have HSx := Lib.hid (show ∀ W, (w9.alloc (.cells #[.int .i64 fA, .int .i64 fB] 52 (0, 0))).grownBy W none → (W.cell? ⟨w7.heap.size, 0, none⟩ = some (.int .i64 fA) ∧ W.cell? ⟨w7.heap.size, 1, none⟩ = some (.int .i64 fB)) ∧ (W.cell? ⟨w9.heap.size, 0, none⟩ = some (.int .i64 fA) ∧ W.cell? ⟨w9.heap.size, 1, none⟩ = some (.int .i64 fB)) ∧ (W.cell? ⟨q.y, 3, none⟩ = some (.int .i64 q5.r) ∧ W.cell? ⟨q.y, 4, none⟩ = some (.int .i64 q5.N)) from
                  fun W g => ⟨(hE3.grow g).at, (hE2.grow g).at, HEy.out ▸ HA5.out.cells HQ5.out (grown_trans HGa.out g)⟩)
                have HAd := Lib.hid (HA5.out.grow HH.out (grown_trans HGa.out (grown_drew1 _)))
                have hTb := fun W2 (hA : All7 S w W2 m d n p rb fb R pb ((Value.slice (some ⟨gt, 0, none⟩) L ct).ownBlock.toList ++ (Value.slice (some ⟨go', 0, none⟩) L co).ownBlock.toList ++ [Bx]) S'.W S'.xs (l2.set ix q5) S'.W S'.xs (l2.set ix q5)) => (show Calls Tryz.prog 21 #[.pointer (some ⟨q.x, 0, none⟩)] W2 fun e w' => e = .returned (.int .i64 q5.N) ∧ W2.grownBy w' none from HEx.out ▸ hA.plook HQ5.out (fun O hx => HH.out.tables hx HI5.out))
                have hRt := fun W2 (hA : All7 S w W2 m d n p rb fb R pb ((Value.slice (some ⟨gt, 0, none⟩) L ct).ownBlock.toList ++ (Value.slice (some ⟨go', 0, none⟩) L co).ownBlock.toList ++ [Bx]) S'.W S'.xs (l2.set ix q5) S'.W S'.xs (l2.set ix q5)) => (show Calls Tryz.prog 22 #[.pointer (some ⟨q.x, 0, none⟩)] W2 fun e w' => e = .returned (.int .i64 q5.r) ∧ W2.grownBy w' none from HEx.out ▸ hA.plook HQ5.out (fun O hx => HH.out.root hx HI5.out))
                have HTb := Lib.hid hTb
                have HRt := Lib.hid hRt
                clear hTb hRt
                have hk := HSx.out _ (grown_drew1 _)
                have HGd := Lib.hid (grown_drew1 (w9.alloc (.cells #[.int .i64 fA, .int .i64 fB] 52 (0, 0))))
                clear g9 ga hE2 hE3 n2 m0 m1 m2 m3 m4 HG1 HG2 HF1 HF2
                go_wp2_with fail
                go_region_held3 (fun W => (W.cell? ⟨w7.heap.size, 0, none⟩ = some (.int .i64 fA) ∧ W.cell? ⟨w7.heap.size, 1, none⟩ = some (.int .i64 fB)) ∧ (W.cell? ⟨w9.heap.size, 0, none⟩ = some (.int .i64 fA) ∧ W.cell? ⟨w9.heap.size, 1, none⟩ = some (.int .i64 fB)) ∧ (W.cell? ⟨q.y, 3, none⟩ = some (.int .i64 q5.r) ∧ W.cell? ⟨q.y, 4, none⟩ = some (.int .i64 q5.N))) (with_reducible exact hk)
                  (first
                    | (go_at_call 21; (with_reducible refine ((HTb.out _ HAd.out).mono ?_)); rintro e wt ⟨rfl, gt⟩; replace HAd := Lib.hid (HAd.out.grow HH.out gt); replace HGd := Lib.hid (grown_trans HGd.out gt); replace hk := HSx.out _ HGd.out; clear gt)
                    | (go_at_call 22; (with_reducible refine ((HRt.out _ HAd.out).mono ?_)); rintro e wt ⟨rfl, gt⟩; replace HAd := Lib.hid (HAd.out.grow HH.out gt); replace HGd := Lib.hid (grown_trans HGd.out gt); replace hk := HSx.out _ HGd.out; clear gt)
                    | (go_at_call 23; (with_reducible refine ((HAd.out.alike HMs5.out.ok).mono ?_)); rintro e wt ⟨rfl, gt⟩; replace HAd := Lib.hid (HAd.out.grow HH.out gt); replace HGd := Lib.hid (grown_trans HGd.out gt); replace hk := HSx.out _ HGd.out; clear gt))
                all_goals
                  clear hk
                  have HWe := Lib.hid (show AW S w _ m d n p rb fb R pb (.slice (some ⟨gt, 0, none⟩) L ct) (.slice (some ⟨go', 0, none⟩) L co) S'.W S'.xs (l2.set ix q5) from
                    ⟨HAd.out.fresh HH.out (grown_refl _ _) (fun b hb => ⟨.inl (List.mem_append_left _ hb), (show b < _ from by rcases List.mem_append.1 hb with hb | hb; exact Nat.lt_of_lt_of_le (HT5'.out.lt (by simpa using hb)).2 (grown_trans HGa.out HGd.out).size; exact Nat.lt_of_lt_of_le (HO5'.out.lt (by simpa using hb)).2 (grown_trans HGa.out HGd.out).size)⟩), HMs5.out,
                     HT5'.out.grow (grown_trans HGa.out HGd.out), HO5'.out.grow (grown_trans HGa.out HGd.out), HSep.out⟩)
                  go_wp2_with fail
                  go_roundw
                  case rel => exact ⟨j + 1, S'.W, S'.xs, l2.set ix q5, by omega, by go_num, by rw [List.length_set]; exact hl2, HWe⟩
                  case measure => simp [intOf]; omega
          · obtain rfl : j = la := by omega
            have hsL := hl2
            clear hl2
            have HLL := Lib.hid hsL
            clear hsL
            have HX0 := Lib.hid (show CW S w wr m d n p rb fb R pb (.slice st L ct) (.slice so L co) W2 xs2 l2 0 from ⟨HJ.out.all, HJ.out.ms, HJ.out.t, HJ.out.o⟩)
            clear HJ
            go_wp2_with fail
            go_loopw [28, 242] (fun _ iv wx => ∃ (i2 : Nat) (xs3 : List FrV), i2 ≤ L ∧ iv = .int .i64 i2 ∧ Hid (CW S w wx m d n p rb fb R pb (.slice st L ct) (.slice so L co) W2 xs3 l2 i2)) (fun _ iv _ => L - (intOf iv).toNat)
            case atStart => exact ⟨0, xs2, by omega, rfl, HX0⟩
            case round =>
              obtain ⟨i2, xs3, hi2, rfl, HCw⟩ := hrel
              by_cases hlt3 : i2 < L
              · obtain ⟨q, hq⟩ : ∃ q, l2[i2]? = some q := ⟨_, List.getElem?_eq_getElem (by have := HLL.out; omega)⟩
                have HQ := Lib.hid hq
                obtain ⟨E, hE⟩ : ∃ E, closeM n q.r ⟨W2, xs3, q.N⟩ = E := ⟨_, rfl⟩
                obtain ⟨C1, xs4⟩ := E
                have HE := Lib.hid hE
                have hms : MSt n W2 xs4 (l2.drop (i2 + 1)) := by
                  have h0 := HCw.out.ms
                  rw [drop_get hq] at h0
                  have h1 := h0.close
                  rw [hE] at h1
                  exact h1
                have HMs := Lib.hid hms
                have hCd := HCw.out.grow HH.out (grown_drew1 wr)
                obtain ⟨gt, egt, ctx⟩ := hCd.t.ptr (by rw [List.length_map]; exact HLL.out) (show (l2.map Sp7.x)[i2]? = some q.x by rw [List.getElem?_map, hq]; rfl)
                obtain ⟨go', ego, cox⟩ := hCd.o.ptr (by rw [List.length_map]; exact HLL.out) (show (l2.map Sp7.y)[i2]? = some q.y by rw [List.getElem?_map, hq]; rfl)
                subst egt
                subst ego
                have hk := And.intro ctx cox
                have HCd := Lib.hid hCd
                clear hq hE hms hCd ctx cox
                go_wp2_with fail
                go_region_held3 (fun W => W.cell? ⟨gt, i2, none⟩ = some (.pointer (some ⟨q.x, 0, none⟩)) ∧ W.cell? ⟨go', i2, none⟩ = some (.pointer (some ⟨q.y, 0, none⟩))) (with_reducible exact hk)
                  (first
                    | (go_at_call 24; (with_reducible refine ((CW.close HH.out HCd.out HQ.out HE.out).mono ?_)); rintro e w5 ⟨rfl, OX, h5⟩; have HM5 := Lib.hid h5; replace hk : w5.cell? ⟨gt, i2, none⟩ = some (.pointer (some ⟨q.x, 0, none⟩)) ∧ w5.cell? ⟨go', i2, none⟩ = some (.pointer (some ⟨q.y, 0, none⟩)) := CWm.row h5 HLL.out HQ.out; clear h5)
                    | (go_at_call 25; (with_reducible refine ((CWm.dclose HH.out HM5.out HE.out).mono ?_)); rintro e w6 ⟨rfl, h6⟩; have HM6 := Lib.hid h6; replace hk : w6.cell? ⟨gt, i2, none⟩ = some (.pointer (some ⟨q.x, 0, none⟩)) ∧ w6.cell? ⟨go', i2, none⟩ = some (.pointer (some ⟨q.y, 0, none⟩)) := CWm.row h6 HLL.out HQ.out; clear h6)
                    | (go_at_call 21; (with_reducible refine ((CWm.tables HH.out HM6.out).mono ?_)); rintro e w7 ⟨rfl, g7⟩; have h7 := HM6.out.grow HH.out g7; have HM7 := Lib.hid h7; replace hk : w7.cell? ⟨gt, i2, none⟩ = some (.pointer (some ⟨q.x, 0, none⟩)) ∧ w7.cell? ⟨go', i2, none⟩ = some (.pointer (some ⟨q.y, 0, none⟩)) := CWm.row h7 HLL.out HQ.out; clear g7 h7)
                    | (go_at_call 23; (with_reducible refine ((CWm.alike HM7.out HMs.out).mono ?_)); rintro e w8 ⟨rfl, g8⟩; have h8 := HM7.out.grow HH.out g8; have HM8 := Lib.hid h8; replace hk : w8.cell? ⟨gt, i2, none⟩ = some (.pointer (some ⟨q.x, 0, none⟩)) ∧ w8.cell? ⟨go', i2, none⟩ = some (.pointer (some ⟨q.y, 0, none⟩)) := CWm.row h8 HLL.out HQ.out; clear g8 h8))
                all_goals
                  clear hk
                  have HCn := Lib.hid (CWm.next HH.out HM8.out HMs.out)
                  go_wp2_with fail
                  go_roundw
                  case rel => exact ⟨i2 + 1, xs4, by omega, by go_num, HCn⟩
                  case measure => simp [intOf]; omega
              · obtain rfl : i2 = L := by omega
                have hfr := HCw.out.all.free
                have hz := HCw.out.ms
                rw [List.drop_eq_nil_of_le (Nat.le_of_eq HLL.out)] at hz
                rw [hz.free] at hfr
                have HFr := Lib.hid hfr
                have HLo := Lib.hid HCw.out.low
                clear hfr hz
                go_wp2_with fail
                refine HFr.out.mono ?_
                rintro e wf ⟨rfl, gf⟩
                have HLf := Lib.hid (grown_trans HLo.out gf)
                clear gf
                go_wp2_with fail
                refine (HL.out _).mono ?_
                rintro e wg ⟨rfl, gg⟩
                have HLg := Lib.hid (grown_trans HLf.out gg)
                clear gg
                go_wp2_with fail
                go_ret
                exact ⟨rfl, HLg.out⟩
end Go.Proofs.YtlieommbomjdaaaGreat
