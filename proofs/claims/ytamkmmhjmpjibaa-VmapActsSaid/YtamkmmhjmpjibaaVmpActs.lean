/- VmapActs, walked out of what package vmap says. Written by wip/genvlaw.py and what is behind it. -/
import Derived.Test.YtamkmmhjmpjibaaVmpMore
import Derived.Test.YtamkmmhjmpjibaaVmpActR
import Derived.OwnWalk
namespace Go.Proofs.Ytamkmmhjmpjibaa
open Go.ChangeShapes Go.WideShapes Go.ChangeAt Go.RowKit Go.Deep
set_option linter.unusedVariables false
set_option linter.unusedSimpArgs false
set_option linter.unusedSimpArgs false

/-- Two maps that share nothing: the landed one and the document's. -/
def Apart (rm : Nat) (vm : Value) (rr : Nat) (vr : Value) : Prop := rr ≠ rm ∧ (∀ b, vm.ownBlock = some b → b ≠ rr) ∧ ∀ b, vr.ownBlock = some b → b ≠ rm ∧ ∀ d, vm.ownBlock = some d → b ≠ d
theorem Apart.out {rm rr : Nat} {vm vr : Value} (a : Apart rm vm rr vr) : rr ∉ rm :: blkL vm ∧ ∀ b, vr.ownBlock = some b → b ∉ rm :: blkL vm := by
  obtain ⟨a1, a2, a3⟩ := a
  refine ⟨fun h => ?_, fun b hb h => ?_⟩
  · rcases List.mem_cons.1 h with e | e
    · exact a1 e
    · exact a2 _ (mem_blk.1 e) rfl
  · rcases List.mem_cons.1 h with e | e
    · exact (a3 b hb).1 e
    · exact (a3 b hb).2 _ (mem_blk.1 e) rfl
theorem VR.kept {w w' : World} {rm rr : Nat} {vm vr : Value} {L : List En} (h : VR w rr vr L) (t : Turn (rm :: blkL vm) w w') (a : Apart rm vm rr vr) : VR w' rr vr L :=
  ⟨(t.block _ h.lt a.out.1).trans h.head, OwnOf.kept h.own fun b hb => t.block b (OwnOf.lt h.own hb).2 (a.out.2 b hb)⟩
theorem VM.kept {w w' : World} {rm rr : Nat} {vm vr : Value} {L : List En} (h : VM w rm vm L) (g : w.grownBy w' (some rr)) (a : Apart rm vm rr vr) : VM w' rm vm L :=
  ⟨(g.block _ h.lt (by have := a.1; simpa using fun e : rm = rr => this e.symm)).trans h.head, OwnOf.kept h.own fun b hb => g.block b (OwnOf.lt h.own hb).2 (by have := a.2.1 b hb; simpa using this)⟩
theorem EOwn.keptR {w w' : World} {base rr : Nat} {u : Value} {L : List En} (h : EOwn w base u L) (g : w.grownBy w' (some rr)) (hr : rr < base) : EOwn w' base u L :=
  OwnOf.kept h fun b hb => g.block b (OwnOf.lt h hb).2 (by have := (OwnOf.lt h hb).1; simp; omega)
theorem VBox.keptR {w w' : World} {y rr : Nat} {A : VAct} (h : VBox w y A) (g : w.grownBy w' (some rr)) (hr : rr ≠ y) : VBox w' y A := (g.block _ h.lt (by simpa using fun e : y = rr => hr e.symm)).trans h
theorem Apart.act {w : World} {rm rm' rr : Nat} {vm vm' vr : Value} {L : List En} (a : Apart rm vm rr vr) (h : VR w rr vr L) (hr : rm' = rm ∨ w.heap.size ≤ rm') (hn : New w vm vm') : Apart rm' vm' rr vr := by
  obtain ⟨a1, a2, a3⟩ := a
  have hlt := h.lt
  refine ⟨?_, fun b hb => ?_, fun b hb => ⟨?_, fun d hd => ?_⟩⟩
  · rcases hr with e | e <;> omega
  · rcases hn b hb with e | e
    · exact a2 b e
    · omega
  · have := (OwnOf.lt h.own hb).2
    rcases hr with e | e
    · rw [e]; exact (a3 b hb).1
    · omega
  · have := (OwnOf.lt h.own hb).2
    rcases hn d hd with e | e
    · exact (a3 b hb).2 d e
    · omega
theorem Apart.like {w : World} {rm rr rr' : Nat} {vm vr vr' : Value} {L : List En} (a : Apart rm vm rr vr) (h : VM w rm vm L) (hr : rr' = rr ∨ w.heap.size ≤ rr') (hn : New w vr vr') : Apart rm vm rr' vr' := by
  obtain ⟨a1, a2, a3⟩ := a
  have hlt := h.lt
  refine ⟨?_, fun b hb => ?_, fun b hb => ⟨?_, fun d hd => ?_⟩⟩
  · rcases hr with e | e <;> omega
  · have := (OwnOf.lt h.own hb).2
    rcases hr with e | e
    · rw [e]; exact a2 b hb
    · omega
  · rcases hn b hb with e | e
    · exact (a3 b e).1
    · omega
  · have := (OwnOf.lt h.own hd).2
    rcases hn b hb with e | e
    · exact (a3 b e).2 d hd
    · omega
theorem apart0 {a b : Nat} (h : b ≠ a) : Apart a (.slice none 0 0) b (.slice none 0 0) := ⟨h, fun d hd => (by simp [Value.ownBlock] at hd), fun d hd => (by simp [Value.ownBlock] at hd)⟩
theorem VR.box (w : World) : VR (w.alloc (.cells #[.slice none 0 0] 29 (0, 0))) w.heap.size (.slice none 0 0) [] := ⟨heap_alloc_new w _, OwnOf.nil _ _⟩
theorem past_some {W w w' : World} {r : Nat} (g : W.grownBy w none) (k : w.grownBy w' (some r)) (hr : W.heap.size ≤ r) : W.grownBy w' none :=
  Turn.noGrown ((Turn.grown (O := [r]) g).trans' (⟨k.os, k.tape, k.output, k.size, fun q hq hn => k.block q hq (by simpa using hn)⟩ : Turn [r] w w')) fun b hb => by
    have : b = r := by simpa using hb
    omega
set_option maxRecDepth 100000 in
set_option maxHeartbeats 32000000 in
theorem acts_walk (W : World) (s : Option Addr) (l c : Nat) (As : List VAct) (hA : VActsAre W s l As) (pg : Int) :
    Calls Try.prog 3 #[.slice s l c, .int .i64 pg] W fun e w' => e = .returned (.bool true) ∧ W.grownBy w' none := by
  have HAs := Lib.hid hA
  have HLv := Lib.hid (fun wx => lives_ok wx)
  have HNw := Lib.hid (fun wx => new_ok wx)
  by_cases hl : 60 < l
  · have b0 : decide ((l : Int) > 60) = true := decide_eq_true (by omega)
    clear hA
    go_enter Try.func3, Try.ntmps3
    go_wp2_with fail
    refine (HLv.out _).mono ?_
    rintro e w1 ⟨rfl, g1⟩
    have HG1 := Lib.hid g1
    clear g1
    go_wp2_with fail
    go_ret
    exact ⟨rfl, HG1.out⟩
  · have b0 : decide ((l : Int) > 60) = false := decide_eq_false (by omega)
    have HBs := Lib.hid (grown_refl W none)
    clear hA
    go_enter Try.func3, Try.ntmps3
    go_wp2_with fail
    refine (HNw.out _).mono ?_
    rintro e w1 ⟨rfl, k1, g1⟩
    have hs1 := k1.lt
    have HI := Lib.hid (show VM (w1.alloc (.cells #[.slice none 0 0] 29)) W.heap.size (.slice none 0 0) (foldV [] (As.take 0)) from k1.grow (World.grownBy_alloc w1 _ none))
    have HJ := Lib.hid (show VR (w1.alloc (.cells #[.slice none 0 0] 29)) w1.heap.size (.slice none 0 0) (foldV [] (As.take 0)) from VR.box w1)
    have HG1 := Lib.hid (grown_trans g1 (World.grownBy_alloc w1 (.cells #[.slice none 0 0] 29) none))
    have HAp := Lib.hid (show Apart W.heap.size (.slice none 0 0) w1.heap.size (.slice none 0 0) from apart0 (by omega))
    have hSt : W.heap.size ≤ w1.heap.size := by omega
    clear k1 g1
    go_wp2_with fail
    go_loopw [5, 6, 28] (fun mv rv iv wr => ∃ (q rm rr : Nat) (vm vr : Value), q ≤ l ∧ mv = .pointer (some ⟨rm, 0, none⟩) ∧ rv = .pointer (some ⟨rr, 0, none⟩) ∧ iv = .int .i64 q ∧ W.heap.size ≤ rm ∧ W.heap.size ≤ rr ∧ Hid (Apart rm vm rr vr) ∧ Hid (VM wr rm vm (foldV [] (As.take q))) ∧ Hid (VR wr rr vr (foldV [] (As.take q))) ∧ Hid (W.grownBy wr none)) (fun _ _ iv _ => l - (intOf iv).toNat)
    case atStart => exact ⟨0, _, _, _, _, by omega, rfl, rfl, rfl, Nat.le_refl _, hSt, HAp, HI, HJ, HG1⟩
    case round =>
      clear HI HJ HAp hs1 hSt HG1
      obtain ⟨q, rm, rr, vm, vr, hq, rfl, rfl, rfl, hrm, hrr, HAp, HV, HR, HG⟩ := hrel
      by_cases hlt : q < l
      · obtain ⟨A, hAq⟩ : ∃ A, As[q]? = some A := ⟨_, List.getElem?_eq_getElem (by rw [HAs.out.len]; exact hlt)⟩
        obtain ⟨b, o, hs, hc⟩ := HAs.out.at (grown_trans HBs.out HG.out) hAq
        subst hs
        obtain ⟨c0, c1, c2, c3, c4, c5, c6, c7, c8, c9, c10, c11, c12, c13, c14⟩ := hc
        have HFt := Lib.hid (fold_take16 [] hAq)
        obtain ⟨hM, hMl⟩ := fold_did (As.take q) mapL_nil
        obtain ⟨L, hL⟩ : ∃ L, foldV [] (As.take q) = L := ⟨_, rfl⟩
        rw [hL] at hM hMl HV HR HFt
        have hMl2 : L.length ≤ 300 := by
          rw [List.length_take] at hMl
          simp at hMl
          omega
        obtain ⟨hMN, hNl, hNg, hNr, hNe⟩ := step_did hM A
        have HGb := Lib.hid (World.grownBy_alloc wr (.cells #[.int .i64 A.k, .int .i64 A.lo, .int .i64 A.n, .int .i64 A.how, .int .i64 A.x.s, .int .i64 A.x.e, .int .i64 A.x.f, .int .i64 A.x.o, .bool A.x.sh, .int .i64 A.x.p, .int .i64 A.x.m, .int .i64 A.x.i, .int .i64 A.x.a, .bool A.x.wi, .bool A.on] 33) none)
        have HBx := Lib.hid (VBox.new wr A)
        have HVb := Lib.hid (HV.out.grow HGb.out)
        have HRb := Lib.hid (HR.out.grow HGb.out)
        have HOk := Lib.hid (HAs.out.ok A (List.mem_of_getElem? hAq))
        have HAc := Lib.hid (act_ok HVb.out hM (by omega) A HOk.out)
        have HLk := Lib.hid (fun (W' : World) (h : VR W' rr vr L) => like_ok h hM (by omega) A HOk.out)
        obtain ⟨N, hN⟩ : ∃ N, stepV L A = N := ⟨_, rfl⟩
        rw [hN] at HAc HLk hMN hNl hNg HFt
        have HMN := Lib.hid hMN
        have hn1 : (N.n != N.n) = false := by simp
        have hn2 : (N.n == N.n) = true := by simp
        have hn3 : (N.err != N.err) = false := by simp
        have hn4 : (N.err == N.err) = true := by simp
        have hrl := HR.out.lt
        have hml := HV.out.lt
        have hsl : (wr.alloc (.cells #[.int .i64 A.k, .int .i64 A.lo, .int .i64 A.n, .int .i64 A.how, .int .i64 A.x.s, .int .i64 A.x.e, .int .i64 A.x.f, .int .i64 A.x.o, .bool A.x.sh, .int .i64 A.x.p, .int .i64 A.x.m, .int .i64 A.x.i, .int .i64 A.x.a, .bool A.x.wi, .bool A.on] 33)).heap.size = wr.heap.size + 1 := World.size_alloc _ _
        obtain ⟨x, hx⟩ : ∃ x, atE N.l pg = x := ⟨_, rfl⟩
        obtain ⟨d, hd⟩ : ∃ d, (atV N.l pg).isSome = d := ⟨_, rfl⟩
        have HX := Lib.hid hx
        have HD := Lib.hid hd
        have hlow : ∀ b, b ∈ rm :: blkL vm → b < wr.heap.size := HV.out.rv
        clear hAq hM hMl hNr hMN hL hN hNe hx hd
        go_wp2_with fail
        generalize wr.alloc (.cells #[.int .i64 A.k, .int .i64 A.lo, .int .i64 A.n, .int .i64 A.how, .int .i64 A.x.s, .int .i64 A.x.e, .int .i64 A.x.f, .int .i64 A.x.o, .bool A.x.sh, .int .i64 A.x.p, .int .i64 A.x.m, .int .i64 A.x.i, .int .i64 A.x.a, .bool A.x.wi, .bool A.on] 33) = wb at *
        clear c0 c1 c2 c3 c4 c5 c6 c7 c8 c9 c10 c11 c12 c13 c14
        refine HAc.out.mono ?_
        rintro e w4 ⟨rm', u4, vm', rfl, k1, k2, k3, -, k5, t4⟩
        obtain ⟨a4, z4, hvf⟩ := OwnOf.form k1
        subst hvf
        have HG4 := Lib.hid (turn_up (grown_trans HG.out HGb.out) hrm (own_up HV.out hrm) t4)
        have HV4 := Lib.hid k2
        have HO4 := Lib.hid k1
        have HR4 := Lib.hid (HRb.out.kept t4 HAp.out)
        have HP4 := Lib.hid (HAp.out.act HRb.out k3 k5)
        have HB4 := Lib.hid (HBx.out.turn t4 fun hm => by have := hlow _ hm; omega)
        have hr2 : W.heap.size ≤ rm' := by
          rcases k3 with e | e
          · omega
          · have := HG.out.size
            omega
        have hg4 := t4.size
        obtain ⟨b0, b1, b2, b3, b4, b5, b6, b7, b8, b9, b10, b11, b12, b13, b14⟩ := HB4.out.at
        simp only [Nat.zero_add] at b0 b1 b2 b3 b4 b5 b6 b7 b8 b9 b10 b11 b12 b13 b14
        have HL4 := Lib.hid (HLk.out w4 HR4.out)
        clear k1 k2 k3 k5 t4 HAc HLk HV HR HVb HRb HBx hlow
        go_wp2_with fail
        refine HL4.out.mono ?_
        rintro e w5 ⟨rr', u5, vr', rfl, k1, k2, k3, -, k5, g5⟩
        obtain ⟨a5, z5, hvf⟩ := OwnOf.form k1
        subst hvf
        have HG5 := Lib.hid (past_some HG4.out g5 hrr)
        have HV5 := Lib.hid (HV4.out.kept g5 HP4.out)
        have HR5 := Lib.hid k2
        have HP5 := Lib.hid (HP4.out.like HV4.out k3 k5)
        have HO5 := Lib.hid (eown_row (EOwn.keptR HO4.out g5 (by omega)))
        have HU5 := Lib.hid (eown_row k1)
        have hr3 : W.heap.size ≤ rr' := by
          rcases k3 with e | e
          · omega
          · have := HG4.out.size
            omega
        clear k1 k2 k3 k5 g5 HL4 HV4 HR4 HP4 HB4 HO4 b0 b1 b2 b3 b4 b5 b6 b7 b8 b9 b10 b11 b12 b13 b14
        obtain ⟨ar, cr, hvr⟩ := HR5.out.form
        subst hvr
        go_upto_region 11 with fail
        have HS1 := Lib.hid (fun (W' : World) (g : w5.grownBy W' none) => same_ok z4 z5 (erow_grow HO5.out g) (erow_grow HU5.out g) (by omega) true (by simp))
        have HEn := Lib.hid (fun (W' : World) (g : w5.grownBy W' none) => entries_ok (HV5.out.grow g) (by omega))
        have HRw := Lib.hid HR5.out.row
        have hk0 := HR5.out.at
        have hk1 := (HR5.out.grow (grown_drew1 _)).at
        clear HO5 HU5
        go_region_held3 (fun w7 => w7.cell? ⟨rr', 0, none⟩ = some (.slice ar N.l.length cr)) (first | exact hk0 | exact hk1 | exact hk6 | exact hk7 | exact hk8 | fail)
          (first
            | (go_at_call 15; refine (HEn.out _ G6.out).mono ?_; rintro e w7 ⟨u7, rfl, k7, g7⟩; obtain ⟨a7, z7, hvf⟩ := OwnOf.form k7; subst hvf; have G7 := Lib.hid (grown_trans G6.out g7); have hk7 := (HR5.out.grow G7.out).at; have HS2 := Lib.hid (same_ok z7 cr (eown_row k7) (erow_grow HRw.out G7.out) (by omega) true (by simp)); clear k7 g7)
            | (go_at_call 14; first | (with_reducible refine HS2.out.mono ?_; rintro e w8 ⟨rfl, g8⟩; have G8 := Lib.hid (grown_trans G7.out g8); have hk8 := (HR5.out.grow G8.out).at; clear g8) | (with_reducible refine (HS1.out _ (by first | exact grown_refl _ none | exact grown_drew1 _)).mono ?_; rintro e w6 ⟨rfl, g6⟩; have G6 := Lib.hid (show w5.grownBy w6 none from grown_trans (by first | exact grown_refl _ none | exact grown_drew1 _) g6); have hk6 := (HR5.out.grow G6.out).at; clear g6))
            | fail)
        have HA8 := Lib.hid (at_ok (HV5.out.grow G8.out) HMN.out.rf (by omega) pg x HX.out d HD.out)
        clear hk0 hk1 hk6 hk7 hk8 HS1 HS2 HEn HRw G6 G7
        go_wp2_with fail
        refine HA8.out.mono ?_
        rintro e w9 ⟨rfl, g9⟩
        have HG9 := Lib.hid (grown_trans G8.out (grown_trans g9 (World.grownBy_alloc w9 (.cells #[.int .i64 x.s, .int .i64 x.e, .int .i64 x.f, .int .i64 x.o, .bool x.sh, .int .i64 x.p, .int .i64 x.m, .int .i64 x.i, .int .i64 x.a, .bool x.wi] 31) none)))
        have HBx := Lib.hid (EnB.new w9 x)
        have HA9 := Lib.hid (refAt_ok (HR5.out.grow HG9.out) HMN.out.rf (by omega) pg x HX.out d HD.out)
        clear g9 HA8 G8
        go_wp2_with fail
        refine HA9.out.mono ?_
        rintro e w10 ⟨rfl, g10⟩
        have HG10 := Lib.hid (grown_trans HG9.out (grown_trans g10 (World.grownBy_alloc w10 (.cells #[.int .i64 x.s, .int .i64 x.e, .int .i64 x.f, .int .i64 x.o, .bool x.sh, .int .i64 x.p, .int .i64 x.m, .int .i64 x.i, .int .i64 x.a, .bool x.wi] 31) none)))
        have HBy := Lib.hid (EnB.new w10 x)
        have HBz := Lib.hid ((HBx.out.grow g10).grow (World.grownBy_alloc w10 (.cells #[.int .i64 x.s, .int .i64 x.e, .int .i64 x.f, .int .i64 x.o, .bool x.sh, .int .i64 x.p, .int .i64 x.m, .int .i64 x.i, .int .i64 x.a, .bool x.wi] 31) none))
        obtain ⟨x0, x1, x2, x3, x4, x5, x6, x7, x8, x9⟩ := HBz.out.all
        obtain ⟨y0, y1, y2, y3, y4, y5, y6, y7, y8, y9⟩ := HBy.out.all
        have heq := fun wx => neq_en wx x x true (by simp)
        simp only [Bool.not_true] at heq
        clear g10 HA9 HBx HX HD
        cases d with
        | false =>
          go_wp2_with fail
          go_roundw
          case rel => exact ⟨q + 1, rm', rr', vm', _, by omega, rfl, rfl, by go_num, hr2, hr3, HP5, by rw [HFt.out]; exact HV5.out.grow HG10.out, by rw [HFt.out]; exact HR5.out.grow HG10.out, grown_trans HG5.out HG10.out⟩
          case measure => simp [intOf]; omega
        | true =>
          go_wp2_with fail
          go_roundw
          case rel => exact ⟨q + 1, rm', rr', vm', _, by omega, rfl, rfl, by go_num, hr2, hr3, HP5, by rw [HFt.out]; exact HV5.out.grow HG10.out, by rw [HFt.out]; exact HR5.out.grow HG10.out, grown_trans HG5.out HG10.out⟩
          case measure => simp [intOf]; omega

      · obtain rfl : q = l := by omega
        go_wp2_with fail
        refine (HLv.out _).mono ?_
        rintro e w2 ⟨rfl, g2⟩
        have HG2 := Lib.hid (grown_trans HG.out g2)
        clear g2
        go_wp2_with fail
        go_ret
        exact ⟨rfl, HG2.out⟩

theorem acts_say (W : World) (s : Option Addr) (l c : Nat) (As : List VAct) (hA : VActsAre W s l As) (pg : Int) :
    Calls Try.prog 3 #[.slice s l c, .int .i64 pg] W fun e w' => e = .returned (.bool true) ∧ Below W.heap.size W w' :=
  said (acts_walk W s l c As hA pg)
end Go.Proofs.Ytamkmmhjmpjibaa
