/- The document's amaps of layer 13: Make. -/
import Derived.Test.YtfmihbiongnpnaaARef1
import Derived.Test.YtfmihbiongnpnaaAMade
import Derived.Deep.CutBlock
import Derived.Deep.DeepCutAuto
namespace Go.Proofs.Ytfmihbiongnpnaa
open Go.ChangeShapes Go.WideShapes Go.ChangeAt Go.RowKit Go.Deep
set_option linter.unusedVariables false

theorem rs_at {w : World} {q : Nat} {L : List Int} {O : List Nat} (h : RS w q L O) (hk : JOk L) (i : Int) : Calls Try.prog 39 #[.pointer (some ⟨q, 0, none⟩), .int .i64 i] w fun e w' => e = .returned (.int .i64 (atJ L i)) ∧ w.grownBy w' none := by
  obtain ⟨g, c, h, rfl⟩ := h
  exact rj_at h hk i
theorem rs_sum {w : World} {q : Nat} {L : List Int} {O : List Nat} (h : RS w q L O) (hk : JOk L) : Calls Try.prog 42 #[.pointer (some ⟨q, 0, none⟩)] w fun e w' => e = .returned (.int .i64 (sumJ L)) ∧ w.grownBy w' none := by
  obtain ⟨g, c, h, rfl⟩ := h
  exact rj_sum h hk
theorem rs_add {w : World} {q : Nat} {L : List Int} {O : List Nat} (h : RS w q L O) (hk : JOk L) (lo hi by_ : Int) (hlo : okI lo) (hhi : okI hi) (hby : okI by_) : Calls Try.prog 35 #[.pointer (some ⟨q, 0, none⟩), .int .i64 lo, .int .i64 hi, .int .i64 by_] w (AddA w (fun w' L' => SL RS w w' q O L') L lo hi by_) := by
  obtain ⟨g, c, h, rfl⟩ := h
  exact rj_add h hk lo hi by_ hlo hhi hby

theorem info_ram : (Try.prog.info? 49).map (fun i => (i.zero, i.size, i.bytes)) = some (some (.pointer none), 1, 8) := by kernel_rfl
/-- 'append(l, a)', of pointers. -/
theorem wpList_ppush {ops : Array Oper} {rest : List Oper} {o : Oper} {a : Act} {Q : Exit → Act → World → Prop} (w : World) (hgd : o.guard = none) (s x : Operand)
    (ho : o.op = .call { callee := .builtin .append, args := #[s, x], argTypes := #[70, 70] }) (v : Value) (xs : List (Option Nat)) (n : Nat) (hxn : xs.length = n) (y : Nat) (hs : a.eval s = v) (h : OwnOf pCells 1 49 w 0 v xs) (H c : Nat)
    (hx : a.eval x = .slice (some ⟨H, 0, none⟩) 1 c) (hH : w.heap.size = H) (hl : n ≤ 1000000)
    (hK : ∀ g cap w', OwnOf pCells 1 49 w' 0 (.slice (some ⟨g, 0, none⟩) (n + 1) cap) (xs ++ [some y]) → (w.alloc (.cells #[.pointer (some ⟨y, 0, none⟩)] 49)).grownBy w' v.ownBlock → (v.ownBlock = some g ∨ g = w.heap.size + 1) → wpList Try.prog ops Q rest (a.put o.dst (.slice (some ⟨g, 0, none⟩) (n + 1) cap)) w') :
    wpList Try.prog ops Q (o :: rest) a (w.alloc (.cells #[.pointer (some ⟨y, 0, none⟩)] 49)) := by
  obtain ⟨i0, hi, hz0, hz1, hz2⟩ := info_parts info_ram
  subst hH hxn
  refine wpList_append_lies _ hgd s x 70 ho 0 49 i0 (.pointer none) 1 8 Try.underlying70 hi hz0 hz1 hz2 rfl (by decide) v xs.length (xs.flatMap pCells) hs (World.ownsRow.alloc h _) ⟨w.heap.size, 0, none⟩ 1 c (pCells (some y)) hx rfl ?_ ?_ (by omega) (by unfold maxLen; omega) (by omega) (by simp) (w.heap.size + 1) (by simp) ?_
  · exact World.news_of_block (heap_alloc_new w _)
  · intro u hu; simp [pCells] at hu; rw [hu]; rfl
  · intro g cap w' hown hgrow hat hlt
    refine hK g cap w' ?_ hgrow hat
    unfold OwnOf
    simp only [List.length_append, List.length_cons, List.length_nil, List.flatMap_append, List.flatMap_cons, List.flatMap_nil, List.append_nil]
    exact hown

/-- Behind a Make. -/
def MadeA (w w' : World) (q most : Nat) (v : Value) (L : AmL) (S : Nat → AmP) (i : Nat) (y : AmV) : Prop :=
  ∃ v' P, RA w' q most v' (putA L i (some y)) (updA S i P) ∧ Turn (blkA q v L S) w w' ∧ (∀ b, b ∈ blkA q v' (putA L i (some y)) (updA S i P) → b ∈ blkA q v L S ∨ w.heap.size ≤ b) ∧ ∀ b, b ∈ P.blk → w.heap.size ≤ b
section
variable {w w' : World} {q most : Nat} {v : Value} {L : AmL} {S : Nat → AmP}
theorem ra_make_no (h : RA w q most v L S) (hg : GoodL most L) (n : Int) (hn : okI n) (hno : ¬ (1 ≤ n ∧ n ≤ 4096) ∨ most ≤ (idsA L).length) : Calls Try.prog 12 #[.pointer (some ⟨q, 0, none⟩), .int .i64 n] w fun e w' => e = .returned (.tuple #[.int .i64 0, .int .i64 (makeA most L n).e]) ∧ w.grownBy w' none := by
  have hd := h.grow rsOk (grown_drew1 w)
  have hkd := hd.at.1
  have HD := Lib.hid hd
  have hl := Nat.le_trans hg.len hg.most
  have HI := Lib.hid (ra_ids hd hl)
  have hmost := hg.most
  have hle := ids_le (L := L)
  by_cases hr : 1 ≤ n ∧ n ≤ 4096
  · have hfull : most ≤ (idsA L).length := by rcases hno with h1 | h1; exact absurd hr h1; exact h1
    rw [show makeA most L n = ⟨0, [], 5, L⟩ by unfold makeA; rw [if_neg (fun k => k hr), if_pos hfull]]
    have d0 : decide (((idsA L).length : Int) ≥ (most : Int)) = true := decide_eq_true (by omega)
    obtain ⟨m, hm⟩ : ∃ m, (idsA L).length = m := ⟨_, rfl⟩
    rw [hm] at d0 hle hfull
    have HN := Lib.hid hm
    have d1 : decide (n < 1) = false := decide_eq_false (by omega)
    have d2 : decide (n > 4096) = false := decide_eq_false (by omega)
    clear h hd hm hg hno hn hr
    go_enter Try.func12, Try.ntmps12
    go_wp2_with fail
    go_region_held3 (fun W => W.cell? ⟨q, 0, none⟩ = some (.int .i64 most)) (exact hkd)
      (first | (go_at_call 30; with_reducible refine (HI.out.mono ?_); rintro e w2 ⟨u, rfl, hu, ho, g2⟩; obtain ⟨s2, c2, hv⟩ := rowOf_form hu; rw [HN.out] at hv; subst hv; have HG2 := Lib.hid g2; replace hkd := (HD.out.grow rsOk g2).at.1; clear hu ho g2))
    go_wp2_with fail
    go_ret2
    exact ⟨rfl, grown_trans (grown_drew1 w) HG2.out⟩
  · rw [show makeA most L n = ⟨0, [], 2, L⟩ by unfold makeA; rw [if_pos hr]]
    have dd : n < 1 ∨ (¬ n < 1 ∧ n > 4096) := by omega
    clear h hg hno hr hd HI HD
    rcases dd with d0 | ⟨d0, d1⟩
    all_goals
      go_enter Try.func12, Try.ntmps12
      go_wp2_with fail
      go_ret2
      exact ⟨rfl, grown_refl _ _⟩

set_option maxHeartbeats 4000000 in
theorem ra_make (h : RA w q most v L S) (hg : GoodL most L) (k : Nat) (h1 : 1 ≤ k) (h2 : k ≤ 4096) (hno : ¬ most ≤ (idsA L).length) : Calls Try.prog 12 #[.pointer (some ⟨q, 0, none⟩), .int .i64 k] w fun e w' => e = .returned (.tuple #[.int .i64 ((firstA L : Int) + 1), .int .i64 0]) ∧ MadeA w w' q most v L S (firstA L) (newA k) := by
  have hd := h.grow rsOk (grown_drew1 w)
  have hkd := hd.at.1
  have HD := Lib.hid hd
  have hl := Nat.le_trans hg.len hg.most
  have HI := Lib.hid (ra_ids hd hl)
  have hmost := hg.most
  have hle := ids_le (L := L)
  have HR := Lib.hid h
  have d0 : decide (((idsA L).length : Int) ≥ (most : Int)) = false := decide_eq_false (by omega)
  obtain ⟨m, hm⟩ : ∃ m, (idsA L).length = m := ⟨_, rfl⟩
  rw [hm] at d0 hle hno
  have HN := Lib.hid hm
  have d1 : decide ((k : Int) < 1) = false := decide_eq_false (by omega)
  have d2 : decide ((k : Int) > 4096) = false := decide_eq_false (by omega)
  obtain ⟨X, hX⟩ : ∃ X, X = madeCells #[.int .i64 0] (k * 1) := ⟨_, rfl⟩
  have hmk : ∀ W : World, (Instr.makeSlice 39 (.int .i64 (k : Int)) (.int .i64 (k : Int))).run Try.prog W = .ok (.slice (some ⟨W.heap.size, 0, none⟩) k k) (W.alloc (.cells X 3)) := fun W => by
    obtain ⟨i0, hi, hz0, hz1, hz2⟩ := info_parts info_int11
    have hr := run_make (P := Try.prog) W 39 3 i0 _ Try.underlying39 hi hz0 .i64 .i64 (k : Int) (k : Int) (by omega) (by omega) (by rw [hz2]; omega) (by omega)
    rw [hr, Int.toNat_natCast, hz1, hX]
    rfl
  have HXl := Lib.hid (show X.toList = (List.replicate k 0).flatMap zCells by rw [hX]; exact made_zeros k)
  have HXs := Lib.hid (show X.size = k * 1 by rw [hX]; unfold madeCells; simp)
  have HC := Lib.hid (fun W => rj_new k W h2)
  clear h hd hm hX
  go_enter Try.func12, Try.ntmps12
  go_wp2_with fail
  go_region_held3 (fun W => W.cell? ⟨q, 0, none⟩ = some (.int .i64 most)) (exact hkd)
    (first | (go_at_call 30; with_reducible refine (HI.out.mono ?_); rintro e w2 ⟨u, rfl, hu, ho, g2⟩; obtain ⟨s2, c2, hv⟩ := rowOf_form hu; rw [HN.out] at hv; subst hv; have HG2 := Lib.hid g2; replace hkd := (HD.out.grow rsOk g2).at.1; clear hu ho g2))
  go_upto_region 5 with fail
  go_cut [6] from 23 to 29 (fun p6 wx => ∃ P : AmP, p6 = .pointer (some ⟨P.a, 0, none⟩) ∧ Hid (AmB RS 53 wx ⟨List.replicate k 0, List.replicate k 0⟩ P) ∧ Hid (w.grownBy wx none) ∧ Hid (∀ b, b ∈ P.blk → w.heap.size ≤ b))
  case first =>
    go_region_with (first | (go_at_call 34; refine (HC.out _).mono ?_; rintro e w3 ⟨cq, Oq, rfl, h3, g3, o3⟩; have H3 := Lib.hid h3; have G3 := Lib.hid g3; have O3 := Lib.hid o3; clear h3 g3 o3))
    · obtain ⟨A1, A2, A3⟩ := made_after rsOk 53 (grown_trans (grown_trans (grown_drew1 w) HG2.out) (grown_drew1 w2)) H3.out G3.out O3.out HXl.out HXs.out h2
      go_wp2_with fail
      go_meet
      case rel => exact ⟨⟨_, cq, _, Oq⟩, rfl, A1, A2, A3⟩
    · obtain ⟨A1, A2, A3⟩ := made_before rsOk 53 (grown_trans (grown_drew1 w) HG2.out) H3.out (grown_trans (grown_drew1 _) G3.out) O3.out HXl.out HXs.out h2
      go_wp2_with fail
      go_meet
      case rel => exact ⟨⟨_, cq, _, Oq⟩, rfl, A1, A2, A3⟩
  case rest =>
    obtain ⟨P, rfl, HA, HGc, HF⟩ := hcut
    have c0 := HA.out.at.1
    have HK := Lib.hid (rs_add HA.out.d (JOk.zeros h2) 0 k 1 (okS (by decide) (by decide)) ⟨by omega, by omega⟩ (okS (by decide) (by decide)))
    clear hmk HC HI HD HG2 hkd d0 HN hno hle
    go_wp2_with fail
    refine HK.out.mono ?_
    rintro e w5 ha
    obtain ⟨u5, rfl, -, -, h5⟩ := addA_open ha
    rw [add_all h1] at h5
    obtain ⟨P2, ea, -, -, hb2, ht2, ho2⟩ := HA.out.counts rsOk h5
    have g5 : w.grownBy w5 none := ((Turn.grown HGc.out).trans' ht2).noGrown HF.out
    have hf2 : ∀ b, b ∈ P2.blk → w.heap.size ≤ b := fun b hb => by
      rcases ho2 b hb with e | e
      · exact HF.out b e
      · have := HGc.out.size; omega
    obtain ⟨Pa, Pp, Pg, PO⟩ := P
    simp only at ea
    subst ea
    have hP5 := HR.out.grow rsOk g5
    have c5 := hP5.at.2
    obtain ⟨s, c, hv⟩ := hP5.form
    subst hv
    have HP := Lib.hid hP5
    have HB := Lib.hid hb2
    have HF2 := Lib.hid hf2
    have HG5 := Lib.hid g5
    have HO := Lib.hid (show ∀ b, b ∈ P2.blk → b ∉ blkA q (.slice s L.length c) L S from fun b hb hm => by have := hf2 b hb; have := HR.out.lt rsOk b hm; omega)
    clear hb2 ht2 ho2 hf2 g5 h5 ha HF HGc HA HK c0 hP5 HXl HXs d1 d2
    go_wp2_with fail
    go_loopw [40] (fun iv wr => ∃ j : Nat, j ≤ L.length ∧ iv = .int .i64 j ∧ Hid (∀ i, i < j → liveA L i = true) ∧ wr = w5) (fun iv _ => L.length - (intOf iv).toNat)
    case atStart => exact ⟨0, by omega, rfl, fun i hi => by omega, rfl⟩
    case round =>
      obtain ⟨j, hj, rfl, HZ, rfl⟩ := hrel
      by_cases hlt : j < L.length
      · obtain ⟨g, c2, hv⟩ := HP.out.there (by omega)
        injection hv with e1 e2 e3
        subst e1 e3
        cases hlv : liveA L j with
        | true =>
          obtain ⟨x, hx⟩ := live_get hlv
          have k0 := HP.out.live hlt hx
          have hq := eql_ram
          have HN := Lib.hid (show ∀ i, i < j + 1 → liveA L i = true from fun i hi => by
            by_cases e : i = j
            · rw [e]; exact hlv
            · exact HZ.out i (by omega))
          clear hx hlv HZ
          go_wp2_with fail
          go_roundw
          case rel => exact ⟨j + 1, by omega, by go_num, HN, by trivial⟩
          case measure => simp [intOf]; omega
        | false =>
          have k0 := HP.out.dead hlt hlv
          have z0 := HP.out.vfrozen j
          have hfi := first_eq HZ.out hlv (by omega)
          have HFI := Lib.hid hfi
          obtain ⟨m1, m2, m3⟩ := HP.out.put rsOk (i := j) (by omega) hlt HB.out HO.out
          have HM1 := Lib.hid m1
          have HM2 := Lib.hid m2
          have HM3 := Lib.hid m3
          clear hfi m1 m2 m3 HZ hlv
          go_wp2_with fail
          go_ret2
          refine ⟨by rw [HFI.out]; rfl, ?_⟩
          rw [HFI.out]
          refine ⟨_, P2, by unfold RA; rw [putA_len, if_pos hlt]; exact HM1.out, (Turn.grown HG5.out).trans' HM2.out, fun b hb => ?_, HF2.out⟩
          rcases HM3.out b hb with e | e
          · exact .inl e
          · exact .inr (HF2.out b e)
      · obtain rfl : j = L.length := by omega
        have hfi := first_eq HZ.out (liveA_out (Nat.le_refl _)) (Nat.le_refl _)
        have HFI := Lib.hid hfi
        have z0 := HP.out.frozen 1
        have hrow := HP.out.row
        clear hfi HZ
        have ga := World.grownBy_alloc wr (.cells #[.pointer (some ⟨P2.a, 0, none⟩)] 49 (0, 0)) none
        have HPa := Lib.hid (HP.out.grow rsOk ga)
        have HBa := Lib.hid (HB.out.grow rsOk ga)
        have HGa := Lib.hid (grown_trans HG5.out ga)
        have hs := World.size_alloc wr (.cells #[.pointer (some ⟨P2.a, 0, none⟩)] 49 (0, 0))
        have hbl := HB.out.lt rsOk
        have hlast : ∀ (g9 c9 : Nat) (w9 : World), OwnOf pCells 1 49 w9 0 (.slice (some ⟨g9, 0, none⟩) (L.length + 1) c9) (ptrs L S L.length ++ [some P2.a]) → (wr.alloc (.cells #[.pointer (some ⟨P2.a, 0, none⟩)] 49 (0, 0))).grownBy w9 (Value.slice s L.length c).ownBlock → ((Value.slice s L.length c).ownBlock = some g9 ∨ g9 = wr.heap.size + 1) → w9.frozen? ⟨q, 1, none⟩ = false ∧ w9.cell? ⟨q, 1, none⟩ = some (.slice s L.length c) ∧ MadeA w (w9.setCell ⟨q, 1, none⟩ (.slice (some ⟨g9, 0, none⟩) (L.length + 1) c9)) q most (.slice s L.length c) L S L.length (newA k) ∧ (w9.setCell ⟨q, 1, none⟩ (.slice (some ⟨g9, 0, none⟩) (L.length + 1) c9)).cell? ⟨q, 1, none⟩ = some (.slice (some ⟨g9, 0, none⟩) (L.length + 1) c9) := by
          intro g9 c9 w9 hown9 hgrow9 hat9
          have hh : w9.heap[q]? = some (.cells #[.int .i64 most, .slice s L.length c] 72 (0, 0)) := (hgrow9.block q HPa.out.plt fun e => HPa.out.ne e.symm).trans HPa.out.head
          obtain ⟨m1, m2, m3⟩ := HPa.out.more rsOk (y := newA k) (P := P2) rfl hgrow9 hown9 (fun b e => by
            have e : g9 = b := by simpa [Value.ownBlock] using e
            subst e
            rcases hat9 with h | h
            · exact .inl h
            · exact .inr (by rw [hs]; omega)) HBa.out HO.out (fun b e => by
            have e : g9 = b := by simpa [Value.ownBlock] using e
            subst e
            intro hm
            rcases hat9 with h | h
            · exact HO.out _ hm (mem_blkA.2 (.inr (.inl h)))
            · have := hbl _ hm; omega)
          refine ⟨frozen_of_row _ _ _ _ _ hh, by rw [cell_of_row _ _ _ _ _ _ hh]; rfl, ⟨_, P2, by unfold RA; rw [putA_len, if_neg (Nat.lt_irrefl _)]; exact m1, (Turn.grown HGa.out).trans' m2, fun b hb => ?_, HF2.out⟩, m1.at.2⟩
          rcases m3 b hb with e | e | e
          · exact .inl e
          · exact .inr (Nat.le_trans HGa.out.size e)
          · exact .inr (HF2.out b e)
        have HL := Lib.hid hlast
        clear hlast hrow z0 hbl hs ga HPa HBa HGa HG5
        go_wp2_with (at_builtin; refine wpList_ppush wr rfl _ _ rfl (.slice s L.length c) (ptrs L S L.length) L.length ptrs_len P2.a rfl HP.out.row wr.heap.size 1 rfl rfl (by omega) ?_; intro g9 c9 w9 hown9 hgrow9 hat9; obtain ⟨z9, k9, hm9, e9⟩ := HL.out g9 c9 w9 hown9 hgrow9 hat9; have HM := Lib.hid hm9; clear hown9 hgrow9 hat9 hm9)
        go_ret2
        refine ⟨by rw [HFI.out]; rfl, ?_⟩
        rw [HFI.out]
        exact HM.out
end
end Go.Proofs.Ytfmihbiongnpnaa
