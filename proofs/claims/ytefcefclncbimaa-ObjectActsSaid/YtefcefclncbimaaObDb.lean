/- Package object (landed): settle, lowest, Ref. -/
import Derived.Test.YtefcefclncbimaaObDa
namespace Go.Proofs.Ytefcefclncbimaa
open Go.ChangeShapes Go.WideShapes Go.ChangeAt Go.RowKit Go.Deep
set_option linter.unusedVariables false

section
variable {w w' w2 : World} {p most M1 M2 i : Nat} {L : ObL} {S : Nat → ObP} {x : ObV}
/-- An object's row of pages: its map. -/
theorem PO.pages (h : PO w p most M1 M2 L S) (hx : L[i]? = some (some x)) : ∃ M, (S i).v = .map (some M) ∧ MapV pgAgg w M x.L ∧ (S i).O = [M] := (h.am.each i x hx).d
/-- An object goes. -/
theorem PO.gone (h : PO w p most M1 M2 L S) {w1 : World} (hx : L[i]? = some (some x)) (k1 : MapV ptrV w1 M1 (delK (nsO L S) ((i : Int) + 1))) (g1 : w.grownBy w1 (some M1)) (k2 : MapV numV w2 M2 (delK (fsO L) x.file)) (g2 : w1.grownBy w2 (some M2)) :
    PO w2 p most M1 M2 (L.set i none) S ∧ Turn (blkM p M1 M2 L S) w w2 ∧ (∀ b, b ∈ blkM p M1 M2 (L.set i none) S → b ∈ blkM p M1 M2 L S) ∧ ∀ b, b < w.heap.size → b ≠ M1 → b ≠ M2 → w2.heap[b]? = w.heap[b]? := by
  have hk : ∀ b, b < w.heap.size → b ≠ M1 → b ≠ M2 → w2.heap[b]? = w.heap[b]? := fun b hb e1 e2 =>
    (g2.block b (Nat.lt_of_lt_of_le hb g1.size) fun e => e2 (Option.some.inj e)).trans (g1.block b hb fun e => e1 (Option.some.inj e))
  have hs : w.heap.size ≤ w2.heap.size := Nat.le_trans g1.size g2.size
  refine ⟨⟨(hk _ h.plt (fun e => (h.m1.ne h.head e.symm)) (fun e => (h.m2.ne h.head e.symm))).trans h.head, ?_, ?_, ?_, fun hm => h.pb (blks_gone hm), fun hm => h.b1 (blks_gone hm), fun hm => h.b2 (blks_gone hm), h.ne, h.good.gone⟩, (Turn.one g1 (mem_blkM.2 (.inr (.inl rfl)))).trans' (Turn.one g2 (mem_blkM.2 (.inr (.inr (.inl rfl))))), fun b hb => ?_, hk⟩
  · rw [← nsO_gone]
    exact k1.kept (g2.block M1 k1.lt fun e => h.ne (Option.some.inj e))
  · rw [← fsO_gone h.good hx]
    exact k2
  · exact (h.am.kept lpdOk hs fun b hb => hk b (h.am.lt lpdOk b hb) (fun e => h.b1 (e ▸ hb)) (fun e => h.b2 (e ▸ hb))).gone
  · rcases mem_blkM.1 hb with e | e | e | e
    · exact mem_blkM.2 (.inl e)
    · exact mem_blkM.2 (.inr (.inl e))
    · exact mem_blkM.2 (.inr (.inr (.inl e)))
    · exact mem_blkM.2 (.inr (.inr (.inr (blks_gone e))))
theorem po_settle_no (h : PO w p most M1 M2 L S) (hx : L[i]? = some (some x)) (h0 : 0 ≤ x.re) (hno : ¬ (x.re = 0 ∧ x.L.length = 0)) (id : Int) : Calls Try.prog 34 #[.pointer (some ⟨p, 0, none⟩), .int .i64 id, .pointer (some ⟨(S i).a, 0, none⟩)] w fun e w' => e = .returned (.tuple #[]) ∧ w' = w := by
  obtain ⟨-, c1, c2⟩ := (h.am.each i x hx).at
  obtain ⟨M, hv, hm, -⟩ := h.pages hx
  rw [hv] at c2
  have hlen := fun ty => hm.len lawsP ty
  obtain ⟨xf, xr, xl⟩ := x
  simp only at *
  generalize xl.length = n at *
  have d0 : decide (xr > 0) = true ∨ (decide (xr > 0) = false ∧ decide (0 < n) = true) := by
    simp only [decide_eq_true_eq, decide_eq_false_iff_not]
    omega
  clear h hx hm hv hno h0
  rcases d0 with d0 | ⟨d0, d1⟩
  all_goals
    go_enter Try.func34, Try.ntmps34
    go_wp2_with fail
    refine bodyPost_ret (results_none rfl _ _ _) rfl ?_
    exact ⟨rfl, rfl⟩
theorem po_settle_yes (h : PO w p most M1 M2 L S) (hx : L[i]? = some (some x)) (hf : okI x.file) (h0 : x.re = 0) (h1 : x.L.length = 0) : Calls Try.prog 34 #[.pointer (some ⟨p, 0, none⟩), .int .i64 ((i : Int) + 1), .pointer (some ⟨(S i).a, 0, none⟩)] w fun e w' => e = .returned (.tuple #[]) ∧ PO w' p most M1 M2 (L.set i none) S ∧ Turn (blkM p M1 M2 L S) w w' ∧ (∀ b, b ∈ blkM p M1 M2 (L.set i none) S → b ∈ blkM p M1 M2 L S) ∧ ∀ b, b < w.heap.size → b ≠ M1 → b ≠ M2 → w'.heap[b]? = w.heap[b]? := by
  have hob := h.am.each i x hx
  obtain ⟨c0, c1, c2⟩ := hob.at
  obtain ⟨M, hv, hm, -⟩ := h.pages hx
  rw [hv] at c2
  have hlen := fun ty => hm.len lawsP ty
  rw [h1] at hlen
  rw [h0] at c1
  obtain ⟨-, cm1, cm2⟩ := h.at
  have hi := (List.getElem?_eq_some_iff.1 hx).1
  have h4 := h.len
  obtain ⟨w1, r1, k1, g1⟩ := h.m1.del lawsO (x := (i : Int) + 1) ⟨by omega, by omega⟩ 0
  have g1d := grown_then g1 (grown_drew1 w1)
  have k1d : MapV ptrV w1.drew M1 (delK (nsO L S) ((i : Int) + 1)) := k1.kept rfl
  obtain ⟨w3, r2, k2, g2⟩ := (h.m2.kept (g1d.block M2 h.m2.lt fun e => h.ne (Option.some.inj e).symm)).del lawsF hf 0
  have HM := Lib.hid (h.gone hx k1d g1d k2 g2)
  have cp2 : w1.cell? ⟨p, 2, none⟩ = some (.map (some M2)) := g1.cell cm2 (fun e => h.m1.ne h.head (Option.some.inj e).symm)
  have ca0 : w1.cell? ⟨(S i).a, 0, none⟩ = some (.int .i64 x.file) := g1.cell c0 (fun e => h.m1.ne hob.head (Option.some.inj e).symm)
  clear h hx hm hv h0 h1 k1 g1 k1d g1d k2 g2 hob hf
  go_enter Try.func34, Try.ntmps34
  go_wp2_with fail
  go_region
  go_wp2_with fail
  go_end0
  exact ⟨rfl, HM.out⟩
theorem po_settle (h : PO w p most M1 M2 L S) (hx : L[i]? = some (some x)) (hf : okI x.file) (h0 : 0 ≤ x.re) : Calls Try.prog 34 #[.pointer (some ⟨p, 0, none⟩), .int .i64 ((i : Int) + 1), .pointer (some ⟨(S i).a, 0, none⟩)] w fun e w' => e = .returned (.tuple #[]) ∧ PO w' p most M1 M2 (L.set i (tidyO x)) S ∧ Turn (blkM p M1 M2 L S) w w' ∧ (∀ b, b ∈ blkM p M1 M2 (L.set i (tidyO x)) S → b ∈ blkM p M1 M2 L S) ∧ ∀ b, b < w.heap.size → b ≠ M1 → b ≠ M2 → w'.heap[b]? = w.heap[b]? := by
  by_cases hc : x.re = 0 ∧ x.L.length = 0
  · rw [show tidyO x = none from if_pos hc]
    exact po_settle_yes h hx hf hc.1 hc.2
  · rw [show tidyO x = some x from if_neg hc, set_same hx]
    refine (po_settle_no h hx h0 hc _).mono ?_
    rintro e w' ⟨he, rfl⟩
    exact ⟨he, h, Turn.refl _ _, fun b hb => hb, fun b _ _ _ => rfl⟩

/-- The lowest free number. -/
theorem po_lowest (h : PO w p most M1 M2 L S) : Calls Try.prog 32 #[.pointer (some ⟨p, 0, none⟩)] w fun e w' => e = .returned (.int .i64 ((firstO L : Int) + 1)) ∧ w' = w := by
  have c0 := h.at.2.1
  have h4 := h.len
  have hfl := first_le (L := L)
  have HR := Lib.hid h
  have hq := neq_obj_nil
  clear h
  go_enter Try.func32, Try.ntmps32
  go_wp2_with fail
  go_loopw [3] (fun iv wr => ∃ j : Nat, j ≤ firstO L ∧ iv = .int .i64 ((j : Int) + 1) ∧ wr = w) (fun iv _ => firstO L + 1 - (intOf iv).toNat)
  case atStart => exact ⟨0, by omega, rfl, rfl⟩
  case round =>
    obtain ⟨j, hj, rfl, rfl⟩ := hrel
    by_cases hlt : j < firstO L
    · have hlv := first_live hlt
      obtain ⟨x, hx⟩ := live_get hlv
      have hk : (Instr.lookup 65 (.map (some M1)) (.int .i64 ((j : Int) + 1)) false).run Try.prog wr = .ok (.pointer (some ⟨(S j).a, 0, none⟩)) wr := HR.out.m1.look_yes lawsO nsO_nodup (nsO_at h4 hx) ⟨by omega, by omega⟩
      clear hlv hx
      go_wp2_with fail
      go_roundw
      case rel => exact ⟨j + 1, by omega, by go_num, by trivial⟩
      case measure => simp [intOf]; omega
    · have hjf : j = firstO L := by omega
      have hdd := first_dead (L := L)
      have hk : (Instr.lookup 65 (.map (some M1)) (.int .i64 ((j : Int) + 1)) false).run Try.prog wr = .ok (.pointer none) wr := HR.out.m1.look_no lawsO (fun n hn e => by
        obtain ⟨k, hk, rfl⟩ := List.mem_map.1 hn
        have e : (k : Int) + 1 = (j : Int) + 1 := e
        have h1 := (List.mem_filter.1 hk).2
        rw [show k = firstO L by omega, hdd] at h1
        cases h1) ⟨by omega, by omega⟩
      have HJ := Lib.hid hjf
      clear hdd hjf
      go_wp2_with fail
      go_ret
      exact ⟨by rw [← HJ.out]; rfl, rfl⟩

set_option maxHeartbeats 1000000 in
theorem po_ref (h : PO w p most M1 M2 L S) (hg : GoodOs most L) (id b : Int) (hid : okI id) (hb0 : okI b) : Calls Try.prog 13 #[.pointer (some ⟨p, 0, none⟩), .int .i64 id, .int .i64 b] w fun e w' => e = .returned (.tuple #[.int .i64 (refO L id b).n, .int .i64 (refO L id b).e]) ∧ ALo DLO w w' p most (blkM p M1 M2 L S) (refO L id b).L := by
  have hrg := ref_good hg id b
  rcases of_cases L id with ⟨e, -⟩ | ⟨i, x, rfl, hi2, hx, e⟩
  · rw [ref_none e]
    have HO := Lib.hid (po_find_none h hid e)
    have HS := Lib.hid (h.same hg (grown_refl w none))
    clear h e hg hrg
    go_enter Try.func13, Try.ntmps13
    go_wp2_with fail
    refine HO.out.mono ?_
    rintro e w2 ⟨rfl, e2⟩
    subst w2
    go_wp2_with fail
    go_ret2
    exact ⟨rfl, HS.out⟩
  · have HO := Lib.hid (po_find_some h hx)
    have hob := h.am.each i x hx
    have c1 := hob.at.2.1
    have z1 := hob.frozen 1
    have hgo := ofO_good hg e
    have hr0 := hgo.r0
    have hr1 := hgo.r1
    by_cases hm : mayO x.re b
    · have hw : IntKind.i64.wrap (x.re + b) = x.re + b := by have h1 := hm.1; have h2 := hm.2; rw [IntKind.wrap_i64]; omega
      rw [ref_eq hx hm] at hrg ⊢
      obtain ⟨m1, m2, m3⟩ := h.turned hx (hob.setRe lpdOk (x.re + b)) rfl rfl (Turn.setCell (S i).blk w (S i).a 1 _ (ObP.mem.2 (.inl rfl))) (fun b hb => .inl hb)
      have hS1 : (updO S i (S i)) i = S i := updO_same
      have hT := po_settle m1 (i := i) (x := ⟨x.file, x.re + b, x.L⟩) (set_self hi2) ⟨by have := hgo.f0; show _ ≤ x.file; omega, hgo.f1⟩ (by have := hm.1; show 0 ≤ x.re + b; omega)
      rw [set_set, hS1] at hT
      have HT := Lib.hid hT
      have HM2 := Lib.hid m2
      have HM3 := Lib.hid m3
      have hv1 : (S i).a ≠ M1 := fun e => h.m1.ne hob.head e.symm
      have hv2 : (S i).a ≠ M2 := fun e => h.m2.ne hob.head e.symm
      have halt : (S i).a < (w.setCell ⟨(S i).a, 1, none⟩ (.int .i64 (x.re + b))).heap.size := by simpa using hob.alt
      have cN : (w.setCell ⟨(S i).a, 1, none⟩ (.int .i64 (x.re + b))).cell? ⟨(S i).a, 1, none⟩ = some (.int .i64 (x.re + b)) := (hob.setRe lpdOk (x.re + b)).at.2.1
      have HRg := Lib.hid hrg
      have d0 : decide (b < -x.re) = false := decide_eq_false (by have := hm.1; omega)
      have d1 : decide (b > 1000000 - x.re) = false := decide_eq_false (by have := hm.2; omega)
      generalize hW : w.setCell ⟨(S i).a, 1, none⟩ (.int .i64 (x.re + b)) = W at *
      clear h e hg hob hT m1 m2 m3 hgo hrg hid
      go_enter Try.func13, Try.ntmps13
      go_wp2_with fail
      refine HO.out.mono ?_
      rintro e w2 ⟨rfl, e2⟩
      subst w2
      go_wp2_with fail
      refine HT.out.mono ?_
      rintro e w3 ⟨rfl, h3, t3, s3, k3⟩
      have c3 : w3.cell? ⟨(S i).a, 1, none⟩ = some (.int .i64 (x.re + b)) := by
        have := k3 _ halt hv1 hv2
        unfold World.cell? at cN ⊢
        rw [this]
        exact cN
      have H3 := Lib.hid h3
      have T3 := Lib.hid t3
      have S3 := Lib.hid s3
      clear h3 t3 s3 k3 cN
      go_wp2_with fail
      go_ret2
      exact ⟨rfl, _, ⟨M1, M2, _, H3.out, HRg.out, rfl⟩, HM2.out.trans T3.out HM3.out, fun b hb => HM3.out b (S3.out b hb)⟩
    · rw [ref_no hx hm]
      have HS := Lib.hid (h.same hg (grown_refl w none))
      have d0 : decide (b < -x.re) = true ∨ (decide (b < -x.re) = false ∧ decide (b > 1000000 - x.re) = true) := by
        unfold mayO at hm
        simp only [decide_eq_false_iff_not, decide_eq_true_eq]
        omega
      clear h e hg hob hgo hrg hid hm
      rcases d0 with d0 | ⟨d0, d1⟩
      all_goals
        go_enter Try.func13, Try.ntmps13
        go_wp2_with fail
        refine HO.out.mono ?_
        rintro e w2 ⟨rfl, e2⟩
        subst w2
        go_wp2_with fail
        go_ret2
        exact ⟨rfl, HS.out⟩
end
end Go.Proofs.Ytefcefclncbimaa
