/- The document's objects of layer 14: Make. -/
import Derived.Test.YtefcefclncbimaaObRef5
namespace Go.Proofs.Ytefcefclncbimaa
open Go.ChangeShapes Go.WideShapes Go.ChangeAt Go.RowKit Go.Deep
set_option linter.unusedVariables false

theorem info_rob : (Try.prog.info? 80).map (fun i => (i.zero, i.size, i.bytes)) = some (some (.pointer none), 1, 8) := by kernel_rfl
/-- 'append(l, a)', of pointers. -/
theorem wpList_ppush {ops : Array Oper} {rest : List Oper} {o : Oper} {a : Act} {Q : Exit → Act → World → Prop} (w : World) (hgd : o.guard = none) (s x : Operand)
    (ho : o.op = .call { callee := .builtin .append, args := #[s, x], argTypes := #[72, 72] }) (v : Value) (xs : List (Option Nat)) (n : Nat) (hxn : xs.length = n) (y : Nat) (hs : a.eval s = v) (h : OwnOf pCells 1 80 w 0 v xs) (H c : Nat)
    (hx : a.eval x = .slice (some ⟨H, 0, none⟩) 1 c) (hH : w.heap.size = H) (hl : n ≤ 1000000)
    (hK : ∀ g cap w', OwnOf pCells 1 80 w' 0 (.slice (some ⟨g, 0, none⟩) (n + 1) cap) (xs ++ [some y]) → (w.alloc (.cells #[.pointer (some ⟨y, 0, none⟩)] 80)).grownBy w' v.ownBlock → (v.ownBlock = some g ∨ g = w.heap.size + 1) → wpList Try.prog ops Q rest (a.put o.dst (.slice (some ⟨g, 0, none⟩) (n + 1) cap)) w') :
    wpList Try.prog ops Q (o :: rest) a (w.alloc (.cells #[.pointer (some ⟨y, 0, none⟩)] 80)) := by
  obtain ⟨i0, hi, hz0, hz1, hz2⟩ := info_parts info_rob
  subst hH hxn
  refine wpList_append_lies _ hgd s x 72 ho 0 80 i0 (.pointer none) 1 8 Try.underlying72 hi hz0 hz1 hz2 rfl (by decide) v xs.length (xs.flatMap pCells) hs (World.ownsRow.alloc h _) ⟨w.heap.size, 0, none⟩ 1 c (pCells (some y)) hx rfl ?_ ?_ (by omega) (by unfold maxLen; omega) (by omega) (by simp) (w.heap.size + 1) (by simp) ?_
  · exact World.news_of_block (heap_alloc_new w _)
  · intro u hu; simp [pCells] at hu; rw [hu]; rfl
  · intro g cap w' hown hgrow hat hlt
    refine hK g cap w' ?_ hgrow hat
    unfold OwnOf
    simp only [List.length_append, List.length_cons, List.length_nil, List.flatMap_append, List.flatMap_cons, List.flatMap_nil, List.append_nil]
    exact hown
theorem make_inval {most : Nat} {L : ObL} {f : Int} (h : f < 0) : makeO most L f = ⟨0, 2, L⟩ := if_pos h
theorem make_busy {most : Nat} {L : ObL} {f : Int} (h : ¬ f < 0) (h1 : findO L f ≠ 0) : makeO most L f = ⟨0, 8, L⟩ := by unfold makeO; rw [if_neg h, if_pos h1]
theorem make_full {most : Nat} {L : ObL} {f : Int} (h : ¬ f < 0) (h1 : findO L f = 0) (h2 : most ≤ (idsO L).length) : makeO most L f = ⟨0, 5, L⟩ := by unfold makeO; rw [if_neg h, if_neg (fun k => k h1), if_pos h2]
theorem make_eq {most : Nat} {L : ObL} {f : Int} (h : ¬ f < 0) (h1 : findO L f = 0) (h2 : ¬ most ≤ (idsO L).length) : makeO most L f = ⟨(firstO L : Int) + 1, 0, putO L (firstO L) (some ⟨f, 1, []⟩)⟩ := by unfold makeO; rw [if_neg h, if_neg (fun k => k h1), if_neg h2]
theorem find_pos {most : Nat} {L : ObL} (hg : GoodOs most L) (f : Int) : 0 ≤ findO L f ∧ findO L f ≤ L.length := by
  rcases find_cases hg f with ⟨h, _⟩ | ⟨i, h, h1⟩
  · omega
  · have := hasF_lt h1
    omega
section
variable {w w' : World} {q most : Nat} {v : Value} {L : ObL} {S : Nat → ObP}
theorem ro_make_no (h : RO w q most v L S) (hg : GoodOs most L) (f : Int) (hf : okI f) (hno : f < 0 ∨ findO L f ≠ 0) : Calls Try.prog 12 #[.pointer (some ⟨q, 0, none⟩), .int .i64 f] w fun e w' => e = .returned (.tuple #[.int .i64 (makeO most L f).n, .int .i64 (makeO most L f).e]) ∧ ALo DRO w w' q most (blkO q v L S) (makeO most L f).L := by
  have HS := Lib.hid (fun w' => DRO.same (w' := w') h hg)
  by_cases h0 : f < 0
  · rw [make_inval h0]
    have d0 : decide (f < 0) = true := decide_eq_true h0
    clear h hg hno hf
    go_enter Try.func12, Try.ntmps12
    go_wp2_with fail
    go_ret2
    exact ⟨rfl, HS.out _ (grown_refl _ _)⟩
  · have h1 : findO L f ≠ 0 := by
      rcases hno with h1 | h1
      · exact absurd h1 h0
      · exact h1
    rw [make_busy h0 h1]
    have HO := Lib.hid (ro_of h hg f)
    have hp := find_pos hg f
    have d0 : decide (f < 0) = false := decide_eq_false h0
    have d1 : decide (findO L f > 0) = true := decide_eq_true (by omega)
    clear h hg hno hf
    generalize findO L f = z at *
    go_enter Try.func12, Try.ntmps12
    go_wp2_with fail
    refine HO.out.mono ?_
    rintro e w2 ⟨rfl, g2⟩
    have G2 := Lib.hid g2
    clear g2
    go_wp2_with fail
    go_ret2
    exact ⟨rfl, HS.out _ G2.out⟩
set_option maxHeartbeats 1000000 in
theorem ro_make_full (h : RO w q most v L S) (hg : GoodOs most L) (f : Int) (hf : okI f) (h0 : ¬ f < 0) (h1 : findO L f = 0) (hfull : most ≤ (idsO L).length) : Calls Try.prog 12 #[.pointer (some ⟨q, 0, none⟩), .int .i64 f] w fun e w' => e = .returned (.tuple #[.int .i64 (makeO most L f).n, .int .i64 (makeO most L f).e]) ∧ ALo DRO w w' q most (blkO q v L S) (makeO most L f).L := by
  have HS := Lib.hid (fun w' => DRO.same (w' := w') h hg)
  rw [make_full h0 h1 hfull]
  have HO := Lib.hid (ro_of h hg f)
  rw [h1] at HO
  have hl := Nat.le_trans hg.len hg.most
  have hmost := hg.most
  have hle := ids_le (L := L)
  have HR := Lib.hid h
  have d0 : decide (f < 0) = false := decide_eq_false h0
  have d1 : decide (((idsO L).length : Int) ≥ (most : Int)) = true := decide_eq_true (by omega)
  have HI := Lib.hid (fun W (k : w.grownBy W none) => ro_ids (h.grow rpdOk k) hl)
  obtain ⟨m, hm⟩ : ∃ m, (idsO L).length = m := ⟨_, rfl⟩
  rw [hm] at d1 hle hfull
  have HN := Lib.hid hm
  clear h hg hm h1 hf
  go_enter Try.func12, Try.ntmps12
  go_wp2_with fail
  refine HO.out.mono ?_
  rintro e w2 ⟨rfl, g2⟩
  have G2 := Lib.hid g2
  have gd := grown_trans g2 (grown_drew1 w2)
  have HI2 := Lib.hid (HI.out _ gd)
  have hkd := (HR.out.grow rpdOk gd).at.1
  have HD := Lib.hid (HR.out.grow rpdOk gd)
  clear g2 gd HI
  go_wp2_with fail
  go_region_held3 (fun W => W.cell? ⟨q, 0, none⟩ = some (.int .i64 most)) (exact hkd)
    (first | (go_at_call 27; with_reducible refine (HI2.out.mono ?_); rintro e w3 ⟨u, rfl, hu, ho, g3⟩; obtain ⟨s2, c2, hv⟩ := rowOf_form hu; rw [HN.out] at hv; subst hv; have HG3 := Lib.hid g3; replace hkd := (HD.out.grow rpdOk g3).at.1; clear hu ho g3))
  go_wp2_with fail
  go_ret2
  exact ⟨rfl, HS.out _ (grown_trans (grown_trans G2.out (grown_drew1 _)) HG3.out)⟩
theorem rpd_nil (w : World) : RPD w (.slice none 0 0) [] [] := ⟨OwnOf.nil _ _, rfl⟩
/-- A new object. -/
theorem ob_new (w : World) (f : Int) : ObB RPD 82 (w.alloc (.cells #[.int .i64 f, .int .i64 1, .slice none 0 0] 82 (0, 0))) ⟨f, 1, []⟩ ⟨w.heap.size, .slice none 0 0, []⟩ :=
  ⟨heap_alloc_new w _, rpd_nil _, fun h => by cases h⟩
set_option maxHeartbeats 4000000 in
theorem ro_make_yes (h : RO w q most v L S) (hg : GoodOs most L) (f : Int) (hf : okI f) (h0 : ¬ f < 0) (h1 : findO L f = 0) (hno : ¬ most ≤ (idsO L).length) : Calls Try.prog 12 #[.pointer (some ⟨q, 0, none⟩), .int .i64 f] w fun e w' => e = .returned (.tuple #[.int .i64 (makeO most L f).n, .int .i64 (makeO most L f).e]) ∧ ALo DRO w w' q most (blkO q v L S) (makeO most L f).L := by
  have hrg := make_good (f := f) hg hf.2
  rw [make_eq h0 h1 hno] at hrg ⊢
  have HRg := Lib.hid hrg
  have HO := Lib.hid (ro_of h hg f)
  rw [h1] at HO
  have hl := Nat.le_trans hg.len hg.most
  have hmost := hg.most
  have hle := ids_le (L := L)
  have HR := Lib.hid h
  have d0 : decide (f < 0) = false := decide_eq_false h0
  have d1 : decide (((idsO L).length : Int) ≥ (most : Int)) = false := decide_eq_false (by omega)
  have HI := Lib.hid (fun W (k : w.grownBy W none) => ro_ids (h.grow rpdOk k) hl)
  obtain ⟨m, hm⟩ : ∃ m, (idsO L).length = m := ⟨_, rfl⟩
  rw [hm] at d1 hle hno
  have HN := Lib.hid hm
  clear h hg hm h1 hf hrg
  go_enter Try.func12, Try.ntmps12
  go_wp2_with fail
  refine HO.out.mono ?_
  rintro e w2 ⟨rfl, g2⟩
  have G2 := Lib.hid g2
  have gd := grown_trans g2 (grown_drew1 w2)
  have HI2 := Lib.hid (HI.out _ gd)
  have hkd := (HR.out.grow rpdOk gd).at.1
  have HD := Lib.hid (HR.out.grow rpdOk gd)
  clear g2 gd HI
  go_wp2_with fail
  go_region_held3 (fun W => W.cell? ⟨q, 0, none⟩ = some (.int .i64 most)) (exact hkd)
    (first | (go_at_call 27; with_reducible refine (HI2.out.mono ?_); rintro e w3 ⟨u, rfl, hu, ho, g3⟩; obtain ⟨s2, c2, hv⟩ := rowOf_form hu; rw [HN.out] at hv; subst hv; have HG3 := Lib.hid g3; replace hkd := (HD.out.grow rpdOk g3).at.1; clear hu ho g3))
  have g5 := grown_trans (grown_trans (grown_trans G2.out (grown_drew1 w2)) HG3.out) (World.grownBy_alloc w3 (.cells #[.int .i64 f, .int .i64 1, .slice none 0 0] 82 (0, 0)) none)
  have hw3 : w.heap.size ≤ w3.heap.size := (grown_trans (grown_trans G2.out (grown_drew1 w2)) HG3.out).size
  have HB := Lib.hid (ob_new w3 f)
  generalize hw5 : w3.alloc (.cells #[.int .i64 f, .int .i64 1, .slice none 0 0] 82 (0, 0)) = w5 at *
  have hP5 := HR.out.grow rpdOk g5
  have c5 := hP5.at.2
  obtain ⟨s, c, hv⟩ := hP5.form
  subst hv
  have HP := Lib.hid hP5
  have HG5 := Lib.hid g5
  have HF2 := Lib.hid (show ∀ b, b ∈ ObP.blk ⟨w3.heap.size, .slice none 0 0, []⟩ → w.heap.size ≤ b from fun b hb => by
    rcases ObP.mem.1 hb with e | e
    · have e : b = w3.heap.size := e; omega
    · cases e)
  have HO := Lib.hid (show ∀ b, b ∈ ObP.blk ⟨w3.heap.size, .slice none 0 0, []⟩ → b ∉ blkO q (.slice s L.length c) L S from fun b hb hm => by have := HF2.out b hb; have := HR.out.lt rpdOk b hm; omega)
  clear HI2 HD HG3 hkd d1 HN hno hle G2 g5 hP5
  go_wp2_with fail
  go_loopw [34] (fun iv wr => ∃ j : Nat, j ≤ L.length ∧ iv = .int .i64 j ∧ Hid (∀ i, i < j → liveO L i = true) ∧ wr = w5) (fun iv _ => L.length - (intOf iv).toNat)
  case atStart => exact ⟨0, by omega, rfl, fun i hi => by omega, rfl⟩
  case round =>
    obtain ⟨j, hj, rfl, HZ, rfl⟩ := hrel
    by_cases hlt : j < L.length
    · obtain ⟨g, c2, hv⟩ := HP.out.there (by omega)
      injection hv with e1 e2 e3
      subst e1 e3
      cases hlv : liveO L j with
      | true =>
        obtain ⟨x, hx⟩ := live_get hlv
        have k0 := HP.out.live hlt hx
        have hq := eql_rob
        have HN := Lib.hid (show ∀ i, i < j + 1 → liveO L i = true from fun i hi => by
          by_cases e : i = j
          · rw [e]; exact hlv
          · exact HZ.out i (by omega))
        clear hx hlv HZ
        go_wp2_with fail
        go_roundw
        case rel => exact ⟨j + 1, by omega, by go_num, HN, by trivial⟩
        case measure => simp [intOf]; omega
      | false =>
        have k0 := HP.out.dead hlt hlv
        have z0 := HP.out.vfrozen j
        have hfi := first_eq HZ.out hlv (by omega)
        have HFI := Lib.hid hfi
        obtain ⟨m1, m2, m3⟩ := HP.out.put rpdOk (i := j) (by omega) hlt HB.out HO.out
        have HM1 := Lib.hid m1
        have HM2 := Lib.hid m2
        have HM3 := Lib.hid m3
        clear hfi m1 m2 m3 HZ hlv
        go_wp2_with fail
        go_ret2
        refine ⟨by rw [HFI.out]; rfl, ?_⟩
        rw [HFI.out] at HRg ⊢
        refine ⟨_, ⟨_, _, by unfold RO; rw [putO_len, if_pos hlt]; exact HM1.out, HRg.out, rfl⟩, (Turn.grown HG5.out).trans' HM2.out, fun b hb => ?_⟩
        rcases HM3.out b hb with e | e
        · exact .inl e
        · exact .inr (HF2.out b e)
    · obtain rfl : j = L.length := by omega
      have hfi := first_eq HZ.out (liveO_out (Nat.le_refl _)) (Nat.le_refl _)
      have HFI := Lib.hid hfi
      rw [HFI.out] at HRg
      have z0 := HP.out.frozen 1
      have hrow := HP.out.row
      clear hfi HZ
      have ga := World.grownBy_alloc wr (.cells #[.pointer (some ⟨w3.heap.size, 0, none⟩)] 80 (0, 0)) none
      have HPa := Lib.hid (HP.out.grow rpdOk ga)
      have HBa := Lib.hid (HB.out.grow rpdOk ga)
      have HGa := Lib.hid (grown_trans HG5.out ga)
      have hs := World.size_alloc wr (.cells #[.pointer (some ⟨w3.heap.size, 0, none⟩)] 80 (0, 0))
      have hbl := HB.out.lt rpdOk
      have hlast : ∀ (g9 c9 : Nat) (w9 : World), OwnOf pCells 1 80 w9 0 (.slice (some ⟨g9, 0, none⟩) (L.length + 1) c9) (ptrs L S L.length ++ [some w3.heap.size]) → (wr.alloc (.cells #[.pointer (some ⟨w3.heap.size, 0, none⟩)] 80 (0, 0))).grownBy w9 (Value.slice s L.length c).ownBlock → ((Value.slice s L.length c).ownBlock = some g9 ∨ g9 = wr.heap.size + 1) → w9.frozen? ⟨q, 1, none⟩ = false ∧ w9.cell? ⟨q, 1, none⟩ = some (.slice s L.length c) ∧ ALo DRO w (w9.setCell ⟨q, 1, none⟩ (.slice (some ⟨g9, 0, none⟩) (L.length + 1) c9)) q most (blkO q (.slice s L.length c) L S) (putO L L.length (some ⟨f, 1, []⟩)) ∧ (w9.setCell ⟨q, 1, none⟩ (.slice (some ⟨g9, 0, none⟩) (L.length + 1) c9)).cell? ⟨q, 1, none⟩ = some (.slice (some ⟨g9, 0, none⟩) (L.length + 1) c9) := by
        intro g9 c9 w9 hown9 hgrow9 hat9
        have hh : w9.heap[q]? = some (.cells #[.int .i64 most, .slice s L.length c] 74 (0, 0)) := (hgrow9.block q HPa.out.plt fun e => HPa.out.ne e.symm).trans HPa.out.head
        obtain ⟨m1, m2, m3⟩ := HPa.out.more rpdOk (y := ⟨f, 1, []⟩) (P := ⟨w3.heap.size, .slice none 0 0, []⟩) rfl hgrow9 hown9 (fun b e => by
          have e : g9 = b := by simpa [Value.ownBlock] using e
          subst e
          rcases hat9 with h | h
          · exact .inl h
          · exact .inr (by rw [hs]; omega)) HBa.out HO.out (fun b e => by
          have e : g9 = b := by simpa [Value.ownBlock] using e
          subst e
          intro hm
          rcases hat9 with h | h
          · exact HO.out _ hm (mem_blkO.2 (.inr (.inl h)))
          · have := hbl _ hm; omega)
        refine ⟨frozen_of_row _ _ _ _ _ hh, by rw [cell_of_row _ _ _ _ _ _ hh]; rfl, ⟨_, ⟨_, _, by unfold RO; rw [putO_len, if_neg (Nat.lt_irrefl _)]; exact m1, HRg.out, rfl⟩, (Turn.grown HGa.out).trans' m2, fun b hb => ?_⟩, m1.at.2⟩
        rcases m3 b hb with e | e | e
        · exact .inl e
        · exact .inr (Nat.le_trans HGa.out.size e)
        · exact .inr (HF2.out b e)
      have HL := Lib.hid hlast
      clear hlast hrow z0 hbl hs ga HPa HBa HGa HG5
      go_wp2_with (at_builtin; refine wpList_ppush wr rfl _ _ rfl (.slice s L.length c) (ptrs L S L.length) L.length ptrs_len w3.heap.size rfl HP.out.row wr.heap.size 1 rfl rfl (by omega) ?_; intro g9 c9 w9 hown9 hgrow9 hat9; obtain ⟨z9, k9, hm9, e9⟩ := HL.out g9 c9 w9 hown9 hgrow9 hat9; have HM := Lib.hid hm9; clear hown9 hgrow9 hat9 hm9)
      go_ret2
      refine ⟨by rw [HFI.out]; rfl, ?_⟩
      rw [HFI.out]
      exact HM.out
theorem ro_make (h : RO w q most v L S) (hg : GoodOs most L) (f : Int) (hf : okI f) : Calls Try.prog 12 #[.pointer (some ⟨q, 0, none⟩), .int .i64 f] w fun e w' => e = .returned (.tuple #[.int .i64 (makeO most L f).n, .int .i64 (makeO most L f).e]) ∧ ALo DRO w w' q most (blkO q v L S) (makeO most L f).L := by
  by_cases h0 : f < 0
  · exact ro_make_no h hg f hf (.inl h0)
  · by_cases h1 : findO L f = 0
    · by_cases h2 : most ≤ (idsO L).length
      · exact ro_make_full h hg f hf h0 h1 h2
      · exact ro_make_yes h hg f hf h0 h1 h2
    · exact ro_make_no h hg f hf (.inr h1)
end
end Go.Proofs.Ytefcefclncbimaa
