/- Package spread (landed): At, raise, join. -/
import Derived.Test.YtfmihbiongnpnaaJDb
namespace Go.Proofs.Ytfmihbiongnpnaa
open Go.ChangeShapes Go.WideShapes Go.ChangeAt Go.RowKit Go.Deep
set_option linter.unusedVariables false

section
variable {w w' : World} {p : Nat} {v : Value} {L : List Int}
set_option maxHeartbeats 1000000 in
theorem sp_at (h : SD w p v L) (hk : JOk L) (i : Int) (hi : okI i) : Calls Try.prog 37 #[.pointer (some ⟨p, 0, none⟩), .int .i64 i] w fun e w' => e = .returned (.int .i64 (atJ L i)) ∧ w.grownBy w' none := by
  have HLn := Lib.hid (sp_len h hk)
  by_cases h0 : i < 0
  · rw [show atJ L i = -1 from if_neg (by omega)]
    clear h hk
    go_enter Try.func37, Try.ntmps37
    go_wp2_with fail
    go_ret
    exact ⟨rfl, grown_refl _ _⟩
  · have d0 : decide (i < 0) = false := decide_eq_false h0
    by_cases h1 : i < L.length
    · have d1 : decide (i ≥ (L.length : Int)) = false := decide_eq_false (by omega)
      have hs := (runsJ_side L).loose
      have hle := runs_le hk
      have hrow := h.row
      obtain ⟨c0, c1⟩ := h.at
      obtain ⟨R, hR⟩ : ∃ R, runsJ L = R := ⟨_, rfl⟩
      rw [hR] at hs hle hrow
      have hne : R ≠ [] := fun e => by rw [e] at hs; have : (0 : Int) = L.length := hs; omega
      rcases hrow.form with ⟨_, e⟩ | ⟨g, o, c, hv, hc, hg⟩
      · exact (hne e).elim
      subst hv
      obtain ⟨k, hf⟩ := hs.find_ex i
      have hk1 : k < R.length := by
        rcases Nat.lt_or_ge k R.length with h2 | h2
        · exact h2
        · have e : k = R.length := by have := hf.le; omega
          rw [e] at hf
          have := hs.found_end (by omega) (by omega) hf
          omega
      obtain ⟨r, hr⟩ : ∃ r, R[k]? = some r := ⟨_, List.getElem?_eq_getElem hk1⟩
      obtain ⟨g', o', c', hv', k0, k1, k2⟩ := hrow.at hr
      cases hv'
      have h3 := hs.found (by omega) hf hr
      have h4 := (hs.at (List.mem_of_getElem? hr)).2.2.2 i.toNat (by omega) (by omega)
      have hat : atJ L i = r.n := by
        unfold atJ
        rw [if_pos ⟨by omega, h1⟩, h4]
      rw [← hat] at k2
      have HF := Lib.hid (show ∀ W, w.grownBy W none → _ from fun W gW => find_at (hrow.grow gW) hs hle hf)
      have HW := Lib.hid (grown_drew1 w)
      have hk0 : (0 : Int) ≤ (k : Int) := by omega
      have hk2 : (k : Int) < (R.length : Int) := by omega
      clear h hk hs hrow hR hne h0 h1 hf hr h3 h4 hat k0 k1
      go_enter Try.func37, Try.ntmps37
      go_wp2_with fail
      refine HLn.out.mono ?_
      rintro e w2 ⟨rfl, e2⟩
      subst w2
      have hkd : w.drew.cell? ⟨p, 1, none⟩ = some (.slice (some ⟨g, o, none⟩) R.length c) ∧ w.drew.cell? ⟨g, o + k * 3 + 2, none⟩ = some (.int .i64 (atJ L i)) := ⟨c1, k2⟩
      go_wp2_with fail
      go_region_held3 (fun W => W.cell? ⟨p, 1, none⟩ = some (.slice (some ⟨g, o, none⟩) R.length c) ∧ W.cell? ⟨g, o + k * 3 + 2, none⟩ = some (.int .i64 (atJ L i))) (first | exact hkd)
        (first | (go_at_call 49; with_reducible refine ((HF.out _ HW.out).mono ?_); rintro e w3 ⟨rfl, g3⟩; replace hkd := And.intro (g3.cell hkd.1 (by simp)) (g3.cell hkd.2 (by simp)); have HG3 := Lib.hid (grown_trans HW.out g3); clear g3))
      all_goals
        go_wp2_with fail
        go_ret
        exact ⟨rfl, HG3.out⟩
    · rw [show atJ L i = -1 from if_neg (by omega)]
      have d1 : decide (i ≥ (L.length : Int)) = true := decide_eq_true (by omega)
      clear h hk h0 h1
      go_enter Try.func37, Try.ntmps37
      go_wp2_with fail
      refine HLn.out.mono ?_
      rintro e w2 ⟨rfl, e2⟩
      subst w2
      go_wp2_with fail
      go_ret
      exact ⟨rfl, grown_refl _ _⟩
end

/-- What raise answers. -/
def RaiseA (w : World) (R : List JR) (by_ : Int) (d : Bool) (e : Ending) (w' : World) : Prop :=
  ∃ u', e = .returned (.tuple #[u', .bool d]) ∧ (d = true → RunsC w' u' (R.map (raiseJ by_)) ∧ ∀ b, u'.ownBlock = some b → w.heap.size ≤ b) ∧ w.grownBy w' none ∧ ∃ a l c, u' = .slice a l c
theorem raiseA_no {w w' : World} {R : List JR} {by_ : Int} {d : Bool} (h : d = false) (g : w.grownBy w' none) : RaiseA w R by_ d (.returned (.tuple #[.slice none 0 0, .bool false])) w' := by
  subst h
  exact ⟨_, rfl, (fun e => by cases e), g, _, _, _, rfl⟩
theorem raiseA_yes {w w' : World} {R : List JR} {by_ : Int} {d : Bool} {u : Value} (h : d = true) (hj : RMk w w' u (R.map (raiseJ by_))) : RaiseA w R by_ d (.returned (.tuple #[u, .bool true])) w' := by
  subst h
  obtain ⟨a, c, e⟩ := OwnOf.form hj.own
  exact ⟨_, rfl, fun _ => ⟨ROwn.runs hj.own, fun b hb => (OwnOf.lt hj.own hb).1⟩, hj.grown, _, _, _, e⟩
set_option maxHeartbeats 2000000 in
/-- All more by so much; if all may be. -/
theorem raise_ok {w : World} {u : Value} {R : List JR} (h : RunsC w u R) (hl : R.length ≤ 4096) (hR : ∀ r, r ∈ R → 0 ≤ r.n ∧ r.n ≤ 1000000) (by_ : Int) (hby : okI by_) (d : Bool) (hd : d = decide (∀ r, r ∈ R → 0 ≤ r.n + by_ ∧ r.n + by_ ≤ 1000000)) :
    Calls Try.prog 58 #[u, .int .i64 by_] w (RaiseA w R by_ d) := by
  obtain ⟨hb0, hb1⟩ := hby
  have HH := Lib.hid h
  have HR := Lib.hid hR
  have HD := Lib.hid hd
  have HI := Lib.hid (show RMk w w (.slice none 0 0) ((R.take 0).map (raiseJ by_)) from MkOf.nil w)
  obtain ⟨sa, sc, hv, -⟩ := h.slice
  subst hv
  clear h hR hd
  go_enter Try.func58, Try.ntmps58
  go_wp2_with fail
  go_loopw [6, 8, 11] (fun vv _ iv wr => ∃ j : Nat, j ≤ R.length ∧ iv = .int .i64 j ∧ Hid (∀ i r, i < j → R[i]? = some r → 0 ≤ r.n + by_ ∧ r.n + by_ ≤ 1000000) ∧ Hid (RMk w wr vv ((R.take j).map (raiseJ by_)))) (fun _ _ iv _ => R.length - (intOf iv).toNat)
  case atStart => exact ⟨0, by omega, rfl, fun i r hi => by omega, HI⟩
  case round =>
    clear HI
    obtain ⟨j, hj, rfl, HO, HJ⟩ := hrel
    by_cases hlt : j < R.length
    · obtain ⟨r, hr⟩ : ∃ r, R[j]? = some r := ⟨_, List.getElem?_eq_getElem hlt⟩
      obtain ⟨g, o, c', hv', k0, k1, k2⟩ := (HH.out.grow HJ.out.grown).at hr
      injection hv' with e1 e2 e3
      subst e1 e3
      have hr0 := (HR.out r (List.mem_of_getElem? hr)).1
      have hr1 := (HR.out r (List.mem_of_getElem? hr)).2
      have htk : (R.take (j + 1)).map (raiseJ by_) = (R.take j).map (raiseJ by_) ++ [raiseJ by_ r] := by rw [takel_at hr, List.map_append]; rfl
      have hln : ((R.take j).map (raiseJ by_)).length = j := by rw [List.length_map, List.length_take]; omega
      have ga := World.grownBy_alloc wr (.cells #[.int .i64 r.lo, .int .i64 r.hi, .int .i64 r.n] 95) none
      have hb := RunB.new wr r
      have HJ2 := Lib.hid (HJ.out.grow ga)
      have HRm := Lib.hid (List.mem_of_getElem? hr)
      obtain ⟨rl, rh, rn⟩ := r
      simp only at *
      generalize hwB : wr.alloc (.cells #[.int .i64 rl, .int .i64 rh, .int .i64 rn] 95 (0, 0)) = wB at *
      obtain ⟨b0, b1, b2⟩ := hb.at
      simp only at b0 b1 b2
      by_cases hok : 0 ≤ rn + by_ ∧ rn + by_ ≤ 1000000
      · have e1 : decide (by_ < -rn) = false := decide_eq_false (by omega)
        have e2 : decide (by_ > 1000000 - rn) = false := decide_eq_false (by omega)
        have HN := Lib.hid (show ∀ i r, i < j + 1 → R[i]? = some r → 0 ≤ r.n + by_ ∧ r.n + by_ ≤ 1000000 from fun i s hi hs => by
          by_cases e : i = j
          · subst e; rw [hr] at hs; cases hs; exact hok
          · exact HO.out i s (by omega) hs)
        have hfz := hb.frozen 2
        have hx0 := hok.1
        have hx1 := hok.2
        have hy := wB.heap.size
        have hlt2 : wr.heap.size < wB.heap.size := by rw [← hwB]; simp
        have hbs : RunB (wB.setCell ⟨wr.heap.size, 2, none⟩ (.int .i64 (rn + by_))) wr.heap.size ⟨rl, rh, rn + by_⟩ := heap_setCell_same wB wr.heap.size 2 _ _ (.int .i64 (rn + by_)) hb
        have hj3 : RMk w (wB.setCell ⟨wr.heap.size, 2, none⟩ (.int .i64 (rn + by_))) _ ((R.take j).map (raiseJ by_)) := ⟨grown_at HJ2.out.grown (grown_set _ _ _ _) HJ.out.grown.size, OwnOf.kept HJ2.out.own fun b e => heap_setCell_other wB _ _ _ (by have := (OwnOf.lt HJ.out.own e).2; first | exact fun e => by (have e : wr.heap.size = b := e); omega | exact fun e => by (have e : b = wr.heap.size := e); omega)⟩
        obtain ⟨k0', k1', k2'⟩ := hbs.at
        simp only at k0' k1' k2'
        have HJ3 := Lib.hid hj3
        obtain ⟨va, vc, hvf⟩ := OwnOf.form HJ.out.own
        rw [hln] at hvf
        subst hvf
        have HTK := Lib.hid htk
        have HLN := Lib.hid hln
        have hsz3 : (wB.setCell ⟨wr.heap.size, 2, none⟩ (.int .i64 (rn + by_))).heap.size = wB.heap.size := by simp
        clear hok hr htk hj3 hbs hb hln HO
        go_wp2_with (at_builtin; refine wpList_rpush (wB.setCell ⟨wr.heap.size, 2, none⟩ (.int .i64 (rn + by_))) rfl _ _ rfl w.heap.size _ ((R.take j).map (raiseJ by_)) ⟨rl, rh, rn + by_⟩ (by rfl) HJ3.out.own wB.heap.size _ (by rfl) hsz3 (by rw [HLN.out]; omega) HJ2.out.grown.size ?_; intro g8 cap8 w8 hown8 hg8)
        rw [HLN.out] at hown8
        have HJ4 := Lib.hid (HJ3.out.app hg8 hown8)
        clear hown8 hg8
        go_wp2_with fail
        go_roundw
        case rel => exact ⟨j + 1, by omega, by go_num, HN, by rw [HTK.out]; exact HJ4⟩
        case measure => simp [intOf]; omega
      · have hd2 : d = false := by
          rw [HD.out]
          exact decide_eq_false fun k => hok (k _ HRm.out)
        have HD2 := Lib.hid hd2
        clear hd2
        rcases (show by_ < -rn ∨ (¬ by_ < -rn ∧ by_ > 1000000 - rn) by omega) with e1 | ⟨e1, e2⟩
        all_goals
          clear hok hr htk hb hln HO
          go_wp2_with fail
          go_ret2
          exact raiseA_no HD2.out HJ2.out.grown
    · obtain rfl : j = R.length := by omega
      have hd2 : d = true := by
        rw [HD.out]
        exact decide_eq_true fun r hr => by
          obtain ⟨i, hi⟩ := List.getElem?_of_mem hr
          exact HO.out i r (List.getElem?_eq_some_iff.1 hi).1 hi
      have HD2 := Lib.hid hd2
      clear hd2
      rw [List.take_length] at HJ
      go_wp2_with fail
      go_ret2
      exact raiseA_yes HD2.out HJ.out
end Go.Proofs.Ytfmihbiongnpnaa
