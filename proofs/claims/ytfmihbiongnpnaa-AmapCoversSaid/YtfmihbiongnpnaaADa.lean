/- Package amap (landed): New, there, find, Slots, Get, Set, Cover, Ids. -/
import Derived.Test.YtfmihbiongnpnaaAMem
import Derived.Test.YtfmihbiongnpnaaJDl
namespace Go.Proofs.Ytfmihbiongnpnaa
open Go.ChangeShapes Go.WideShapes Go.ChangeAt Go.RowKit Go.Deep
set_option linter.unusedVariables false

abbrev PA (w : World) (p most : Nat) (v : Value) (L : AmL) (S : Nat → AmP) : Prop := PoolA DS 66 81 73 (.bool true) w p v most L S
abbrev dsS : StOk DS := spOk.toStOk
theorem neq_pam (w : World) (a : Addr) : (binOp .neq 73 (.pointer (some a)) (.pointer none)).run Try.prog w = .ok (.bool true) w := by go_simp
theorem eql_pam (w : World) (a : Addr) : (binOp .eql 73 (.pointer (some a)) (.pointer none)).run Try.prog w = .ok (.bool false) w := by go_simp
theorem eql_map (w : World) (a : Addr) : (binOp .eql 73 (.pointer none) (.pointer (some a))).run Try.prog w = .ok (.bool false) w := by
  have h1 : ∀ d : Nat, (Op.equalIn (d + 1) 73 (.pointer none) (.pointer (some a))).run Try.prog w = .ok false w := fun d => by
    simp [Op.equalIn, run_underlying Try.underlying73]
  simp only [binOp]
  simp [Op.equal, Op.maxDepth, h1 9999]
theorem neq_pool (w : World) (a : Addr) : (binOp .neq 26 (.pointer (some a)) (.pointer none)).run Try.prog w = .ok (.bool true) w := by go_simp
theorem info_pam : (Try.prog.info? 73).map (fun i => (i.zero, i.size, i.bytes)) = some (some (.pointer none), 1, 8) := by kernel_rfl
def S0a : Nat → AmP := fun _ => ⟨0, 0, 0, []⟩
theorem live_nil (i : Nat) : liveA [] i = false := rfl
theorem made_nils (n : Nat) : (madeCells #[.pointer none] (n * 1)).toList = (ptrs [] S0a n).flatMap pCells := by
  have hp : ptrs [] S0a n = List.replicate n none := by
    refine List.ext_getElem? fun j => ?_
    by_cases hj : j < n
    · rw [ptrs_at hj, live_nil, if_neg (by decide), List.getElem?_replicate, if_pos hj]
    · rw [ptrs_out hj, List.getElem?_replicate, if_neg hj]
  rw [hp, p_flat, List.map_replicate]
  apply List.ext_getElem?
  intro o
  unfold madeCells
  rw [Array.getElem?_toList, Array.getElem?_map, List.getElem?_replicate, Nat.mul_one]
  by_cases ho : o < n
  · rw [Array.getElem?_range, if_pos ho, if_pos ho]
    simp [Nat.mod_one]
  · rw [if_neg ho, Array.getElem?_eq_none (by simpa using Nat.le_of_not_lt ho)]
    rfl

theorem pa_new (n : Nat) (w : World) (hn : n ≤ 4096) : Calls Try.prog 9 #[.int .i64 n] w fun e w' => ∃ p v, e = .returned (.pointer (some ⟨p, 0, none⟩)) ∧ PA w' p n v [] S0a ∧ w.grownBy w' none ∧ (w.heap.size ≤ p ∧ ∀ b, v.ownBlock = some b → w.heap.size ≤ b) := by
  have hmk : (Instr.makeSlice 64 (.int .i64 (n : Int)) (.int .i64 (n : Int))).run Try.prog w = .ok (.slice (some ⟨w.heap.size, 0, none⟩) n n) (w.alloc (.cells (madeCells #[.pointer none] (n * 1)) 73)) := by
    obtain ⟨i0, hi, hz0, hz1, hz2⟩ := info_parts info_pam
    have hr := run_make (P := Try.prog) w 64 73 i0 _ Try.underlying64 hi hz0 .i64 .i64 (n : Int) (n : Int) (by omega) (by omega) (by rw [hz2]; omega) (by omega)
    rw [hr, Int.toNat_natCast, hz1]
    rfl
  obtain ⟨X, hX⟩ : ∃ X, X = madeCells #[.pointer none] (n * 1) := ⟨_, rfl⟩
  have hXl : X.toList = (ptrs [] S0a n).flatMap pCells := by rw [hX]; exact made_nils n
  have hXs : X.size = n * 1 := by rw [hX]; unfold madeCells; simp
  rw [← hX] at hmk
  have ga := World.grownBy_alloc w (.cells X 73 (0, 0)) none
  have gb := grown_trans ga (World.grownBy_alloc (w.alloc (.cells X 73 (0, 0))) (.cells #[.bool true, .slice (some ⟨w.heap.size, 0, none⟩) n n] 66 (0, 0)) none)
  have hb := heap_alloc_new (w.alloc (.cells X 73 (0, 0))) (.cells #[.bool true, .slice (some ⟨w.heap.size, 0, none⟩) n n] 66 (0, 0))
  rw [World.size_alloc] at hb
  have hg := (World.grownBy_alloc (w.alloc (.cells X 73 (0, 0))) (.cells #[.bool true, .slice (some ⟨w.heap.size, 0, none⟩) n n] 66 (0, 0)) none).block w.heap.size (by simp) (by simp) |>.trans (heap_alloc_new w _)
  have hrow : OwnOf pCells 1 73 ((w.alloc (.cells X 73 (0, 0))).alloc (.cells #[.bool true, .slice (some ⟨w.heap.size, 0, none⟩) n n] 66 (0, 0))) 0 (.slice (some ⟨w.heap.size, 0, none⟩) n n) (ptrs [] S0a n) :=
    ⟨by rw [flat_len pCells 1 p_len], .inr ⟨w.heap.size, n, X, by rw [ptrs_len], Nat.zero_le _, hg, by rw [ptrs_len]; exact Nat.le_refl _, by unfold maxLen; omega, hXs, by rw [ptrs_len, ← hXl, List.take_of_length_le (by simp [hXs])]⟩⟩
  have HP := Lib.hid (show PA _ (w.heap.size + 1) n (.slice (some ⟨w.heap.size, 0, none⟩) n n) [] S0a from
    ⟨hb, hrow, ⟨(fun i x h => by cases h), (fun i j h => by rw [live_nil] at h; cases h)⟩, (fun e => by simp [Value.ownBlock] at e), (fun h => by cases h), (fun b e h => by cases h)⟩)
  have HG := Lib.hid gb
  have d0 : decide ((n : Int) < 0) = false := decide_eq_false (by omega)
  have d1 : decide ((n : Int) > 4096) = false := decide_eq_false (by omega)
  clear hX hXl hXs ga gb hb hg hrow
  go_enter Try.func9, Try.ntmps9
  go_wp2_with fail
  go_ret
  exact ⟨w.heap.size + 1, _, rfl, HP.out, HG.out, by omega, fun b e => by have e : w.heap.size = b := (by simpa [Value.ownBlock] using e); omega⟩
theorem pa_new_no (n : Int) (w : World) (h : ¬ (0 ≤ n ∧ n ≤ 4096)) : Calls Try.prog 9 #[.int .i64 n] w fun e w' => e = .returned (.pointer none) ∧ w.grownBy w' none := by
  rcases (show n < 0 ∨ (¬ n < 0 ∧ n > 4096) by omega) with d0 | ⟨d0, d1⟩
  all_goals
    clear h
    go_enter Try.func9, Try.ntmps9
    go_wp2_with fail
    go_ret
    exact ⟨rfl, grown_refl _ _⟩

section
variable {w w' : World} {p most : Nat} {v : Value} {L : AmL} {S : Nat → AmP}
theorem pa_there (h : PA w p most v L S) : Calls Try.prog 32 #[.pointer (some ⟨p, 0, none⟩)] w fun e w' => e = .returned (.bool true) ∧ w' = w := by
  have c0 := h.at.1
  have hq := neq_pool
  clear h
  go_enter Try.func32, Try.ntmps32
  go_wp2_with fail
  go_ret
  exact ⟨rfl, rfl⟩
theorem pa_find_some (h : PA w p most v L S) (hg : GoodL most L) {i : Nat} {x : AmV} (hx : L[i]? = some (some x)) : Calls Try.prog 36 #[.pointer (some ⟨p, 0, none⟩), .int .i64 ((i : Int) + 1)] w fun e w' => e = .returned (.tuple #[.pointer (some ⟨(S i).a, 0, none⟩), .int .i64 0]) ∧ w' = w := by
  have hi := (List.getElem?_eq_some_iff.1 hx).1
  have hl := hg.len
  have hm := hg.most
  have hin : i < most := by omega
  obtain ⟨g, c, rfl⟩ := h.there (by omega)
  have c1 := h.at.2
  have k0 := h.live hin hx
  have HT := Lib.hid (pa_there h)
  have d0 : decide ((i : Int) + 1 < 1) = false := decide_eq_false (by omega)
  have d1 : decide ((i : Int) + 1 > (most : Int)) = false := decide_eq_false (by omega)
  have hq := eql_pam
  clear h hx hg
  go_enter Try.func36, Try.ntmps36
  go_wp2_with fail
  refine HT.out.mono ?_
  rintro e w2 ⟨rfl, e2⟩
  subst w2
  go_wp2_with fail
  go_ret2
  exact ⟨rfl, rfl⟩
theorem pa_find_none (h : PA w p most v L S) (hg : GoodL most L) {id : Int} (hid : okI id) (hx : ofA L id = none) : Calls Try.prog 36 #[.pointer (some ⟨p, 0, none⟩), .int .i64 id] w fun e w' => e = .returned (.tuple #[.pointer none, .int .i64 7]) ∧ w' = w := by
  have hl := hg.len
  have hm := hg.most
  have HT := Lib.hid (pa_there h)
  have hr : (id < 1 ∨ (¬ id < 1 ∧ id > (most : Int))) ∨ ∃ i : Nat, id = (i : Int) + 1 ∧ i < most ∧ liveA L i = false := by
    by_cases h1 : 1 ≤ id ∧ id ≤ most
    · refine .inr ⟨(id - 1).toNat, by omega, by omega, ?_⟩
      rcases of_cases L id with ⟨-, hr⟩ | ⟨i, x, -, -, -, e⟩
      · rcases hr with hr | ⟨i, rfl, hi, hd⟩
        · exact liveA_out (by omega)
        · rwa [show ((i : Int) + 1 - 1).toNat = i by omega]
      · rw [hx] at e; cases e
    · exact .inl (by omega)
  rcases hr with hr | ⟨i, rfl, hi, hd⟩
  · obtain ⟨s, c, rfl⟩ := h.form
    have c1 := h.at.2
    clear h hx hg
    rcases hr with d0 | ⟨d0, d1⟩
    all_goals
      go_enter Try.func36, Try.ntmps36
      go_wp2_with fail
      refine HT.out.mono ?_
      rintro e w2 ⟨rfl, e2⟩
      subst w2
      go_wp2_with fail
      go_ret2
      exact ⟨rfl, rfl⟩
  · obtain ⟨g, c, rfl⟩ := h.there (by omega)
    have c1 := h.at.2
    have k0 := h.dead hi hd
    have d0 : decide ((i : Int) + 1 < 1) = false := decide_eq_false (by omega)
    have d1 : decide ((i : Int) + 1 > (most : Int)) = false := decide_eq_false (by omega)
    clear h hx hid hd hg
    go_enter Try.func36, Try.ntmps36
    go_wp2_with fail
    refine HT.out.mono ?_
    rintro e w2 ⟨rfl, e2⟩
    subst w2
    go_wp2_with fail
    go_ret2
    exact ⟨rfl, rfl⟩

theorem pa_slots (h : PA w p most v L S) (hg : GoodL most L) (id : Int) (hid : okI id) : Calls Try.prog 23 #[.pointer (some ⟨p, 0, none⟩), .int .i64 id] w fun e w' => e = .returned (.int .i64 (slotsA L id)) ∧ w.grownBy w' none := by
  rcases of_cases L id with ⟨e, -⟩ | ⟨i, x, rfl, hi, hx, e⟩
  · rw [show slotsA L id = 0 by unfold slotsA; rw [e]]
    have HO := Lib.hid (pa_find_none h hg hid e)
    clear h e
    go_enter Try.func23, Try.ntmps23
    go_wp2_with fail
    refine HO.out.mono ?_
    rintro e w2 ⟨rfl, e2⟩
    subst w2
    go_wp2_with fail
    go_ret
    exact ⟨rfl, grown_refl _ _⟩
  · have hga := ofA_good hg e
    rw [show slotsA L ((i : Int) + 1) = x.as.length by unfold slotsA; rw [e]]
    have HO := Lib.hid (pa_find_some h hg hx)
    have ha := h.am.each i x hx
    have hlen := spOk.len ha.d hga.cs
    rw [hga.len] at hlen
    have HL := Lib.hid hlen
    have c1 := ha.at.1
    clear h e hx hid hga ha hlen
    go_enter Try.func23, Try.ntmps23
    go_wp2_with fail
    refine HO.out.mono ?_
    rintro e w2 ⟨rfl, e2⟩
    subst w2
    go_wp2_with fail
    refine HL.out.mono ?_
    rintro e w2 ⟨rfl, g2⟩
    have HG := Lib.hid g2
    clear g2
    go_wp2_with fail
    go_ret
    exact ⟨rfl, HG.out⟩

theorem pa_get (h : PA w p most v L S) (hg : GoodL most L) (id s : Int) (hid : okI id) (hs : okI s) : Calls Try.prog 27 #[.pointer (some ⟨p, 0, none⟩), .int .i64 id, .int .i64 s] w fun e w' => e = .returned (.int .i64 (getA L id s)) ∧ w.grownBy w' none := by
  rcases of_cases L id with ⟨e, -⟩ | ⟨i, x, rfl, hi, hx, e⟩
  · rw [show getA L id s = 0 by unfold getA; rw [e]]
    have HO := Lib.hid (pa_find_none h hg hid e)
    clear h e
    go_enter Try.func27, Try.ntmps27
    go_wp2_with fail
    refine HO.out.mono ?_
    rintro e w2 ⟨rfl, e2⟩
    subst w2
    go_wp2_with fail
    go_ret
    exact ⟨rfl, grown_refl _ _⟩
  · have hga := ofA_good hg e
    have HO := Lib.hid (pa_find_some h hg hx)
    have ha := h.am.each i x hx
    have hlen := spOk.len ha.d hga.cs
    rw [hga.len] at hlen
    have HL := Lib.hid hlen
    have HA := Lib.hid ha
    have c1 := ha.at.1
    have hle : x.as.length ≤ 4096 := by have h2 := hga.cs.len; have h3 := hga.len; omega
    rw [show getA L ((i : Int) + 1) s = anA x s by unfold getA; rw [e]]
    by_cases h0 : s < 0
    · rw [show anA x s = 0 from if_neg (by omega)]
      have d0 : decide (s < 0) = true := decide_eq_true h0
      clear h e hx hid hga ha hlen h0
      go_enter Try.func27, Try.ntmps27
      go_wp2_with fail
      refine HO.out.mono ?_
      rintro e w2 ⟨rfl, e2⟩
      subst w2
      go_wp2_with fail
      go_ret
      exact ⟨rfl, grown_refl _ _⟩
    · obtain ⟨k, rfl⟩ := Int.eq_ofNat_of_zero_le (show 0 ≤ s by omega)
      have d0 : decide ((k : Int) < 0) = false := decide_eq_false (by omega)
      by_cases h1 : k < x.as.length
      · obtain ⟨z, hz⟩ : ∃ z, x.as[k]? = some z := ⟨_, List.getElem?_eq_getElem h1⟩
        rw [show anA x k = z by
          unfold anA
          rw [if_pos (by omega), Int.toNat_natCast, List.getD_eq_getElem?_getD, hz]
          rfl]
        have HZ := Lib.hid hz
        clear h e hx hid hga ha hlen h0 hz hs
        go_enter Try.func27, Try.ntmps27
        go_wp2_with fail
        refine HO.out.mono ?_
        rintro e w2 ⟨rfl, e2⟩
        subst w2
        go_wp2_with fail
        refine HL.out.mono ?_
        rintro e w2 ⟨rfl, g2⟩
        have ha2 := HA.out.grow dsS g2
        have k1 := ha2.at.2
        have k2 := ha2.get HZ.out
        have HG := Lib.hid g2
        clear g2 ha2
        go_wp2_with fail
        go_ret
        exact ⟨rfl, HG.out⟩
      · rw [show anA x k = 0 from if_neg (by omega)]
        clear h e hx hid hga ha hlen h0 hs
        go_enter Try.func27, Try.ntmps27
        go_wp2_with fail
        refine HO.out.mono ?_
        rintro e w2 ⟨rfl, e2⟩
        subst w2
        go_wp2_with fail
        refine HL.out.mono ?_
        rintro e w2 ⟨rfl, g2⟩
        have HG := Lib.hid g2
        clear g2
        go_wp2_with fail
        go_ret
        exact ⟨rfl, HG.out⟩

theorem pa_cover (h : PA w p most v L S) (hg : GoodL most L) (id s : Int) (hid : okI id) (hs : okI s) : Calls Try.prog 25 #[.pointer (some ⟨p, 0, none⟩), .int .i64 id, .int .i64 s] w fun e w' => e = .returned (.int .i64 (coverA L id s)) ∧ w.grownBy w' none := by
  rcases of_cases L id with ⟨e, -⟩ | ⟨i, x, rfl, hi, hx, e⟩
  · rw [show coverA L id s = 0 by unfold coverA; rw [e]]
    have HO := Lib.hid (pa_find_none h hg hid e)
    clear h e
    go_enter Try.func25, Try.ntmps25
    go_wp2_with fail
    refine HO.out.mono ?_
    rintro e w2 ⟨rfl, e2⟩
    subst w2
    go_wp2_with fail
    go_ret
    exact ⟨rfl, grown_refl _ _⟩
  · have hga := ofA_good hg e
    have HO := Lib.hid (pa_find_some h hg hx)
    have ha := h.am.each i x hx
    have HA := Lib.hid (spOk.at_ ha.d hga.cs s hs)
    have c1 := ha.at.1
    rw [show coverA L ((i : Int) + 1) s = covA x s by unfold coverA; rw [e]]
    obtain ⟨y, hy⟩ : ∃ y, atJ x.cs s = y := ⟨_, rfl⟩
    have HV := Lib.hid (show covA x s = if y < 0 then 0 else y by unfold covA; rw [hy])
    rw [hy] at HA
    by_cases h0 : y < 0
    · rw [if_pos h0] at HV
      rw [HV.out]
      clear h e hx hid hga ha hs hy
      go_enter Try.func25, Try.ntmps25
      go_wp2_with fail
      refine HO.out.mono ?_
      rintro e w2 ⟨rfl, e2⟩
      subst w2
      go_wp2_with fail
      refine HA.out.mono ?_
      rintro e w2 ⟨rfl, g2⟩
      have HG := Lib.hid g2
      have hmx : max 0 y = 0 := by omega
      clear g2
      go_wp2_with fail
      go_ret
      exact ⟨rfl, HG.out⟩
    · rw [if_neg h0] at HV
      rw [HV.out]
      by_cases h1 : y = 0
      · subst h1
        clear h e hx hid hga ha hs hy
        go_enter Try.func25, Try.ntmps25
        go_wp2_with fail
        refine HO.out.mono ?_
        rintro e w2 ⟨rfl, e2⟩
        subst w2
        go_wp2_with fail
        refine HA.out.mono ?_
        rintro e w2 ⟨rfl, g2⟩
        have HG := Lib.hid g2
        clear g2
        go_wp2_with fail
        go_ret
        exact ⟨rfl, HG.out⟩
      · have h2 : ¬ y ≤ 0 := by omega
        clear h e hx hid hga ha hs hy
        go_enter Try.func25, Try.ntmps25
        go_wp2_with fail
        refine HO.out.mono ?_
        rintro e w2 ⟨rfl, e2⟩
        subst w2
        go_wp2_with fail
        refine HA.out.mono ?_
        rintro e w2 ⟨rfl, g2⟩
        have HG := Lib.hid g2
        clear g2
        go_wp2_with fail
        go_ret
        exact ⟨rfl, HG.out⟩

set_option maxHeartbeats 1000000 in
theorem pa_ids (h : PA w p most v L S) (hg : GoodL most L) : Calls Try.prog 29 #[.pointer (some ⟨p, 0, none⟩)] w fun e w' => ∃ u, e = .returned u ∧ RowOf zCells 1 w' u (idsA L) ∧ (∀ b, u.ownBlock = some b → w.heap.size ≤ b) ∧ w.grownBy w' none := by
  obtain ⟨s, c, rfl⟩ := h.form
  have c1 := h.at.2
  have HT := Lib.hid (pa_there h)
  have HR := Lib.hid h
  have hl := hg.len
  have hm := hg.most
  have HAll := Lib.hid (show idsATo L most = idsA L from by
    unfold idsA
    have : ∀ k, idsATo L (L.length + k) = idsATo L L.length := fun k => by
      induction k with
      | zero => rfl
      | succ k ih => rw [show L.length + (k + 1) = (L.length + k) + 1 by omega, idsATo_succ, ih, if_neg (by rw [liveA_out (by omega)]; decide), List.append_nil]
    have e := this (most - L.length)
    rwa [show L.length + (most - L.length) = most by omega] at e)
  clear h hg
  go_enter Try.func29, Try.ntmps29
  go_wp2_with fail
  refine HT.out.mono ?_
  rintro e w2 ⟨rfl, e2⟩
  subst w2
  go_wp2_with fail
  go_loopw [3, 14] (fun uv iv wr => ∃ j : Nat, j ≤ most ∧ iv = .int .i64 j ∧ Hid (ZMk w wr uv (idsATo L j))) (fun _ iv _ => most - (intOf iv).toNat)
  case atStart => exact ⟨0, by omega, rfl, MkOf.nil w⟩
  case round =>
    obtain ⟨j, hj, rfl, HM⟩ := hrel
    by_cases hlt : j < most
    · have hP := HR.out.grow dsS HM.out.grown
      obtain ⟨g, c2, hv⟩ := hP.there (by omega)
      injection hv with e1 e2 e3
      subst e1 e3
      have hil : (idsATo L j).length ≤ j := idsATo_le
      have hsucc := idsATo_succ L j
      cases hlv : liveA L j with
      | false =>
        have k0 := hP.dead hlt hlv
        rw [if_neg (by rw [hlv]; decide), List.append_nil] at hsucc
        rw [← hsucc] at HM
        clear c1 hsucc hP hlv
        go_wp2_with fail
        go_roundw
        case rel => exact ⟨j + 1, by omega, by go_num, HM⟩
        case measure => simp [intOf]; omega
      | true =>
        obtain ⟨x, hx⟩ := live_get hlv
        have k0 := hP.live hlt hx
        rw [if_pos hlv] at hsucc
        have HS := Lib.hid hsucc
        obtain ⟨Z, hZ⟩ : ∃ Z, idsATo L j = Z := ⟨_, rfl⟩
        rw [hZ] at HM HS hil
        have hq := neq_pam
        obtain ⟨sa, sc, hu⟩ := OwnOf.form HM.out.own
        subst hu
        clear c1 hsucc hP hlv hx hZ
        go_wp2_with (at_builtin; refine wpList_zpush wr rfl _ _ rfl w.heap.size (.slice sa Z.length sc) Z ((j : Int) + 1) rfl HM.out.own wr.heap.size 1 rfl rfl (by omega) HM.out.grown.size ?_; intro g9 c9 w9 hown9 hgrow9; have HN := Lib.hid (MkOf.app HM.out hgrow9 hown9); clear hown9 hgrow9)
        go_roundw
        case rel => exact ⟨j + 1, by omega, by go_num, by rw [HS.out]; exact HN⟩
        case measure => simp [intOf]; omega
    · obtain rfl : j = most := by omega
      rw [HAll.out] at HM
      go_wp2_with fail
      go_ret
      exact ⟨_, rfl, HM.out.row, fun b hb => (OwnOf.lt HM.out.own hb).1, HM.out.grown⟩
end
end Go.Proofs.Ytfmihbiongnpnaa
