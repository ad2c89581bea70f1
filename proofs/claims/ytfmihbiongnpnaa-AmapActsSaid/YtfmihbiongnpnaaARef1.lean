/- The document's amaps of layer 13: New, Of, Ids, Slots, Cover, Get. -/
import Derived.Test.YtfmihbiongnpnaaAMem
namespace Go.Proofs.Ytfmihbiongnpnaa
open Go.ChangeShapes Go.WideShapes Go.ChangeAt Go.RowKit Go.Deep
set_option linter.unusedVariables false

abbrev RA (w : World) (q most : Nat) (v : Value) (L : AmL) (S : Nat → AmP) : Prop := PoolA RS 72 53 49 (.int .i64 most) w q v L.length L S
def S0 : Nat → AmP := fun _ => ⟨0, 0, 0, []⟩
theorem PoolA.nil {D : CD} {tp ta te : TypeId} {hd : Value} {w : World} {p : Nat} (hp : w.heap[p]? = some (.cells #[hd, .slice none 0 0] tp (0, 0))) : PoolA D tp ta te hd w p (.slice none 0 0) 0 [] S0 :=
  ⟨hp, OwnOf.nil _ _, ⟨(fun i x h => by cases h), (fun i j h => by rw [show liveA [] i = false from rfl] at h; cases h)⟩, (fun e => by cases e), (fun h => by cases h), fun b e => by cases e⟩
theorem GoodL.new {n : Nat} (hn : n ≤ 4096) : GoodL n [] := ⟨Nat.zero_le _, hn, fun a h => by cases h⟩

theorem neq_ram (w : World) (a : Addr) : (binOp .neq 49 (.pointer (some a)) (.pointer none)).run Try.prog w = .ok (.bool true) w := by go_simp
theorem eql_ram (w : World) (a : Addr) : (binOp .eql 49 (.pointer (some a)) (.pointer none)).run Try.prog w = .ok (.bool false) w := by go_simp
theorem ra_new (n : Nat) (w : World) (hn : n ≤ 4096) : Calls Try.prog 10 #[.int .i64 n] w fun e w' => e = .returned (.pointer (some ⟨w.heap.size, 0, none⟩)) ∧ RA w' w.heap.size n (.slice none 0 0) [] S0 ∧ w.grownBy w' none := by
  have d0 : decide ((n : Int) < 0) = false := decide_eq_false (by omega)
  have d1 : decide ((n : Int) > 4096) = false := decide_eq_false (by omega)
  go_enter Try.func10, Try.ntmps10
  go_wp2_with fail
  go_ret
  exact ⟨rfl, PoolA.nil (heap_alloc_new w _), World.grownBy_alloc w _ none⟩
theorem ra_new_no (n : Int) (w : World) (h : ¬ (0 ≤ n ∧ n ≤ 4096)) : Calls Try.prog 10 #[.int .i64 n] w fun e w' => e = .returned (.pointer none) ∧ w.grownBy w' none := by
  rcases (show n < 0 ∨ (¬ n < 0 ∧ n > 4096) by omega) with d0 | ⟨d0, d1⟩
  all_goals
    clear h
    go_enter Try.func10, Try.ntmps10
    go_wp2_with fail
    go_ret
    exact ⟨rfl, grown_refl _ _⟩

section
variable {w w' : World} {q most : Nat} {v : Value} {L : AmL} {S : Nat → AmP}
theorem ra_of_some (h : RA w q most v L S) (hl : L.length ≤ 4096) {i : Nat} {x : AmV} (hx : L[i]? = some (some x)) : Calls Try.prog 22 #[.pointer (some ⟨q, 0, none⟩), .int .i64 ((i : Int) + 1)] w fun e w' => e = .returned (.pointer (some ⟨(S i).a, 0, none⟩)) ∧ w' = w := by
  have hi := (List.getElem?_eq_some_iff.1 hx).1
  obtain ⟨g, c, rfl⟩ := h.there (by omega)
  have c1 := h.at.2
  have k0 := h.live hi hx
  have d0 : decide ((i : Int) + 1 < 1) = false := decide_eq_false (by omega)
  have d1 : decide ((i : Int) + 1 > (L.length : Int)) = false := decide_eq_false (by omega)
  clear h hx
  go_enter Try.func22, Try.ntmps22
  go_wp2_with fail
  go_ret
  exact ⟨rfl, rfl⟩
theorem ra_of_none (h : RA w q most v L S) (hl : L.length ≤ 4096) {id : Int} (hid : okI id) (hx : ofA L id = none) : Calls Try.prog 22 #[.pointer (some ⟨q, 0, none⟩), .int .i64 id] w fun e w' => e = .returned (.pointer none) ∧ w' = w := by
  rcases of_cases L id with ⟨-, hr⟩ | ⟨i, x, -, -, -, e⟩
  · rcases hr with hr | ⟨i, rfl, hi, hd⟩
    · obtain ⟨s, c, rfl⟩ := h.form
      have c1 := h.at.2
      have dd : id < 1 ∨ (¬ id < 1 ∧ id > (L.length : Int)) := by omega
      clear h hx hr
      rcases dd with d0 | ⟨d0, d1⟩
      all_goals
        go_enter Try.func22, Try.ntmps22
        go_wp2_with fail
        go_ret
        exact ⟨rfl, rfl⟩
    · obtain ⟨g, c, rfl⟩ := h.there (by omega)
      have c1 := h.at.2
      have k0 := h.dead hi hd
      have d0 : decide ((i : Int) + 1 < 1) = false := decide_eq_false (by omega)
      have d1 : decide ((i : Int) + 1 > (L.length : Int)) = false := decide_eq_false (by omega)
      clear h hx hid hd
      go_enter Try.func22, Try.ntmps22
      go_wp2_with fail
      go_ret
      exact ⟨rfl, rfl⟩
  · rw [hx] at e; cases e

set_option maxHeartbeats 1000000 in
theorem ra_ids (h : RA w q most v L S) (hlen : L.length ≤ 4096) : Calls Try.prog 30 #[.pointer (some ⟨q, 0, none⟩)] w fun e w' => ∃ u, e = .returned u ∧ RowOf zCells 1 w' u (idsA L) ∧ (∀ b, u.ownBlock = some b → w.heap.size ≤ b) ∧ w.grownBy w' none := by
  obtain ⟨s, c, rfl⟩ := h.form
  have c1 := h.at.2
  have HR := Lib.hid h
  clear h
  go_enter Try.func30, Try.ntmps30
  go_wp2_with fail
  go_loopw [3, 11] (fun uv iv wr => ∃ j : Nat, j ≤ L.length ∧ iv = .int .i64 j ∧ Hid (ZMk w wr uv (idsATo L j))) (fun _ iv _ => L.length - (intOf iv).toNat)
  case atStart => exact ⟨0, by omega, rfl, MkOf.nil w⟩
  case round =>
    obtain ⟨j, hj, rfl, HM⟩ := hrel
    by_cases hlt : j < L.length
    · have hP := HR.out.grow rsOk HM.out.grown
      obtain ⟨g, c2, hv⟩ := hP.there (by omega)
      injection hv with e1 e2 e3
      subst e1 e3
      have hil : (idsATo L j).length ≤ j := idsATo_le
      have hsucc := idsATo_succ L j
      cases hlv : liveA L j with
      | false =>
        have k0 := hP.dead hlt hlv
        rw [if_neg (by rw [hlv]; decide), List.append_nil] at hsucc
        rw [← hsucc] at HM
        clear c1 hsucc hP hlv
        go_wp2_with fail
        go_roundw
        case rel => exact ⟨j + 1, by omega, by go_num, HM⟩
        case measure => simp [intOf]; omega
      | true =>
        obtain ⟨x, hx⟩ := live_get hlv
        have k0 := hP.live hlt hx
        rw [if_pos hlv] at hsucc
        have HS := Lib.hid hsucc
        obtain ⟨Z, hZ⟩ : ∃ Z, idsATo L j = Z := ⟨_, rfl⟩
        rw [hZ] at HM HS hil
        have hq := neq_ram
        obtain ⟨sa, sc, hu⟩ := OwnOf.form HM.out.own
        subst hu
        clear c1 hsucc hP hlv hx hZ
        go_wp2_with (at_builtin; refine wpList_zpush wr rfl _ _ rfl w.heap.size (.slice sa Z.length sc) Z ((j : Int) + 1) rfl HM.out.own wr.heap.size 1 rfl rfl (by omega) HM.out.grown.size ?_; intro g9 c9 w9 hown9 hgrow9; have HN := Lib.hid (MkOf.app HM.out hgrow9 hown9); clear hown9 hgrow9)
        go_roundw
        case rel => exact ⟨j + 1, by omega, by go_num, by rw [HS.out]; exact HN⟩
        case measure => simp [intOf]; omega
    · obtain rfl : j = L.length := by omega
      go_wp2_with fail
      go_ret
      exact ⟨_, rfl, HM.out.row, fun b hb => (OwnOf.lt HM.out.own hb).1, HM.out.grown⟩

theorem ra_slots (h : RA w q most v L S) (hl : L.length ≤ 4096) (id : Int) (hid : okI id) : Calls Try.prog 24 #[.pointer (some ⟨q, 0, none⟩), .int .i64 id] w fun e w' => e = .returned (.int .i64 (slotsA L id)) ∧ w' = w := by
  rcases of_cases L id with ⟨e, -⟩ | ⟨i, x, rfl, hi, hx, e⟩
  · rw [show slotsA L id = 0 by unfold slotsA; rw [e]]
    have HO := Lib.hid (ra_of_none h hl hid e)
    clear h e
    go_enter Try.func24, Try.ntmps24
    go_wp2_with fail
    refine HO.out.mono ?_
    rintro e w2 ⟨rfl, e2⟩
    subst w2
    go_wp2_with fail
    go_ret
    exact ⟨rfl, rfl⟩
  · rw [show slotsA L ((i : Int) + 1) = x.as.length by unfold slotsA; rw [e]]
    have HO := Lib.hid (ra_of_some h hl hx)
    have c1 := (h.am.each i x hx).at.2
    have hq := neq_ram
    clear h e hx hid
    go_enter Try.func24, Try.ntmps24
    go_wp2_with fail
    refine HO.out.mono ?_
    rintro e w2 ⟨rfl, e2⟩
    subst w2
    go_wp2_with fail
    go_ret
    exact ⟨rfl, rfl⟩

theorem ra_cover (h : RA w q most v L S) (hg : GoodL most L) (id s : Int) (hid : okI id) (hs : okI s) : Calls Try.prog 26 #[.pointer (some ⟨q, 0, none⟩), .int .i64 id, .int .i64 s] w fun e w' => e = .returned (.int .i64 (coverA L id s)) ∧ w.grownBy w' none := by
  have hl := Nat.le_trans hg.len hg.most
  rcases of_cases L id with ⟨e, -⟩ | ⟨i, x, rfl, hi, hx, e⟩
  · rw [show coverA L id s = 0 by unfold coverA; rw [e]]
    have HO := Lib.hid (ra_of_none h hl hid e)
    clear h e
    go_enter Try.func26, Try.ntmps26
    go_wp2_with fail
    refine HO.out.mono ?_
    rintro e w2 ⟨rfl, e2⟩
    subst w2
    go_wp2_with fail
    go_ret
    exact ⟨rfl, grown_refl _ _⟩
  · rw [show coverA L ((i : Int) + 1) s = covA x s by unfold coverA; rw [e]]
    have HO := Lib.hid (ra_of_some h hl hx)
    have ha := h.am.each i x hx
    have hk := (ofA_good hg e).cs
    obtain ⟨gg, cc, hr, _⟩ := ha.d
    have HA := Lib.hid (rj_at hr hk s)
    have HA2 := fun W (k : w.grownBy W none) => rj_at (hr.grow k) hk s
    have c0 := ha.at.1
    have HX := Lib.hid ha
    have hq := eql_ram
    obtain ⟨y, hy⟩ : ∃ y, atJ x.cs s = y := ⟨_, rfl⟩
    have HV := Lib.hid (show covA x s = if y < 0 then 0 else y by unfold covA; rw [hy])
    rw [hy] at HA
    by_cases h0 : y < 0
    · rw [if_pos h0] at HV
      rw [HV.out]
      clear h e hx hid hg ha hk hr hy
      go_enter Try.func26, Try.ntmps26
      go_wp2_with fail
      refine HO.out.mono ?_
      rintro e w2 ⟨rfl, e2⟩
      subst w2
      go_wp2_with fail
      refine HA.out.mono ?_
      rintro e w3 ⟨rfl, g3⟩
      have HG := Lib.hid g3
      clear g3
      go_wp2_with fail
      go_ret
      exact ⟨rfl, HG.out⟩
    · rw [if_neg h0] at HV
      rw [HV.out]
      have hb : y = atJ x.cs s := hy.symm
      clear h e hx hid hg ha hk hr
      go_enter Try.func26, Try.ntmps26
      go_wp2_with fail
      refine HO.out.mono ?_
      rintro e w2 ⟨rfl, e2⟩
      subst w2
      go_wp2_with fail
      refine HA.out.mono ?_
      rintro e w3 ⟨rfl, g3⟩
      have hB := HA2 w3 g3
      rw [hy] at hB
      have HB := Lib.hid hB
      have c3 := (HX.out.grow rsOk g3).at.1
      have HG := Lib.hid g3
      clear g3 hB HA2 hb hy c0
      go_wp2_with fail
      refine HB.out.mono ?_
      rintro e w4 ⟨rfl, g4⟩
      have HG4 := Lib.hid (grown_trans HG.out g4)
      clear g4
      go_wp2_with fail
      go_ret
      exact ⟨rfl, HG4.out⟩

theorem ra_get (h : RA w q most v L S) (hg : GoodL most L) (id s : Int) (hid : okI id) (hs : okI s) : Calls Try.prog 28 #[.pointer (some ⟨q, 0, none⟩), .int .i64 id, .int .i64 s] w fun e w' => e = .returned (.int .i64 (getA L id s)) ∧ w' = w := by
  have hl := Nat.le_trans hg.len hg.most
  have HS := Lib.hid (ra_slots h hl id hid)
  by_cases h0 : s < 0
  · rw [show getA L id s = 0 by unfold getA; cases ofA L id with | none => rfl | some a => exact if_neg (by omega)]
    clear h
    go_enter Try.func28, Try.ntmps28
    go_wp2_with fail
    go_ret
    exact ⟨rfl, rfl⟩
  · by_cases h1 : s ≥ slotsA L id
    · rw [show getA L id s = 0 by
        unfold getA
        unfold slotsA at h1
        cases e : ofA L id with
        | none => rfl
        | some a => rw [e] at h1; exact if_neg (by have h1 : s ≥ (a.as.length : Int) := h1; omega)]
      obtain ⟨z, hz⟩ : ∃ z, slotsA L id = z := ⟨_, rfl⟩
      rw [hz] at HS h1
      clear h hz
      go_enter Try.func28, Try.ntmps28
      go_wp2_with fail
      refine HS.out.mono ?_
      rintro e w2 ⟨rfl, e2⟩
      subst w2
      go_wp2_with fail
      go_ret
      exact ⟨rfl, rfl⟩
    · rcases of_cases L id with ⟨e, -⟩ | ⟨i, x, rfl, hi, hx, e⟩
      · exfalso
        apply h1
        unfold slotsA
        rw [e]
        show s ≥ 0
        omega
      · have hsl : slotsA L ((i : Int) + 1) = x.as.length := by unfold slotsA; rw [e]
        rw [hsl] at HS h1
        obtain ⟨k, rfl⟩ := Int.eq_ofNat_of_zero_le (show 0 ≤ s by omega)
        have hk : k < x.as.length := by omega
        obtain ⟨z, hz⟩ : ∃ z, x.as[k]? = some z := ⟨_, List.getElem?_eq_getElem hk⟩
        have ha := h.am.each i x hx
        have hlen : x.as.length ≤ 4096 := by have h2 := (ofA_good hg e).cs.len; have h3 := (ofA_good hg e).len; omega
        rw [show getA L ((i : Int) + 1) k = z by
          unfold getA
          rw [e]
          show anA x k = z
          unfold anA
          rw [if_pos (by omega), Int.toNat_natCast, List.getD_eq_getElem?_getD, hz]
          rfl]
        have HO := Lib.hid (ra_of_some h hl hx)
        have c1 := ha.at.2
        have c2 := ha.get hz
        clear h e hx hid hg ha hz hsl
        go_enter Try.func28, Try.ntmps28
        go_wp2_with fail
        refine HS.out.mono ?_
        rintro e w2 ⟨rfl, e2⟩
        subst w2
        go_wp2_with fail
        refine HO.out.mono ?_
        rintro e w2 ⟨rfl, e2⟩
        subst w2
        go_wp2_with fail
        go_ret
        exact ⟨rfl, rfl⟩
end
end Go.Proofs.Ytfmihbiongnpnaa
