/- The document's objects of layer 14: rows of pages; New, Object, Ids, File, Of. -/
import Derived.Test.YtefcefclncbimaaObMem
namespace Go.Proofs.Ytefcefclncbimaa
open Go.ChangeShapes Go.WideShapes Go.ChangeAt Go.RowKit Go.Deep
set_option linter.unusedVariables false

def atCells (n : Int × PgV) : List Value := [.int .i64 n.1, .int .i64 n.2.fr, .int .i64 n.2.sl, .bool n.2.d]
theorem at_len (x : Int × PgV) : (atCells x).length = 4 := rfl
theorem at_ones (xs : PgL) : ∀ u, u ∈ xs.flatMap atCells → u.oneCell' = true := by
  intro u hu
  obtain ⟨y, _, hy⟩ := List.mem_flatMap.1 hu
  simp [atCells] at hy
  rcases hy with rfl | rfl | rfl | rfl <;> rfl
def TOwn := OwnOf atCells 4 58
/-- The document's pages: a row. -/
def RPD : PD := fun w v l O => TOwn w 0 v l ∧ O = v.ownBlock.toList
theorem rpdOk : PdOk RPD where
  lt := fun h b hb => by
    obtain ⟨h1, rfl⟩ := h
    exact (OwnOf.lt h1 (by simpa using hb)).2
  kept := fun h hs hb => by
    obtain ⟨h1, rfl⟩ := h
    exact ⟨OwnOf.kept h1 fun b e => hb b (by simpa using e), rfl⟩
abbrev RO (w : World) (q most : Nat) (v : Value) (L : ObL) (S : Nat → ObP) : Prop := PoolO RPD 74 82 80 (.int .i64 most) w q v L.length L S
def S0 : Nat → ObP := fun _ => ⟨0, undef, []⟩
theorem PoolO.nil {D : PD} {tp ta te : TypeId} {hd : Value} {w : World} {p : Nat} (hp : w.heap[p]? = some (.cells #[hd, .slice none 0 0] tp (0, 0))) : PoolO D tp ta te hd w p (.slice none 0 0) 0 [] S0 :=
  ⟨hp, OwnOf.nil _ _, ⟨(fun i x h => by cases h), (fun i j h => by rw [show liveO [] i = false from rfl] at h; cases h)⟩, (fun e => by cases e), (fun h => by cases h), fun b e => by cases e⟩

theorem neq_rob (w : World) (a : Addr) : (binOp .neq 80 (.pointer (some a)) (.pointer none)).run Try.prog w = .ok (.bool true) w := by go_simp
theorem eql_rob (w : World) (a : Addr) : (binOp .eql 80 (.pointer (some a)) (.pointer none)).run Try.prog w = .ok (.bool false) w := by go_simp
theorem ro_new (n : Nat) (w : World) (hn : n ≤ 4096) : Calls Try.prog 9 #[.int .i64 n] w fun e w' => e = .returned (.pointer (some ⟨w.heap.size, 0, none⟩)) ∧ RO w' w.heap.size n (.slice none 0 0) [] S0 ∧ w.grownBy w' none := by
  have d0 : decide ((n : Int) < 0) = false := decide_eq_false (by omega)
  have d1 : decide ((n : Int) > 4096) = false := decide_eq_false (by omega)
  go_enter Try.func9, Try.ntmps9
  go_wp2_with fail
  go_ret
  exact ⟨rfl, PoolO.nil (heap_alloc_new w _), World.grownBy_alloc w _ none⟩
theorem ro_new_no (n : Int) (w : World) (h : ¬ (0 ≤ n ∧ n ≤ 4096)) : Calls Try.prog 9 #[.int .i64 n] w fun e w' => e = .returned (.pointer none) ∧ w.grownBy w' none := by
  rcases (show n < 0 ∨ (¬ n < 0 ∧ n > 4096) by omega) with d0 | ⟨d0, d1⟩
  all_goals
    clear h
    go_enter Try.func9, Try.ntmps9
    go_wp2_with fail
    go_ret
    exact ⟨rfl, grown_refl _ _⟩

section
variable {w w' : World} {q most : Nat} {v : Value} {L : ObL} {S : Nat → ObP}
theorem ro_object_some (h : RO w q most v L S) (hl : L.length ≤ 4096) {i : Nat} {x : ObV} (hx : L[i]? = some (some x)) : Calls Try.prog 35 #[.pointer (some ⟨q, 0, none⟩), .int .i64 ((i : Int) + 1)] w fun e w' => e = .returned (.pointer (some ⟨(S i).a, 0, none⟩)) ∧ w' = w := by
  have hi := (List.getElem?_eq_some_iff.1 hx).1
  obtain ⟨g, c, rfl⟩ := h.there (by omega)
  have c1 := h.at.2
  have k0 := h.live hi hx
  have d0 : decide ((i : Int) + 1 < 1) = false := decide_eq_false (by omega)
  have d1 : decide ((i : Int) + 1 > (L.length : Int)) = false := decide_eq_false (by omega)
  clear h hx
  go_enter Try.func35, Try.ntmps35
  go_wp2_with fail
  go_ret
  exact ⟨rfl, rfl⟩
theorem ro_object_none (h : RO w q most v L S) (hl : L.length ≤ 4096) {id : Int} (hid : okI id) (hx : ofO L id = none) : Calls Try.prog 35 #[.pointer (some ⟨q, 0, none⟩), .int .i64 id] w fun e w' => e = .returned (.pointer none) ∧ w' = w := by
  rcases of_cases L id with ⟨-, hr⟩ | ⟨i, x, -, -, -, e⟩
  · rcases hr with hr | ⟨i, rfl, hi, hd⟩
    · obtain ⟨s, c, rfl⟩ := h.form
      have c1 := h.at.2
      have dd : id < 1 ∨ (¬ id < 1 ∧ id > (L.length : Int)) := by omega
      clear h hx hr
      rcases dd with d0 | ⟨d0, d1⟩
      all_goals
        go_enter Try.func35, Try.ntmps35
        go_wp2_with fail
        go_ret
        exact ⟨rfl, rfl⟩
    · obtain ⟨g, c, rfl⟩ := h.there (by omega)
      have c1 := h.at.2
      have k0 := h.dead hi hd
      have d0 : decide ((i : Int) + 1 < 1) = false := decide_eq_false (by omega)
      have d1 : decide ((i : Int) + 1 > (L.length : Int)) = false := decide_eq_false (by omega)
      clear h hx hid hd
      go_enter Try.func35, Try.ntmps35
      go_wp2_with fail
      go_ret
      exact ⟨rfl, rfl⟩
  · rw [hx] at e; cases e

set_option maxHeartbeats 1000000 in
theorem ro_ids (h : RO w q most v L S) (hlen : L.length ≤ 4096) : Calls Try.prog 27 #[.pointer (some ⟨q, 0, none⟩)] w fun e w' => ∃ u, e = .returned u ∧ RowOf zCells 1 w' u (idsO L) ∧ (∀ b, u.ownBlock = some b → w.heap.size ≤ b) ∧ w.grownBy w' none := by
  obtain ⟨s, c, rfl⟩ := h.form
  have c1 := h.at.2
  have HR := Lib.hid h
  clear h
  go_enter Try.func27, Try.ntmps27
  go_wp2_with fail
  go_loopw [3, 11] (fun uv iv wr => ∃ j : Nat, j ≤ L.length ∧ iv = .int .i64 j ∧ Hid (ZMk w wr uv (idsOTo L j))) (fun _ iv _ => L.length - (intOf iv).toNat)
  case atStart => exact ⟨0, by omega, rfl, MkOf.nil w⟩
  case round =>
    obtain ⟨j, hj, rfl, HM⟩ := hrel
    by_cases hlt : j < L.length
    · have hP := HR.out.grow rpdOk HM.out.grown
      obtain ⟨g, c2, hv⟩ := hP.there (by omega)
      injection hv with e1 e2 e3
      subst e1 e3
      have hil : (idsOTo L j).length ≤ j := idsOTo_le
      have hsucc := idsOTo_succ L j
      cases hlv : liveO L j with
      | false =>
        have k0 := hP.dead hlt hlv
        rw [if_neg (by rw [hlv]; decide), List.append_nil] at hsucc
        rw [← hsucc] at HM
        clear c1 hsucc hP hlv
        go_wp2_with fail
        go_roundw
        case rel => exact ⟨j + 1, by omega, by go_num, HM⟩
        case measure => simp [intOf]; omega
      | true =>
        obtain ⟨x, hx⟩ := live_get hlv
        have k0 := hP.live hlt hx
        rw [if_pos hlv] at hsucc
        have HS := Lib.hid hsucc
        obtain ⟨Z, hZ⟩ : ∃ Z, idsOTo L j = Z := ⟨_, rfl⟩
        rw [hZ] at HM HS hil
        have hq := neq_rob
        obtain ⟨sa, sc, hu⟩ := OwnOf.form HM.out.own
        subst hu
        clear c1 hsucc hP hlv hx hZ
        go_wp2_with (at_builtin; refine wpList_zpush wr rfl _ _ rfl w.heap.size (.slice sa Z.length sc) Z ((j : Int) + 1) rfl HM.out.own wr.heap.size 1 rfl rfl (by omega) HM.out.grown.size ?_; intro g9 c9 w9 hown9 hgrow9; have HN := Lib.hid (MkOf.app HM.out hgrow9 hown9); clear hown9 hgrow9)
        go_roundw
        case rel => exact ⟨j + 1, by omega, by go_num, by rw [HS.out]; exact HN⟩
        case measure => simp [intOf]; omega
    · obtain rfl : j = L.length := by omega
      go_wp2_with fail
      go_ret
      exact ⟨_, rfl, HM.out.row, fun b hb => (OwnOf.lt HM.out.own hb).1, HM.out.grown⟩


theorem ro_file (h : RO w q most v L S) (hl : L.length ≤ 4096) (id : Int) (hid : okI id) : Calls Try.prog 24 #[.pointer (some ⟨q, 0, none⟩), .int .i64 id] w fun e w' => e = .returned (.int .i64 (fileO L id)) ∧ w' = w := by
  rcases of_cases L id with ⟨e, -⟩ | ⟨i, x, rfl, hi, hx, e⟩
  · rw [show fileO L id = 0 by unfold fileO; rw [e]]
    have HO := Lib.hid (ro_object_none h hl hid e)
    clear h e
    go_enter Try.func24, Try.ntmps24
    go_wp2_with fail
    refine HO.out.mono ?_
    rintro e w2 ⟨rfl, e2⟩
    subst w2
    go_wp2_with fail
    go_ret
    exact ⟨rfl, rfl⟩
  · rw [show fileO L ((i : Int) + 1) = x.file by unfold fileO; rw [e]]
    have HO := Lib.hid (ro_object_some h hl hx)
    have c1 := (h.am.each i x hx).at.1
    have hq := neq_rob
    clear h e hx hid
    go_enter Try.func24, Try.ntmps24
    go_wp2_with fail
    refine HO.out.mono ?_
    rintro e w2 ⟨rfl, e2⟩
    subst w2
    go_wp2_with fail
    go_ret
    exact ⟨rfl, rfl⟩
end
/-- Number k of the numbers. -/
theorem idsO_at {L : ObL} {k : Nat} {id : Int} (h : (idsO L)[k]? = some id) : ∃ (i : Nat) (x : ObV), id = (i : Int) + 1 ∧ L[i]? = some (some x) := by
  have hm := List.mem_of_getElem? h
  unfold idsO idsOTo at hm
  obtain ⟨i, hi, e⟩ := List.mem_map.1 hm
  obtain ⟨x, hx⟩ := live_get (List.mem_filter.1 hi).2
  exact ⟨i, x, e.symm, hx⟩
theorem idsO_mem {L : ObL} {i : Nat} (h : liveO L i = true) : (i : Int) + 1 ∈ idsO L := by
  unfold idsO idsOTo
  exact List.mem_map.2 ⟨i, List.mem_filter.2 ⟨List.mem_range.2 (liveO_lt h), h⟩, rfl⟩
section
variable {w w' : World} {q most : Nat} {v : Value} {L : ObL} {S : Nat → ObP}
set_option maxHeartbeats 1000000 in
theorem ro_of (h : RO w q most v L S) (hg : GoodOs most L) (f : Int) : Calls Try.prog 22 #[.pointer (some ⟨q, 0, none⟩), .int .i64 f] w fun e w' => e = .returned (.int .i64 (findO L f)) ∧ w.grownBy w' none := by
  have hl := Nat.le_trans hg.len hg.most
  have HI := Lib.hid (ro_ids h hl)
  have hle := ids_le (L := L)
  have HR := Lib.hid h
  have HGd := Lib.hid hg
  clear h hg
  go_enter Try.func22, Try.ntmps22
  go_wp2_with fail
  refine HI.out.mono ?_
  rintro e w2 ⟨u, rfl, hu, ho, g2⟩
  obtain ⟨Z, hZ⟩ : ∃ Z, idsO L = Z := ⟨_, rfl⟩
  rw [hZ] at hu hle
  have HZ := Lib.hid hZ
  obtain ⟨su, cu, rfl⟩ := rowOf_form hu
  have HU := Lib.hid hu
  have HG2 := Lib.hid g2
  clear hu ho g2 HI hZ
  go_wp2_with fail
  go_loopw [10] (fun iv wr => ∃ j : Nat, j ≤ Z.length ∧ iv = .int .i64 j ∧ Hid (∀ k, k < j → ∀ i : Nat, Z[k]? = some ((i : Int) + 1) → hasF L f i = false) ∧ wr = w2) (fun iv _ => Z.length - (intOf iv).toNat)
  case atStart => exact ⟨0, by omega, rfl, fun k hk => by omega, rfl⟩
  case round =>
    obtain ⟨j, hj, rfl, HN, rfl⟩ := hrel
    by_cases hlt : j < Z.length
    · obtain ⟨id, hid⟩ : ∃ id, Z[j]? = some id := ⟨_, List.getElem?_eq_getElem hlt⟩
      obtain ⟨i, x, rfl, hx⟩ := idsO_at (HZ.out.symm ▸ hid)
      obtain ⟨g0, o0, c0, hv, k0⟩ := z_cells HU.out hid
      injection hv with e1 e2 e3
      subst e1 e3
      have hP := HR.out.grow rpdOk HG2.out
      have HO := Lib.hid (ro_object_some hP hl hx)
      have c1 := (hP.am.each i x hx).at.1
      have hF := hasF_at (f := f) hx
      have hq := neq_rob
      by_cases h0 : 0 < f
      · by_cases h1 : x.file = f
        · have hfi : findO L f = (i : Int) + 1 := find_is (fun j hj => HGd.out.uniq f j i hj (by rw [hF]; simp [h0, h1])) (by rw [hF]; simp [h0, h1])
          have HFI := Lib.hid hfi
          have d0 : decide (f > 0) = true := decide_eq_true h0
          rw [h1] at c1
          clear hP hx hF hfi hid HN HGd
          go_wp2_with fail
          refine HO.out.mono ?_
          rintro e w3 ⟨rfl, e3⟩
          subst w3
          go_wp2_with fail
          go_ret
          exact ⟨by rw [HFI.out]; rfl, HG2.out⟩
        · have d0 : decide (f > 0) = true := decide_eq_true h0
          have HN2 := Lib.hid (show ∀ k, k < j + 1 → ∀ i : Nat, Z[k]? = some ((i : Int) + 1) → hasF L f i = false from fun k hk i2 e2 => by
            by_cases ek : k = j
            · subst ek
              rw [hid] at e2
              have : i = i2 := by have := Option.some.inj e2; omega
              rw [← this, hF]
              simp [h1]
            · exact HN.out k (by omega) i2 e2)
          clear hP hx hF hid HN
          go_wp2_with fail
          refine HO.out.mono ?_
          rintro e w3 ⟨rfl, e3⟩
          subst w3
          go_wp2_with fail
          go_roundw
          case rel => exact ⟨j + 1, by omega, by go_num, HN2, by trivial⟩
          case measure => simp [intOf]; omega
      · have d0 : decide (f > 0) = false := decide_eq_false h0
        have HN2 := Lib.hid (show ∀ k, k < j + 1 → ∀ i : Nat, Z[k]? = some ((i : Int) + 1) → hasF L f i = false from fun k hk i2 e2 => hasF_zero (by omega))
        clear hP hx hF hid HN
        go_wp2_with fail
        go_roundw
        case rel => exact ⟨j + 1, by omega, by go_num, HN2, by trivial⟩
        case measure => simp [intOf]; omega
    · obtain rfl : j = Z.length := by omega
      have hfn : findO L f = 0 := find_none fun i => by
        cases hl2 : liveO L i with
        | false => exact hasF_dead hl2
        | true =>
          have hm := idsO_mem hl2
          rw [HZ.out] at hm
          obtain ⟨k, hk, e⟩ := List.mem_iff_getElem.1 hm
          exact HN.out k hk i (by rw [List.getElem?_eq_getElem hk, e])
      have HFN := Lib.hid hfn
      clear HN hfn
      go_wp2_with fail
      go_ret
      exact ⟨by rw [HFN.out]; rfl, HG2.out⟩
end
end Go.Proofs.Ytefcefclncbimaa
