/- The document's counts of layer 11: Runs. -/
import Derived.Test.YtohealhkgmagmaaJRef1
namespace Go.Proofs.Ytohealhkgmagmaa
open Go.ChangeShapes Go.WideShapes Go.ChangeAt Go.RowKit Go.Deep
set_option linter.unusedVariables false

theorem runsTo_len (L : List Int) (k : Nat) : (runsTo L k).length ≤ k := by
  have := (runsTo_side L k).len
  omega
theorem pushJ_nil (x i : Int) : pushJ [] x i = [⟨i, i + 1, x⟩] := rfl
theorem pushJ_same (A : List JR) (r : JR) (i : Int) : pushJ (A ++ [r]) r.n i = A ++ [⟨r.lo, i + 1, r.n⟩] := by
  unfold pushJ
  rw [List.getLast?_concat]
  simp only
  rw [if_pos trivial, List.dropLast_concat]
theorem pushJ_other (A : List JR) (r : JR) (x i : Int) (h : r.n ≠ x) : pushJ (A ++ [r]) x i = A ++ [r] ++ [⟨i, i + 1, x⟩] := by
  unfold pushJ
  rw [List.getLast?_concat]
  simp only
  rw [if_neg h]

section
variable {w : World} {q g c : Nat} {L : List Int}
set_option maxHeartbeats 2000000 in
theorem rj_runs (h : RJ w q g c L) (hk : JOk L) : Calls Try.prog 23 #[.pointer (some ⟨q, 0, none⟩)] w fun e w' => ∃ u, e = .returned u ∧ RowOf runCells 3 w' u (runsJ L) ∧ (∀ b, u.ownBlock = some b → w.heap.size ≤ b) ∧ w.grownBy w' none := by
  have l0 := h.at
  have hl := hk.len
  have HR := Lib.hid h
  have HK := Lib.hid hk
  clear h hk
  have HI := Lib.hid (show RMk w w (.slice none 0 0) (runsTo L 0) from MkOf.nil w)
  go_enter Try.func23, Try.ntmps23
  go_wp2_with fail
  go_loopw [3, 4, 5, 6, 12] (fun vv _ _ _ iv wr => ∃ j : Nat, j ≤ L.length ∧ iv = .int .i64 j ∧ Hid (RMk w wr vv (runsTo L j))) (fun _ _ _ _ iv _ => L.length - (intOf iv).toNat)
  case atStart => exact ⟨0, by omega, rfl, HI⟩
  case round =>
    obtain ⟨j, hj, rfl, HJ⟩ := hrel
    by_cases hlt : j < L.length
    · obtain ⟨x, hx⟩ : ∃ x, L[j]? = some x := ⟨_, List.getElem?_eq_getElem hlt⟩
      have hc := (HR.out.grow HJ.out.grown).get hx
      have hst : runsTo L (j + 1) = pushJ (runsTo L j) x j := by rw [runsTo_succ, List.getD_eq_getElem?_getD, hx]; rfl
      have hln := runsTo_len L j
      obtain ⟨R, hR⟩ : ∃ R, runsTo L j = R := ⟨_, rfl⟩
      rw [hR] at hst hln HJ
      rcases List.eq_nil_or_concat R with rfl | ⟨A, r, rfl⟩
      · rw [pushJ_nil] at hst
        have HS := Lib.hid hst
        obtain ⟨a, c', hv⟩ := HJ.out.own.form
        subst hv
        clear hx hst hR
        go_wp2_with (at_builtin; refine wpList_rpush wr rfl _ _ rfl w.heap.size _ _ ⟨j, (j : Int) + 1, x⟩ (by rfl) HJ.out.own wr.heap.size _ (by rfl) rfl (by omega) HJ.out.grown.size ?_; intro g8 cap8 w8 hown8 hg8)
        have HJ3 := Lib.hid (HJ.out.app hg8 hown8)
        clear hown8 hg8
        go_wp2_with fail
        go_roundw
        case rel => exact ⟨j + 1, by omega, by go_num, by rw [HS.out]; exact HJ3⟩
        case measure => simp [intOf]; omega
      · rw [List.concat_eq_append] at *
        have hal : (A ++ [r]).length = A.length + 1 := by simp
        obtain ⟨g1, c1, hv⟩ := OwnOf.there HJ.out.own (by omega)
        rw [hal] at hv hln
        subst hv
        have hcr := own_run (show ROwn wr w.heap.size (.slice (some ⟨g1, 0, none⟩) (A ++ [r]).length c1) (A ++ [r]) by rw [hal]; exact HJ.out.own) (j := A.length) (r := r) (by simp)
        obtain ⟨k0, k1, k2⟩ := hcr
        have hfz := OwnOf.frozen (show OwnOf runCells 3 48 wr w.heap.size (.slice (some ⟨g1, 0, none⟩) (A ++ [r]).length c1) (A ++ [r]) by rw [hal]; exact HJ.out.own) (A.length * 3 + 1)
        by_cases hn : r.n = x
        · subst hn
          rw [pushJ_same] at hst
          have HS := Lib.hid hst
          have HJ3 := Lib.hid (show RMk w (wr.setCell ⟨g1, A.length * 3 + 1, none⟩ (.int .i64 ((j : Int) + 1))) (.slice (some ⟨g1, 0, none⟩) (A.length + 1) c1) (A ++ [⟨r.lo, (j : Int) + 1, r.n⟩]) from
            ⟨grown_at HJ.out.grown (grown_set _ _ _ _) (HJ.out.own.lt (g := g1) rfl).1, ROwn.longer HJ.out.own _⟩)
          have hb : (r.n == r.n) = true := by simp
          clear hx hst hR hal
          go_wp2_with fail
          go_roundw
          case rel => exact ⟨j + 1, by omega, by go_num, by rw [HS.out]; exact HJ3⟩
          case measure => simp [intOf]; omega
        · rw [pushJ_other A r x j hn] at hst
          have HS := Lib.hid hst
          have hb : (r.n == x) = false := by simp [hn]
          have HW := Lib.hid hal
          clear hx hst hR hal hfz
          go_wp2_with (at_builtin; refine wpList_rpush wr rfl _ _ rfl w.heap.size _ (A ++ [r]) ⟨j, (j : Int) + 1, x⟩ (by rfl) HJ.out.own wr.heap.size _ (by rfl) rfl (by rw [HW.out]; omega) HJ.out.grown.size ?_; intro g8 cap8 w8 hown8 hg8)
          rw [HW.out] at hown8
          have HJ3 := Lib.hid (HJ.out.app hg8 hown8)
          clear hown8 hg8
          go_wp2_with fail
          go_roundw
          case rel => exact ⟨j + 1, by omega, by go_num, by rw [HS.out]; exact HJ3⟩
          case measure => simp [intOf]; omega
    · obtain rfl : j = L.length := by omega
      obtain ⟨va, vc, hvf⟩ := HJ.out.own.form
      have HV := Lib.hid hvf
      go_wp2_with fail
      go_ret
      exact ⟨_, rfl, HJ.out.row, fun b hb => (HJ.out.own.lt hb).1, HJ.out.grown⟩
end
end Go.Proofs.Ytohealhkgmagmaa
