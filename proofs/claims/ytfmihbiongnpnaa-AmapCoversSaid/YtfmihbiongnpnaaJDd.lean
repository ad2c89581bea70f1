/- Package spread (landed): join. -/
import Derived.Test.YtfmihbiongnpnaaJDc
namespace Go.Proofs.Ytfmihbiongnpnaa
open Go.ChangeShapes Go.WideShapes Go.ChangeAt Go.RowKit Go.Deep
set_option linter.unusedVariables false

/-- Lists of runs, one behind the other. -/
def PartsC (w : World) (u : Value) (Ps : List (List JR)) : Prop := ∃ B, u = .slice (some ⟨B, 0, none⟩) Ps.length Ps.length ∧ ∀ (i : Nat) P, Ps[i]? = some P → ∃ v, w.cell? ⟨B, i, none⟩ = some v ∧ RunsC w v P
def joinP (Ps : List (List JR)) : List JR := Ps.foldl (fun out P => P.foldl joinOne out) []
theorem foldJ_len (P out : List JR) : (P.foldl joinOne out).length ≤ out.length + P.length := by
  induction P generalizing out with
  | nil => simp
  | cons r P ih =>
    have h1 := ih (joinOne out r)
    have h2 := joinOne_len out r
    simp only [List.foldl_cons, List.length_cons]
    omega
theorem joinP_snoc (Ps : List (List JR)) (P : List JR) : joinP (Ps ++ [P]) = P.foldl joinOne (joinP Ps) := by unfold joinP; rw [List.foldl_append]; rfl
theorem joinP_len (Ps : List (List JR)) (h : ∀ P, P ∈ Ps → P.length ≤ 5000) : (joinP Ps).length ≤ 5000 * Ps.length := by
  rcases List.eq_nil_or_concat Ps with rfl | ⟨A, P, rfl⟩
  · simp [joinP]
  · rw [List.concat_eq_append] at *
    rw [joinP_snoc]
    have h1 := joinP_len A fun Q hQ => h Q (by simp [hQ])
    have h2 := foldJ_len P (joinP A)
    have h3 := h P (by simp)
    simp
    omega
  termination_by Ps.length
  decreasing_by simp_all
section
variable {w w' : World} {u : Value} {Ps : List (List JR)}
theorem PartsC.grow (h : PartsC w u Ps) (g : w.grownBy w' none) : PartsC w' u Ps := by
  obtain ⟨B, hv, hc⟩ := h
  refine ⟨B, hv, fun i P hP => ?_⟩
  obtain ⟨v, h1, h2⟩ := hc i P hP
  exact ⟨v, g.cell h1 (by simp), h2.grow g⟩
theorem PartsC.at {B i : Nat} {P : List JR} (h : PartsC w (.slice (some ⟨B, 0, none⟩) Ps.length Ps.length) Ps) (hP : Ps[i]? = some P) : ∃ a c, w.cell? ⟨B, i, none⟩ = some (.slice a P.length c) ∧ RunsC w (.slice a P.length c) P := by
  obtain ⟨B', hv, hc⟩ := h
  cases hv
  obtain ⟨v, h1, h2⟩ := hc i P hP
  obtain ⟨a, c, rfl, -⟩ := h2.slice
  exact ⟨a, c, h1, h2⟩

set_option maxHeartbeats 4000000 in
theorem join_ok (h : PartsC w u Ps) (h3 : Ps.length ≤ 3) (hl : ∀ P, P ∈ Ps → P.length ≤ 5000) :
    Calls Try.prog 59 #[u] w fun e w' => ∃ u', e = .returned u' ∧ RunsC w' u' (joinP Ps) ∧ (∀ b, u'.ownBlock = some b → w.heap.size ≤ b) ∧ w.grownBy w' none := by
  have HH := Lib.hid h
  have HL := Lib.hid hl
  have HI := Lib.hid (show RMk w w (.slice none 0 0) (joinP (Ps.take 0)) from MkOf.nil w)
  obtain ⟨B, hv, -⟩ := h
  subst hv
  clear hl
  go_enter Try.func59, Try.ntmps59
  go_wp2_with fail
  go_loopw [3, 5, 7, 8, 11] (fun vv _ _ _ iv wr => ∃ i : Nat, i ≤ Ps.length ∧ iv = .int .i64 i ∧ Hid (RMk w wr vv (joinP (Ps.take i)))) (fun _ _ _ _ iv _ => Ps.length - (intOf iv).toNat)
  case atStart => exact ⟨0, by omega, rfl, HI⟩
  case round =>
    clear HI
    obtain ⟨i, hi, rfl, HJ⟩ := hrel
    by_cases hlt : i < Ps.length
    · obtain ⟨P, hP⟩ : ∃ P, Ps[i]? = some P := ⟨_, List.getElem?_eq_getElem hlt⟩
      obtain ⟨sa, sc, k00, hrun⟩ := HH.out.at hP
      have k0 := HJ.out.grown.cell k00 (by simp)
      have HP := Lib.hid hrun
      have hPl := HL.out P (List.mem_of_getElem? hP)
      have hJl := joinP_len (Ps.take i) fun Q hQ => HL.out Q (List.mem_of_mem_take hQ)
      rw [List.length_take] at hJl
      have HN := Lib.hid (show joinP (Ps.take (i + 1)) = P.foldl joinOne (joinP (Ps.take i)) by rw [takel_at hP, joinP_snoc])
      obtain ⟨J, hJ⟩ : ∃ J, joinP (Ps.take i) = J := ⟨_, rfl⟩
      rw [hJ] at HN HJ hJl
      have hJ5 : J.length ≤ 15000 := by omega
      have hlens := fun j => foldJ_len (P.take j) J
      have HLn := Lib.hid hlens
      have HI2 := Lib.hid (show RMk w wr _ ((P.take 0).foldl joinOne J) from HJ.out)
      clear hrun hP hJl hJ hlens HJ k00
      go_wp2_with fail
      go_loopw [3, 7, 8, 17] (fun vv _ _ jv wx => ∃ j : Nat, j ≤ P.length ∧ jv = .int .i64 j ∧ Hid (RMk w wx vv ((P.take j).foldl joinOne J))) (fun _ _ _ jv _ => P.length - (intOf jv).toNat)
      case atStart => exact ⟨0, by omega, rfl, HI2⟩
      case round =>
        clear HI2 k0
        obtain ⟨j, hj, rfl, HJ⟩ := hrel
        by_cases hlt2 : j < P.length
        · obtain ⟨r, hr⟩ : ∃ r, P[j]? = some r := ⟨_, List.getElem?_eq_getElem hlt2⟩
          obtain ⟨g, o, c', hv', k0, k1, k2⟩ := (HP.out.grow HJ.out.grown).at hr
          injection hv' with e1 e2 e3
          subst e1 e3
          have HNj := Lib.hid (show (P.take (j + 1)).foldl joinOne J = joinOne ((P.take j).foldl joinOne J) r by rw [takel_at hr, List.foldl_append]; rfl)
          have hln := HLn.out j
          rw [List.length_take] at hln
          obtain ⟨O, hO⟩ : ∃ O, (P.take j).foldl joinOne J = O := ⟨_, rfl⟩
          rw [hO] at HNj hln HJ
          have hln2 : O.length ≤ 20000 := by omega
          have ga := World.grownBy_alloc wr (.cells #[.int .i64 r.lo, .int .i64 r.hi, .int .i64 r.n] 95) none
          have hb := RunB.new wr r
          have HJ2 := Lib.hid (HJ.out.grow ga)
          obtain ⟨rl, rh, rn⟩ := r
          simp only at *
          generalize hwB : wr.alloc (.cells #[.int .i64 rl, .int .i64 rh, .int .i64 rn] 95 (0, 0)) = wB at *
          have hyB : wr.heap.size < wB.heap.size := by rw [← hwB]; simp
          obtain ⟨b0, b1, b2⟩ := hb.at
          simp only at b0 b1 b2
          rcases List.eq_nil_or_concat O with rfl | ⟨A, s, rfl⟩
          · rw [joinOne_nil] at HNj
            obtain ⟨va, vc, hvf⟩ := OwnOf.form HJ.out.own
            subst hvf
            clear hr hO hb hln
            go_wp2_with fail
            go_quiet (fail)
            go_wp2_with (at_builtin; refine wpList_rpush _ rfl _ _ rfl w.heap.size _ [] ⟨rl, rh, rn⟩ (by rfl) (OwnOf.grow HJ2.out.own (grown_draws _ _)) wB.heap.size _ (by rfl) rfl (by simp) HJ2.out.grown.size ?_; intro g8 cap8 w8 hown8 hg8)
            have HJ4 := Lib.hid ((MkOf.grow HJ2.out (grown_draws _ _)).app hg8 hown8)
            clear hown8 hg8
            go_wp2_with fail
            go_roundw
            case rel => exact ⟨j + 1, by omega, by go_num, by rw [HNj.out]; exact HJ4⟩
            case measure => simp [intOf]; omega
          · rw [List.concat_eq_append] at *
            have hal : (A ++ [s]).length = A.length + 1 := by simp
            rw [hal] at hln
            obtain ⟨g1, c1, hvf⟩ := OwnOf.there HJ.out.own (by omega)
            rw [hal] at hvf
            subst hvf
            have hown := show ROwn wB w.heap.size (.slice (some ⟨g1, 0, none⟩) (A ++ [s]).length c1) (A ++ [s]) by rw [hal]; exact HJ2.out.own
            obtain ⟨m0, m1, m2⟩ := own_run hown (j := A.length) (r := s) (by simp)
            have hfz := OwnOf.frozen hown (A.length * 3 + 1)
            obtain ⟨sl, sh, sn⟩ := s
            simp only at m0 m1 m2
            by_cases hn : sn = rn
            · subst hn
              rw [joinOne_same (A := A) (s := ⟨sl, sh, sn⟩) (r := ⟨rl, rh, sn⟩) rfl] at HNj
              have hb : (sn == sn) = true := by simp
              have HW := Lib.hid (show ∀ W, wB.grownBy W none → RMk w (W.setCell ⟨g1, A.length * 3 + 1, none⟩ (.int .i64 rh)) (.slice (some ⟨g1, 0, none⟩) (A.length + 1) c1) (A ++ [⟨sl, rh, sn⟩]) from fun W gW =>
                ⟨grown_at (grown_trans HJ2.out.grown gW) (grown_set _ _ _ _) (OwnOf.lt HJ2.out.own (g := g1) rfl).1, ROwn.longer (OwnOf.grow HJ2.out.own gW) _⟩)
              clear hr hO hown hal
              go_wp2_with fail
              go_quiet (fail)
              go_wp2_with fail
              go_roundw
              case rel => exact ⟨j + 1, by omega, by go_num, by rw [HNj.out]; exact HW.out _ (grown_draws _ _)⟩
              case measure => simp [intOf]; omega
            · rw [joinOne_other (A := A) (s := ⟨sl, sh, sn⟩) (r := ⟨rl, rh, rn⟩) hn] at HNj
              have hb : (sn == rn) = false := by simp [hn]
              have HW := Lib.hid hal
              clear hr hO hown hal hfz hn
              go_wp2_with fail
              go_quiet (fail)
              go_wp2_with (at_builtin; refine wpList_rpush _ rfl _ _ rfl w.heap.size _ (A ++ [⟨sl, sh, sn⟩]) ⟨rl, rh, rn⟩ (by rfl) (OwnOf.grow HJ2.out.own (grown_draws _ _)) wB.heap.size _ (by rfl) rfl (by rw [HW.out]; omega) HJ2.out.grown.size ?_; intro g8 cap8 w8 hown8 hg8)
              rw [HW.out] at hown8
              have HJ4 := Lib.hid ((MkOf.grow HJ2.out (grown_draws _ _)).app hg8 hown8)
              clear hown8 hg8
              go_wp2_with fail
              go_roundw
              case rel => exact ⟨j + 1, by omega, by go_num, by rw [HNj.out]; exact HJ4⟩
              case measure => simp [intOf]; omega
        · obtain rfl : j = P.length := by omega
          rw [List.take_length] at HJ
          go_wp2_with fail
          go_roundw
          case rel => exact ⟨i + 1, by omega, by go_num, by rw [HN.out]; exact HJ⟩
          case measure => simp [intOf]; omega
    · obtain rfl : i = Ps.length := by omega
      rw [List.take_length] at HJ
      obtain ⟨va, vc, hvf⟩ := OwnOf.form HJ.out.own
      have HRs := Lib.hid (ROwn.runs HJ.out.own)
      have HFr := Lib.hid (fun b hb => (OwnOf.lt HJ.out.own (g := b) hb).1)
      have HGr := Lib.hid HJ.out.grown
      subst hvf
      clear HJ
      go_wp2_with fail
      go_ret
      exact ⟨_, rfl, HRs.out, HFr.out, HGr.out⟩
end
end Go.Proofs.Ytfmihbiongnpnaa
