/- The document's layer 6: Give, Own, Wire, Loan. -/
import Derived.Test.YtabgfjmfhkfbmaaFRef2
namespace Go.Proofs.Ytabgfjmfhkfbmaa
open Go.ChangeShapes Go.WideShapes Go.ChangeAt Go.RowKit Go.Deep
set_option linter.unusedVariables false

section
variable {w : World} {r g c : Nat} {rs : Int} {xs : List FrV}
theorem RP.stay (h : RP w r rs xs g c) : RLeft w w r g rs xs := ⟨g, c, h, Turn.refl _ _, .inl rfl⟩
theorem RP.stay' {w' : World} (h : RP w r rs xs g c) (k : w.grownBy w' none) : RLeft w w' r g rs xs := ⟨g, c, h.grow k, Turn.grown k, .inl rfl⟩

theorem RLeft.back {w1 w2 : World} {zs : List FrV} (h : RLeft w1 w2 r g rs zs) (k : w.grownBy w1 none) : RLeft w w2 r g rs zs := by
  obtain ⟨g', c', h1, h2, h3⟩ := h
  exact ⟨g', c', h1, (Turn.grown k).trans' h2, h3.imp id fun q => Nat.le_trans k.size q⟩

set_option maxHeartbeats 1000000 in
theorem ref_give (h : RP w r rs xs g c) (fr : Int) :
    Calls Try.prog 24 #[.pointer (some ⟨r, 0, none⟩), .int .i64 fr] w fun e w' => e = .returned (.int .i64 (giveF xs fr).e) ∧ RLeft w w' r g rs (giveF xs fr).xs := by
  obtain ⟨c0, c1⟩ := h.at
  have HR := Lib.hid h
  by_cases hc : 0 ≤ fr ∧ fr < xs.length
  · obtain ⟨k, rfl⟩ := Int.eq_ofNat_of_zero_le hc.1
    have hk : k < xs.length := by omega
    obtain ⟨x, hx⟩ : ∃ x, xs[k]? = some x := ⟨_, List.getElem?_eq_getElem hk⟩
    have HI := Lib.hid (ref_is h k true (by rw [decide_eq_true hc]))
    have HS := Lib.hid (ref_set h k zeroF hk)
    obtain ⟨f0, f1, f2, f3, f4⟩ := h.fr hx
    by_cases h0 : x.cl = 0
    · rw [show giveF xs k = ⟨0, 2, xs⟩ from atF_free hx h0]
      have b0 : (x.cl == 0) = true := by simpa using h0
      clear h hc hx h0 HS
      go_enter Try.func24, Try.ntmps24
      go_wp2_with fail
      refine HI.out.mono ?_
      rintro e w2 ⟨rfl, rfl⟩
      go_wp2_with fail
      go_ret
      exact ⟨rfl, HR.out.stay⟩
    · have b0 : (x.cl == 0) = false := by simpa using h0
      by_cases hw : x.wi = 0
      · have b1 : (x.wi != 0) = false := by simpa using hw
        by_cases hl : x.lo = 0
        · have b2 : (x.lo != 0) = false := by simpa using hl
          have ha : giveF xs k = ⟨0, 0, xs.set k zeroF⟩ := by
            unfold giveF
            rw [atF_at hx h0, if_neg (by rintro (q | q) <;> contradiction)]
          rw [ha]
          unfold zeroF at HS ⊢
          simp only at HS
          clear h hc hx h0 hw hl ha
          go_enter Try.func24, Try.ntmps24
          go_wp2_with fail
          refine HI.out.mono ?_
          rintro e w2 ⟨rfl, rfl⟩
          go_wp2_with fail
          refine HS.out.mono ?_
          rintro e w2 ⟨rfl, h2⟩
          have H2 := Lib.hid h2
          clear h2
          go_wp2_with fail
          go_ret
          exact ⟨rfl, H2.out⟩
        · have b2 : (x.lo != 0) = true := by simpa using hl
          have ha : giveF xs k = ⟨0, 8, xs⟩ := by
            unfold giveF
            rw [atF_at hx h0, if_pos (.inr hl), set_self hx]
          rw [ha]
          clear h hc hx h0 hw hl ha HS
          go_enter Try.func24, Try.ntmps24
          go_wp2_with fail
          refine HI.out.mono ?_
          rintro e w2 ⟨rfl, rfl⟩
          go_wp2_with fail
          go_ret
          exact ⟨rfl, HR.out.stay⟩
      · have b1 : (x.wi != 0) = true := by simpa using hw
        have ha : giveF xs k = ⟨0, 8, xs⟩ := by
          unfold giveF
          rw [atF_at hx h0, if_pos (.inl hw), set_self hx]
        rw [ha]
        clear h hc hx h0 hw ha HS
        go_enter Try.func24, Try.ntmps24
        go_wp2_with fail
        refine HI.out.mono ?_
        rintro e w2 ⟨rfl, rfl⟩
        go_wp2_with fail
        go_ret
        exact ⟨rfl, HR.out.stay⟩
  · have HI := Lib.hid (ref_is h fr false (by rw [decide_eq_false hc]))
    rw [show giveF xs fr = ⟨0, 7, xs⟩ from atF_out hc]
    clear h hc
    go_enter Try.func24, Try.ntmps24
    go_wp2_with fail
    refine HI.out.mono ?_
    rintro e w2 ⟨rfl, rfl⟩
    go_wp2_with fail
    go_ret
    exact ⟨rfl, HR.out.stay⟩

set_option maxHeartbeats 1000000 in
theorem ref_wire (h : RP w r rs xs g c) (hg : Goods xs) (fr b : Int) :
    Calls Try.prog 26 #[.pointer (some ⟨r, 0, none⟩), .int .i64 fr, .int .i64 b] w fun e w' => e = .returned (.int .i64 (wireF xs fr b).e) ∧ RLeft w w' r g rs (wireF xs fr b).xs := by
  obtain ⟨c0, c1⟩ := h.at
  have HR := Lib.hid h
  by_cases hc : 0 ≤ fr ∧ fr < xs.length
  · obtain ⟨k, rfl⟩ := Int.eq_ofNat_of_zero_le hc.1
    have hk : k < xs.length := by omega
    obtain ⟨x, hx⟩ : ∃ x, xs[k]? = some x := ⟨_, List.getElem?_eq_getElem hk⟩
    have HI := Lib.hid (ref_is h k true (by rw [decide_eq_true hc]))
    obtain ⟨f0, f1, f2, f3, f4⟩ := h.fr hx
    by_cases h0 : x.cl = 0
    · rw [show wireF xs k b = ⟨0, 2, xs⟩ from atF_free hx h0]
      have b0 : (x.cl == 0) = true := by simpa using h0
      clear h hc hx h0
      go_enter Try.func26, Try.ntmps26
      go_wp2_with fail
      refine HI.out.mono ?_
      rintro e w2 ⟨rfl, rfl⟩
      go_wp2_with fail
      go_ret
      exact ⟨rfl, HR.out.stay⟩
    · have b0 : (x.cl == 0) = false := by simpa using h0
      have hgx := hg x (List.mem_of_getElem? hx)
      have hw0 := hgx.w0
      have hw1 := hgx.w1
      by_cases hm : mayBy x.wi b
      · have HM := Lib.hid (fun w => ref_may x.wi b hw0 hw1 true (by rw [decide_eq_true hm]) w)
        have ha : wireF xs k b = ⟨0, 0, xs.set k ⟨x.cl, x.ow, x.ix, x.wi + b, x.lo⟩⟩ := by
          unfold wireF
          rw [atF_at hx h0, if_pos hm]
        rw [ha]
        have hm1 := hm.1
        have hm2 := hm.2
        have hbn := FrB.new w 39 x
        have gan := World.grownBy_alloc w (.cells #[.int .i64 x.cl, .int .i64 x.ow, .int .i64 x.ix, .int .i64 x.wi, .int .i64 x.lo] 39 (0, 0)) none
        have gan2 := World.grownBy_alloc w (.cells #[.int .i64 x.cl, .int .i64 x.ow, .int .i64 x.ix, .int .i64 (x.wi + b), .int .i64 x.lo] 39 (0, 0)) none
        have HS := Lib.hid (ref_set (h.grow gan2) k ⟨x.cl, x.ow, x.ix, x.wi + b, x.lo⟩ hk)
        have HG2 := Lib.hid gan2
        clear h hc hx h0 hm ha hgx gan gan2 hbn
        go_enter Try.func26, Try.ntmps26
        go_wp2_with fail
        refine HI.out.mono ?_
        rintro e w2 ⟨rfl, rfl⟩
        go_wp2_with fail
        refine (HM.out _).mono ?_
        rintro e w2 ⟨rfl, rfl⟩
        go_wp2_with fail
        refine HS.out.mono ?_
        rintro e w3 ⟨rfl, h3⟩
        have H3 := Lib.hid (h3.back HG2.out)
        clear h3
        go_wp2_with fail
        go_ret
        exact ⟨rfl, H3.out⟩
      · have HM := Lib.hid (fun w => ref_may x.wi b hw0 hw1 false (by rw [decide_eq_false hm]) w)
        have ha : wireF xs k b = ⟨0, 2, xs⟩ := by
          unfold wireF
          rw [atF_at hx h0, if_neg hm, set_self hx]
        rw [ha]
        clear h hc hx h0 hm ha hgx
        go_enter Try.func26, Try.ntmps26
        go_wp2_with fail
        refine HI.out.mono ?_
        rintro e w2 ⟨rfl, rfl⟩
        go_wp2_with fail
        refine (HM.out _).mono ?_
        rintro e w2 ⟨rfl, rfl⟩
        go_wp2_with fail
        go_ret
        exact ⟨rfl, HR.out.stay⟩
  · have HI := Lib.hid (ref_is h fr false (by rw [decide_eq_false hc]))
    rw [show wireF xs fr b = ⟨0, 7, xs⟩ from atF_out hc]
    clear h hc
    go_enter Try.func26, Try.ntmps26
    go_wp2_with fail
    refine HI.out.mono ?_
    rintro e w2 ⟨rfl, rfl⟩
    go_wp2_with fail
    go_ret
    exact ⟨rfl, HR.out.stay⟩

set_option maxHeartbeats 1000000 in
theorem ref_loan (h : RP w r rs xs g c) (hg : Goods xs) (fr b : Int) :
    Calls Try.prog 27 #[.pointer (some ⟨r, 0, none⟩), .int .i64 fr, .int .i64 b] w fun e w' => e = .returned (.int .i64 (loanF xs fr b).e) ∧ RLeft w w' r g rs (loanF xs fr b).xs := by
  obtain ⟨c0, c1⟩ := h.at
  have HR := Lib.hid h
  by_cases hc : 0 ≤ fr ∧ fr < xs.length
  · obtain ⟨k, rfl⟩ := Int.eq_ofNat_of_zero_le hc.1
    have hk : k < xs.length := by omega
    obtain ⟨x, hx⟩ : ∃ x, xs[k]? = some x := ⟨_, List.getElem?_eq_getElem hk⟩
    have HI := Lib.hid (ref_is h k true (by rw [decide_eq_true hc]))
    obtain ⟨f0, f1, f2, f3, f4⟩ := h.fr hx
    by_cases h0 : x.cl = 0
    · rw [show loanF xs k b = ⟨0, 2, xs⟩ from atF_free hx h0]
      have b0 : (x.cl == 0) = true := by simpa using h0
      clear h hc hx h0
      go_enter Try.func27, Try.ntmps27
      go_wp2_with fail
      refine HI.out.mono ?_
      rintro e w2 ⟨rfl, rfl⟩
      go_wp2_with fail
      go_ret
      exact ⟨rfl, HR.out.stay⟩
    · have b0 : (x.cl == 0) = false := by simpa using h0
      have hgx := hg x (List.mem_of_getElem? hx)
      have hw0 := hgx.l0
      have hw1 := hgx.l1
      by_cases hm : mayBy x.lo b
      · have HM := Lib.hid (fun w => ref_may x.lo b hw0 hw1 true (by rw [decide_eq_true hm]) w)
        have ha : loanF xs k b = ⟨0, 0, xs.set k ⟨x.cl, x.ow, x.ix, x.wi, x.lo + b⟩⟩ := by
          unfold loanF
          rw [atF_at hx h0, if_pos hm]
        rw [ha]
        have hm1 := hm.1
        have hm2 := hm.2
        have hbn := FrB.new w 39 x
        have gan := World.grownBy_alloc w (.cells #[.int .i64 x.cl, .int .i64 x.ow, .int .i64 x.ix, .int .i64 x.wi, .int .i64 x.lo] 39 (0, 0)) none
        have gan2 := World.grownBy_alloc w (.cells #[.int .i64 x.cl, .int .i64 x.ow, .int .i64 x.ix, .int .i64 x.wi, .int .i64 (x.lo + b)] 39 (0, 0)) none
        have HS := Lib.hid (ref_set (h.grow gan2) k ⟨x.cl, x.ow, x.ix, x.wi, x.lo + b⟩ hk)
        have HG2 := Lib.hid gan2
        clear h hc hx h0 hm ha hgx gan gan2 hbn
        go_enter Try.func27, Try.ntmps27
        go_wp2_with fail
        refine HI.out.mono ?_
        rintro e w2 ⟨rfl, rfl⟩
        go_wp2_with fail
        refine (HM.out _).mono ?_
        rintro e w2 ⟨rfl, rfl⟩
        go_wp2_with fail
        refine HS.out.mono ?_
        rintro e w3 ⟨rfl, h3⟩
        have H3 := Lib.hid (h3.back HG2.out)
        clear h3
        go_wp2_with fail
        go_ret
        exact ⟨rfl, H3.out⟩
      · have HM := Lib.hid (fun w => ref_may x.lo b hw0 hw1 false (by rw [decide_eq_false hm]) w)
        have ha : loanF xs k b = ⟨0, 2, xs⟩ := by
          unfold loanF
          rw [atF_at hx h0, if_neg hm, set_self hx]
        rw [ha]
        clear h hc hx h0 hm ha hgx
        go_enter Try.func27, Try.ntmps27
        go_wp2_with fail
        refine HI.out.mono ?_
        rintro e w2 ⟨rfl, rfl⟩
        go_wp2_with fail
        refine (HM.out _).mono ?_
        rintro e w2 ⟨rfl, rfl⟩
        go_wp2_with fail
        go_ret
        exact ⟨rfl, HR.out.stay⟩
  · have HI := Lib.hid (ref_is h fr false (by rw [decide_eq_false hc]))
    rw [show loanF xs fr b = ⟨0, 7, xs⟩ from atF_out hc]
    clear h hc
    go_enter Try.func27, Try.ntmps27
    go_wp2_with fail
    refine HI.out.mono ?_
    rintro e w2 ⟨rfl, rfl⟩
    go_wp2_with fail
    go_ret
    exact ⟨rfl, HR.out.stay⟩

set_option maxHeartbeats 1000000 in
theorem ref_own (h : RP w r rs xs g c) (fr cl ow ix : Int) :
    Calls Try.prog 25 #[.pointer (some ⟨r, 0, none⟩), .int .i64 fr, .int .i64 cl, .int .i64 ow, .int .i64 ix] w fun e w' => e = .returned (.int .i64 (ownF xs fr cl ow ix).e) ∧ RLeft w w' r g rs (ownF xs fr cl ow ix).xs := by
  obtain ⟨c0, c1⟩ := h.at
  have HR := Lib.hid h
  by_cases hc : 0 ≤ fr ∧ fr < xs.length
  · obtain ⟨k, rfl⟩ := Int.eq_ofNat_of_zero_le hc.1
    have hk : k < xs.length := by omega
    obtain ⟨x, hx⟩ : ∃ x, xs[k]? = some x := ⟨_, List.getElem?_eq_getElem hk⟩
    have HI := Lib.hid (ref_is h k true (by rw [decide_eq_true hc]))
    obtain ⟨f0, f1, f2, f3, f4⟩ := h.fr hx
    by_cases h0 : x.cl = 0
    · rw [show ownF xs k cl ow ix = ⟨0, 2, xs⟩ from atF_free hx h0]
      have b0 : (x.cl == 0) = true := by simpa using h0
      clear h hc hx h0
      go_enter Try.func25, Try.ntmps25
      go_wp2_with fail
      refine HI.out.mono ?_
      rintro e w2 ⟨rfl, rfl⟩
      go_wp2_with fail
      go_ret
      exact ⟨rfl, HR.out.stay⟩
    · have b0 : (x.cl == 0) = false := by simpa using h0
      by_cases hm : isCls cl
      · have ha : ownF xs k cl ow ix = ⟨0, 0, xs.set k ⟨cl, ow, ix, x.wi, x.lo⟩⟩ := by
          unfold ownF
          rw [atF_at hx h0, if_pos hm]
        rw [ha]
        have hm1 : ¬ cl < 1 := by have := hm.1; omega
        have hm2 : ¬ 4 < cl := by have := hm.2; omega
        have gan2 := World.grownBy_alloc w (.cells #[.int .i64 cl, .int .i64 ow, .int .i64 ix, .int .i64 x.wi, .int .i64 x.lo] 39 (0, 0)) none
        have HS := Lib.hid (ref_set (h.grow gan2) k ⟨cl, ow, ix, x.wi, x.lo⟩ hk)
        have HG2 := Lib.hid gan2
        clear h hc hx h0 hm ha gan2
        go_enter Try.func25, Try.ntmps25
        go_wp2_with fail
        refine HI.out.mono ?_
        rintro e w2 ⟨rfl, rfl⟩
        go_wp2_with fail
        refine HS.out.mono ?_
        rintro e w3 ⟨rfl, h3⟩
        have H3 := Lib.hid (h3.back HG2.out)
        clear h3
        go_wp2_with fail
        go_ret
        exact ⟨rfl, H3.out⟩
      · have ha : ownF xs k cl ow ix = ⟨0, 2, xs⟩ := by
          unfold ownF
          rw [atF_at hx h0, if_neg hm, set_self hx]
        rw [ha]
        rcases (show cl < 1 ∨ (¬ cl < 1 ∧ 4 < cl) by unfold isCls at hm; omega) with h1 | ⟨h1, h2⟩
        · clear h hc hx h0 hm ha
          go_enter Try.func25, Try.ntmps25
          go_wp2_with fail
          refine HI.out.mono ?_
          rintro e w2 ⟨rfl, rfl⟩
          go_wp2_with fail
          go_ret
          exact ⟨rfl, HR.out.stay⟩
        · clear h hc hx h0 hm ha
          go_enter Try.func25, Try.ntmps25
          go_wp2_with fail
          refine HI.out.mono ?_
          rintro e w2 ⟨rfl, rfl⟩
          go_wp2_with fail
          go_ret
          exact ⟨rfl, HR.out.stay⟩
  · have HI := Lib.hid (ref_is h fr false (by rw [decide_eq_false hc]))
    rw [show ownF xs fr cl ow ix = ⟨0, 7, xs⟩ from atF_out hc]
    clear h hc
    go_enter Try.func25, Try.ntmps25
    go_wp2_with fail
    refine HI.out.mono ?_
    rintro e w2 ⟨rfl, rfl⟩
    go_wp2_with fail
    go_ret
    exact ⟨rfl, HR.out.stay⟩

theorem free_at {xs : List FrV} {j : Nat} {x : FrV} (hx : xs[j]? = some x) (h0 : x.cl = 0) (hb : ∀ i z, i < j → xs[i]? = some z → z.cl ≠ 0) : freeAt xs = some j := by
  have hj := (List.getElem?_eq_some_iff.1 hx).1
  unfold freeAt
  rw [List.findIdx?_eq_some_iff_getElem]
  refine ⟨hj, ?_, fun i hi => ?_⟩
  · rw [(List.getElem?_eq_some_iff.1 hx).2]; simpa using h0
  · have := hb i (xs[i]'(by omega)) hi (List.getElem?_eq_getElem (by omega))
    simpa using this

set_option maxHeartbeats 2000000 in
theorem ref_take (h : RP w r rs xs g c) (cl ow ix : Int) :
    Calls Try.prog 23 #[.pointer (some ⟨r, 0, none⟩), .int .i64 cl, .int .i64 ow, .int .i64 ix] w fun e w' => e = .returned (.tuple #[.int .i64 (takeF rs xs cl ow ix).n, .int .i64 (takeF rs xs cl ow ix).e]) ∧ RLeft w w' r g rs (takeF rs xs cl ow ix).xs := by
  have HR := Lib.hid h
  by_cases hm : isCls cl
  · have hm1 : ¬ cl < 1 := by have := hm.1; omega
    have hm2 : ¬ 4 < cl := by have := hm.2; omega
    have hcn := h.len1
    have HC := Lib.hid (ref_count h 0)
    obtain ⟨n, hn⟩ : ∃ n, countF xs 0 = n := ⟨_, rfl⟩
    rw [hn] at HC
    by_cases hz : n = 0
    · have ha : takeF rs xs cl ow ix = ⟨0, 5, xs⟩ := by
        unfold takeF
        rw [if_neg (not_not_intro hm), if_pos (.inl (by rw [hn]; exact hz))]
      rw [ha]
      subst hz
      clear h hm ha hn
      go_enter Try.func23, Try.ntmps23
      go_wp2_with fail
      refine HC.out.mono ?_
      rintro e w2 ⟨rfl, g2⟩
      have H2 := Lib.hid (HR.out.stay' g2)
      clear g2
      go_wp2_with fail
      go_ret2
      exact ⟨rfl, H2.out⟩
    · have bz : (n == 0) = false := by simpa using hz
      by_cases hq : cl ≠ 1 ∧ n ≤ rs
      · have ha : takeF rs xs cl ow ix = ⟨0, 5, xs⟩ := by
          unfold takeF
          rw [if_neg (not_not_intro hm), if_pos (.inr (by rw [hn]; exact hq))]
        rw [ha]
        have b1 : (cl != 1) = true := by simpa using hq.1
        have hle := hq.2
        clear h hm ha hn hq hz
        go_enter Try.func23, Try.ntmps23
        go_wp2_with fail
        refine HC.out.mono ?_
        rintro e w2 ⟨rfl, g2⟩
        obtain ⟨c0, c1⟩ := (HR.out.grow g2).at
        have H2 := Lib.hid (HR.out.stay' g2)
        clear g2
        go_wp2_with fail
        go_ret2
        exact ⟨rfl, H2.out⟩
      · have ht : takeF rs xs cl ow ix = takeAt xs cl ow ix (freeAt xs) := by
          unfold takeF
          rw [if_neg (not_not_intro hm), if_neg (by rw [hn]; rintro (q | q); exact hz q; exact hq q)]
        have hfa : freeAt xs ≠ none := fun e => hz (by rw [← hn]; exact count_free.2 e)
        have HT := Lib.hid ht
        have HF := Lib.hid hfa
        have hend : (cl == 1) = true ∨ ((cl == 1) = false ∧ ¬ n ≤ rs) := by
          by_cases e : cl = 1
          · exact .inl (by simpa using e)
          · exact .inr ⟨by simpa using e, fun q => hq ⟨e, q⟩⟩
        clear h hm hn hq hz ht hfa
        rcases hend with h1 | ⟨h1, h2⟩
        · have b1 : (cl != 1) = false := by rw [bne, h1]; rfl
          clear h1
          go_enter Try.func23, Try.ntmps23
          go_wp2_with fail
          refine HC.out.mono ?_
          rintro e w2 ⟨rfl, g2⟩
          obtain ⟨c0, c1⟩ := (HR.out.grow g2).at
          have HG2 := Lib.hid g2
          clear g2
          go_wp2_with fail
          go_loopw [11, 12, 40] (fun _ _ iv wr => ∃ j : Nat, j ≤ xs.length ∧ iv = .int .i64 j ∧ Hid (w.grownBy wr none) ∧ Hid (∀ (i : Nat) (z : FrV), i < j → xs[i]? = some z → z.cl ≠ 0)) (fun _ _ iv _ => xs.length - (intOf iv).toNat)
          case atStart => exact ⟨0, by omega, rfl, HG2, fun i z hi => by omega⟩
          case round =>
            obtain ⟨j, hj, rfl, HGr, HB⟩ := hrel
            by_cases hlt : j < xs.length
            · obtain ⟨x, hx⟩ : ∃ x, xs[j]? = some x := ⟨_, List.getElem?_eq_getElem hlt⟩
              obtain ⟨f0, f1, f2, f3, f4⟩ := (HR.out.grow HGr.out).fr hx
              have ga := World.grownBy_alloc wr (.cells #[.int .i64 x.cl, .int .i64 x.ow, .int .i64 x.ix, .int .i64 x.wi, .int .i64 x.lo] 39 (0, 0)) none
              obtain ⟨y0, _⟩ := (FrB.new wr 39 x).at
              have HG3 := Lib.hid (grown_trans HGr.out ga)
              by_cases h0 : x.cl = 0
              · have b0 : (x.cl == 0) = true := by simpa using h0
                have HS := Lib.hid (ref_set (HR.out.grow HG3.out) j ⟨cl, ow, ix, 0, 0⟩ hlt)
                have HFA := Lib.hid (free_at hx h0 HB.out)
                clear h0 hx ga
                go_wp2_with fail
                refine HS.out.mono ?_
                rintro e w5 ⟨rfl, h5⟩
                have H5 := Lib.hid (h5.back HG3.out)
                clear h5
                go_wp2_with fail
                go_ret2
                rw [HT.out, HFA.out]
                exact ⟨rfl, H5.out⟩
              · have b0 : (x.cl == 0) = false := by simpa using h0
                have HX := Lib.hid hx
                have H0 := Lib.hid h0
                clear h0 hx ga
                go_wp2_with fail
                go_roundw
                case rel =>
                  refine ⟨j + 1, by omega, by go_num, HG3, ?_⟩
                  show ∀ (i : Nat) (z : FrV), i < j + 1 → xs[i]? = some z → z.cl ≠ 0
                  intro i z hi hz
                  by_cases e : i = j
                  · subst e
                    rw [HX.out] at hz
                    cases hz
                    exact H0.out
                  · exact HB.out i z (by omega) hz
                case measure => simp [intOf]; omega
            · exfalso
              obtain rfl : j = xs.length := by omega
              refine HF.out ?_
              unfold freeAt
              rw [List.findIdx?_eq_none_iff]
              intro z hz
              obtain ⟨i, hi⟩ := List.getElem?_of_mem hz
              have := HB.out i z (List.getElem?_eq_some_iff.1 hi).1 hi
              simpa using this
        · have b1 : (cl != 1) = true := by rw [bne, h1]; rfl
          clear h1
          go_enter Try.func23, Try.ntmps23
          go_wp2_with fail
          refine HC.out.mono ?_
          rintro e w2 ⟨rfl, g2⟩
          obtain ⟨c0, c1⟩ := (HR.out.grow g2).at
          have HG2 := Lib.hid g2
          clear g2
          go_wp2_with fail
          go_loopw [11, 12, 40] (fun _ _ iv wr => ∃ j : Nat, j ≤ xs.length ∧ iv = .int .i64 j ∧ Hid (w.grownBy wr none) ∧ Hid (∀ (i : Nat) (z : FrV), i < j → xs[i]? = some z → z.cl ≠ 0)) (fun _ _ iv _ => xs.length - (intOf iv).toNat)
          case atStart => exact ⟨0, by omega, rfl, HG2, fun i z hi => by omega⟩
          case round =>
            obtain ⟨j, hj, rfl, HGr, HB⟩ := hrel
            by_cases hlt : j < xs.length
            · obtain ⟨x, hx⟩ : ∃ x, xs[j]? = some x := ⟨_, List.getElem?_eq_getElem hlt⟩
              obtain ⟨f0, f1, f2, f3, f4⟩ := (HR.out.grow HGr.out).fr hx
              have ga := World.grownBy_alloc wr (.cells #[.int .i64 x.cl, .int .i64 x.ow, .int .i64 x.ix, .int .i64 x.wi, .int .i64 x.lo] 39 (0, 0)) none
              obtain ⟨y0, _⟩ := (FrB.new wr 39 x).at
              have HG3 := Lib.hid (grown_trans HGr.out ga)
              by_cases h0 : x.cl = 0
              · have b0 : (x.cl == 0) = true := by simpa using h0
                have HS := Lib.hid (ref_set (HR.out.grow HG3.out) j ⟨cl, ow, ix, 0, 0⟩ hlt)
                have HFA := Lib.hid (free_at hx h0 HB.out)
                clear h0 hx ga
                go_wp2_with fail
                refine HS.out.mono ?_
                rintro e w5 ⟨rfl, h5⟩
                have H5 := Lib.hid (h5.back HG3.out)
                clear h5
                go_wp2_with fail
                go_ret2
                rw [HT.out, HFA.out]
                exact ⟨rfl, H5.out⟩
              · have b0 : (x.cl == 0) = false := by simpa using h0
                have HX := Lib.hid hx
                have H0 := Lib.hid h0
                clear h0 hx ga
                go_wp2_with fail
                go_roundw
                case rel =>
                  refine ⟨j + 1, by omega, by go_num, HG3, ?_⟩
                  show ∀ (i : Nat) (z : FrV), i < j + 1 → xs[i]? = some z → z.cl ≠ 0
                  intro i z hi hz
                  by_cases e : i = j
                  · subst e
                    rw [HX.out] at hz
                    cases hz
                    exact H0.out
                  · exact HB.out i z (by omega) hz
                case measure => simp [intOf]; omega
            · exfalso
              obtain rfl : j = xs.length := by omega
              refine HF.out ?_
              unfold freeAt
              rw [List.findIdx?_eq_none_iff]
              intro z hz
              obtain ⟨i, hi⟩ := List.getElem?_of_mem hz
              have := HB.out i z (List.getElem?_eq_some_iff.1 hi).1 hi
              simpa using this
  · have ha : takeF rs xs cl ow ix = ⟨0, 2, xs⟩ := by
      unfold takeF
      rw [if_pos hm]
    rw [ha]
    rcases (show cl < 1 ∨ (¬ cl < 1 ∧ 4 < cl) by unfold isCls at hm; omega) with h1 | ⟨h1, h2⟩
    · clear h hm ha
      go_enter Try.func23, Try.ntmps23
      go_wp2_with fail
      go_ret2
      exact ⟨rfl, HR.out.stay⟩
    · clear h hm ha
      go_enter Try.func23, Try.ntmps23
      go_wp2_with fail
      go_ret2
      exact ⟨rfl, HR.out.stay⟩
end
end Go.Proofs.Ytabgfjmfhkfbmaa
