/- The law on the order of what is pushed, walked: it answers true, and nothing that was there has turned. -/
import Derived.Test.YtnjpdcoahojgbaaRNums
namespace Go.Proofs.Ytnjpdcoahojgbaa.RInt
open Go.ChangeShapes Go.WideShapes Go.ChangeAt Go.RowKit
set_option linter.unusedVariables false

def sieve (n : Int) (W : List Int) : List Int := W.filter (fun y => decide (y ≠ n))

theorem sieve_len (n : Int) (W : List Int) : (sieve n W).length ≤ W.length := List.length_filter_le _ _

theorem sieve_snoc (n y : Int) (W : List Int) : sieve n (W ++ [y]) = if y = n then sieve n W else sieve n W ++ [y] := by
  unfold sieve
  rw [List.filter_append]
  by_cases h : y = n <;> simp [h]

theorem sieve_not (n : Int) (W : List Int) : n ∉ sieve n W := by unfold sieve; simp

theorem order_push (W : List Int) (n : Int) (j : Nat) (hW : W.length ≤ 300) : pushS 1 n (pushS ((j : Int) % 2) n [[], W, []]) = [[], sieve n W ++ [n], []] := by
  have hj : (j : Int) % 2 = 0 ∨ (j : Int) % 2 = 1 := by omega
  have hs := sieve_len n W
  have hno := sieve_not n W
  have e1 : rmv n [[], W, []] = [[], sieve n W, []] := rfl
  have hf : ∀ r : Int, 0 ≤ r → r < 3 → fits r n [[], W, []] := fun r h0 h1 => ⟨h0, by simpa using h1, .inr (by simp; omega)⟩
  rcases hj with hj | hj
  · rw [hj]
    have e2 : pushS 0 n [[], W, []] = [[n], sieve n W, []] := by
      unfold pushS
      rw [if_pos (hf 0 (by omega) (by omega)), e1]
      rfl
    have hf2 : fits 1 n [[n], sieve n W, []] := ⟨by omega, by simp, .inl (by simp)⟩
    rw [e2]
    unfold pushS
    rw [if_pos hf2]
    have e3 : rmv n [[n], sieve n W, []] = [[], sieve n W, []] := by
      have : sieve n (sieve n W) = sieve n W := filter_absent hno
      unfold rmv
      simp only [List.map_cons, List.map_nil]
      rw [show (sieve n W).filter (fun y => decide (y ≠ n)) = sieve n W from this]
      simp
    rw [e3]
    rfl
  · rw [hj]
    have e2 : pushS 1 n [[], W, []] = [[], sieve n W ++ [n], []] := by
      unfold pushS
      rw [if_pos (hf 1 (by omega) (by omega)), e1]
      rfl
    have hf2 : fits 1 n [[], sieve n W ++ [n], []] := ⟨by omega, by simp, .inl (by simp)⟩
    rw [e2]
    unfold pushS
    rw [if_pos hf2]
    have e3 : rmv n [[], sieve n W ++ [n], []] = [[], sieve n W, []] := by
      have : sieve n (sieve n W ++ [n]) = sieve n W := by
        rw [sieve_snoc, if_pos rfl]
        exact filter_absent hno
      unfold rmv
      simp only [List.map_cons, List.map_nil]
      rw [show (sieve n W ++ [n]).filter (fun y => decide (y ≠ n)) = sieve n W from this]
      simp
    rw [e3]
    rfl

theorem order_long (w : World) (s : Option Addr) (l c : Nat) (hl : 300 < l) :
    Calls Try.prog 4 #[.slice s l c] w fun e w' => e = .returned (.bool true) ∧ Below w.heap.size w w' := by
  have hd : decide ((l : Int) > 300) = true := by simp; omega
  go_enter Try.func4, Try.ntmps4
  go_wp2_with fail
  refine (LiveR.start (w0 := w) 3 (by omega) (by omega)).mono ?_
  rintro e w1 ⟨b, rfl, h1⟩
  have H1 := Lib.hid h1
  clear h1
  go_wp2_with fail
  refine ((lives_ok _).mono ?_)
  rintro e w9 ⟨rfl, hb⟩
  have HB := Lib.hid hb
  clear hb
  go_wp2
  go_ret
  exact ⟨rfl, H1.out.below.trans (HB.out.mono H1.out.below.size)⟩

theorem order_walk (w : World) (s : Option Addr) (l c : Nat) (As : List Int) (hA : IntsAre w s l As) :
    Calls Try.prog 4 #[.slice s l c] w fun e w' => e = .returned (.bool true) ∧ Below w.heap.size w w' := by
  by_cases hl : 300 < l
  · exact order_long w s l c hl
  · have HA := Lib.hid hA
    have hl3 : l ≤ 300 := by omega
    have hd : decide ((l : Int) > 300) = false := by simp; omega
    clear hA hl
    go_enter Try.func4, Try.ntmps4
    go_wp2_with fail
    refine (LiveR.start (w0 := w) 3 (by omega) (by omega)).mono ?_
    rintro e w1 ⟨b, rfl, h1⟩
    have H1 := Lib.hid (show LiveR w w1 b [[], [], []] [] from h1)
    clear h1
    go_wp2_with fail
    go_loopw [31, 4] (fun i v wr => ∃ (j : Nat) (W : List Int), j ≤ l ∧ i = .int .i64 j ∧ W.length ≤ j ∧ Hid (Nums wr w.heap.size v W) ∧ Hid (LiveR w wr b [[], W, []] v.ownBlock.toList)) (fun i _ _ => l - (intOf i).toNat)
    case atStart => exact ⟨0, [], by omega, rfl, by simp, Nums.nil _ _, H1.out.less (by simp [Value.ownBlock])⟩
    case round =>
      obtain ⟨j, W, hj, rfl, hW, HN, HL⟩ := hrel
      obtain ⟨a4, c4, rfl⟩ := HN.out.form
      by_cases hlt : j < l
      · obtain ⟨n, hn⟩ : ∃ n, As[j]? = some n := ⟨_, List.getElem?_eq_getElem (by rw [HA.out.1.len]; exact hlt)⟩
        have hok := Lib.hid (HA.out.2 n (List.mem_of_getElem? hn))
        obtain ⟨g, o, rfl, hc⟩ : ∃ g o, s = some ⟨g, o, none⟩ ∧ wr.cell? ⟨g, o + j, none⟩ = some (.int .i64 n) := by
          rcases (HA.out.1.below HL.out.below).cells with h0 | ⟨g, o, hs, hc⟩
          · omega
          · exact ⟨g, o, hs, hc j n hn⟩
        clear hn
        go_wp2_with fail
        refine ((HL.out.push ((j : Int) % 2) hok.out).mono ?_)
        rintro e w2 ⟨rfl, h2, k2⟩
        have H2 := Lib.hid h2
        have N2 := Lib.hid (HN.out.kept (w' := w2) fun g hg => k2 g (by simp [hg]))
        clear h2 k2 hc
        go_wp2_with fail
        refine ((H2.out.push 1 hok.out).mono ?_)
        rw [order_push W n j (by omega)]
        rintro e w3 ⟨rfl, h3, k3⟩
        have H3 := Lib.hid h3
        have N3 := Lib.hid (N2.out.kept (w' := w3) fun g hg => k3 g (by simp [hg]))
        clear h3 k3 H2 N2
        go_wp2_with fail
        -- the inner loop: what is not n
        obtain ⟨wo, hwo⟩ : ∃ wo : World, wo = w3 := ⟨_, rfl⟩
        have HWO := Lib.hid hwo
        have I3 := Lib.hid N3.out.ints
        rw [← hwo] at I3
        clear hwo
        go_loopw [46, 7] (fun i v wr => ∃ q : Nat, q ≤ W.length ∧ i = .int .i64 q ∧ Hid (Nums wr wo.heap.size v (sieve n (W.take q))) ∧ Hid (Below wo.heap.size wo wr)) (fun i _ _ => W.length - (intOf i).toNat)
        case atStart => exact ⟨0, by omega, rfl, Nums.nil _ _, by rw [HWO.out]; exact Below.refl _ _⟩
        case round =>
          obtain ⟨q, hq, rfl, HV, HB⟩ := hrel
          obtain ⟨a7, c7, rfl⟩ := HV.out.form
          by_cases hlq : q < W.length
          · obtain ⟨y, hy⟩ : ∃ y, W[q]? = some y := ⟨_, List.getElem?_eq_getElem hlq⟩
            have htk : W.take (q + 1) = W.take q ++ [y] := by rw [List.take_add_one, hy]; rfl
            have hsl := sieve_len n (W.take q)
            have hsl2 : (W.take q).length ≤ q := List.length_take_le _ _
            obtain ⟨g4, o4, rfl, hc4⟩ : ∃ g4 o4, a4 = some ⟨g4, o4, none⟩ ∧ wr.cell? ⟨g4, o4 + q, none⟩ = some (.int .i64 y) := by
              rcases (I3.out.below HB.out).cells with h0 | ⟨g4, o4, hs, hc⟩
              · omega
              · exact ⟨g4, o4, hs, hc q y hy⟩
            have HT := Lib.hid htk
            clear hy htk
            by_cases hyn : y = n
            · have hne : (y != n) = false := by simp [hyn]
              have HY := Lib.hid hyn
              clear hyn
              go_wp2
              go_roundw
              case rel => exact ⟨q + 1, by omega, by go_num, by show Nums _ _ _ _; rw [HT.out, sieve_snoc, if_pos HY.out]; exact HV.out, HB⟩
              case measure => simp [intOf]; omega
            · have hne : (y != n) = true := by simp [hyn]
              have HY := Lib.hid hyn
              clear hyn
              go_wp2_with (at_builtin; refine wpList_num _ rfl _ _ rfl wo.heap.size _ _ y (by rfl) HV.out wr.heap.size _ (by rfl) rfl (by omega) HB.out.size ?_; intro g7 cap7 w7 hown7 hk7 hat7 hlt7)
              have h7 := Lib.hid hown7
              have k7 := Lib.hid hk7
              clear hown7 hk7
              go_wp2
              go_roundw
              case rel =>
                refine ⟨q + 1, by omega, by go_num, ?_, ?_⟩
                · show Nums _ _ _ _
                  rw [HT.out, sieve_snoc, if_neg HY.out]
                  exact h7.out
                · exact HB.out.trans (k7.out.below _ HB.out.size fun g hg => (HV.out.lt (by simpa using hg)).1)
              case measure => simp [intOf]; omega
          · obtain rfl : q = W.length := by omega
            simp only [List.take_length] at HV ⊢
            have hsl := sieve_len n W
            clear hq hlq
            go_wp2_with (at_builtin; refine wpList_num _ rfl _ _ rfl wo.heap.size _ _ n (by rfl) HV.out wr.heap.size _ (by rfl) rfl (by omega) HB.out.size ?_; intro g7 cap7 w7 hown7 hk7 hat7 hlt7)
            have h7 := Lib.hid hown7
            have hk8 := hk7.below _ HB.out.size fun g hg => (HV.out.lt (by simpa using hg)).1
            have hge : wo.heap.size ≤ g7 := by
              rcases hat7 with r | r
              · exact (HV.out.lt r).1
              · exact Nat.le_trans HB.out.size r
            have hb7 := HB.out.trans hk8
            have H7 := Lib.hid (show LiveR w w7 b [[], sieve n W ++ [n], []] [g7] by
              have h3 := H3.out
              rw [← HWO.out] at h3
              refine h3.own (Kept.of_below hb7) fun g hg => ?_
              simp only [List.mem_cons, List.not_mem_nil, or_false] at hg
              subst hg
              exact .inr ⟨hge, hlt7⟩)
            have hwsz : w.heap.size ≤ wo.heap.size := by rw [HWO.out]; exact H3.out.below.size
            clear hown7 hk7 hk8 hb7 hat7
            go_wp2
            go_roundw
            case rel =>
              refine ⟨j + 1, sieve n W ++ [n], by omega, by go_num, by simp; omega, h7.out.lower hwsz, ?_⟩
              exact H7.out
            case measure => simp [intOf]; omega
      · obtain rfl : l = j := by omega
        clear hj
        go_wp2_with fail
        go_loopw [65] (fun i wr => ∃ q : Nat, q ≤ W.length ∧ i = .int .i64 q ∧ Hid (Nums wr w.heap.size (.slice a4 W.length c4) W) ∧ Hid (LiveR w wr b [[], W.drop q, []] (Value.slice a4 W.length c4).ownBlock.toList)) (fun i _ => W.length - (intOf i).toNat)
        case atStart => exact ⟨0, by omega, rfl, HN, HL⟩
        case round =>
          obtain ⟨q, hq, rfl, HN2, HL2⟩ := hrel
          by_cases hlq : q < W.length
          · obtain ⟨y, hy⟩ : ∃ y, W[q]? = some y := ⟨_, List.getElem?_eq_getElem hlq⟩
            have hdr : W.drop q = y :: W.drop (q + 1) := by
              rw [List.drop_eq_getElem_cons hlq]
              have := List.getElem?_eq_getElem hlq
              rw [hy] at this
              cases this
              rfl
            obtain ⟨g4, o4, rfl, hc4⟩ : ∃ g4 o4, a4 = some ⟨g4, o4, none⟩ ∧ wr.cell? ⟨g4, o4 + q, none⟩ = some (.int .i64 y) := by
              rcases HN2.out.ints.cells with h0 | ⟨g4, o4, hs, hc⟩
              · omega
              · exact ⟨g4, o4, hs, hc q y hy⟩
            have HD := Lib.hid hdr
            clear hy hdr
            go_wp2_with fail
            refine ((HL2.out.shift 1).mono ?_)
            have e1 : rowS 1 [[], W.drop q, []] = y :: W.drop (q + 1) := HD.out
            have e2 : shiftS 1 [[], W.drop q, []] = [[], W.drop (q + 1), []] := by rw [HD.out]; rfl
            rw [e1, e2]
            unfold firstV
            simp only
            clear e1 e2
            rintro e w2 ⟨rfl, h2, k2⟩
            have H2 := Lib.hid h2
            have N2 := Lib.hid (HN2.out.kept (w' := w2) fun g hg => k2 g (by simp [hg]))
            clear h2 k2 hc4
            go_wp2
            go_roundw
            case rel => exact ⟨q + 1, by omega, by go_num, N2, H2⟩
            case measure => simp [intOf]; omega
          · obtain rfl : q = W.length := by omega
            rw [List.drop_length] at HL2
            clear hq hlq
            go_wp2_with fail
            refine ((HL2.out.shift 1).mono ?_)
            rw [show rowS 1 [[], [], []] = ([] : List Int) from rfl, show shiftS 1 [[], [], []] = ([[], [], []] : List (List Int)) from rfl]
            unfold firstV
            simp only
            rintro e w2 ⟨rfl, h2, k2⟩
            have H2 := Lib.hid h2
            clear h2 k2
            go_wp2_with fail
            refine ((H2.out.len 0).mono ?_)
            rw [show (rowS 0 [[], [], []] : List Int).length = 0 from rfl]
            rintro e w3 ⟨rfl, rfl⟩
            go_wp2_with fail
            refine ((H2.out.len 1).mono ?_)
            rw [show (rowS 1 [[], [], []] : List Int).length = 0 from rfl]
            rintro e w3 ⟨rfl, rfl⟩
            go_wp2_with fail
            refine ((lives_ok _).mono ?_)
            rintro e w9 ⟨rfl, hb⟩
            have HB := Lib.hid hb
            clear hb
            go_wp2
            go_ret
            exact ⟨rfl, H2.out.below.trans (HB.out.mono H2.out.below.size)⟩
end Go.Proofs.Ytnjpdcoahojgbaa.RInt
