/- The document's own rows: Remove, Shift. -/
import Derived.Test.YtnjpdcoahojgbaaRRef2
namespace Go.Proofs.Ytnjpdcoahojgbaa.RInt
open Go.ChangeShapes Go.WideShapes Go.ChangeAt Go.RowKit Go.Deep
set_option linter.unusedVariables false

theorem rmv_set {S : List (List Int)} (hS : S.flatten.Nodup) {i : Nat} {l : List Int} {x : Int} (hi : S[i]? = some l) (hx : x ∈ l) : rmv x S = S.set i (sieve x l) := by
  obtain ⟨S1, S2, e, h1⟩ := at_split hi
  subst e h1
  rw [List.flatten_append, List.flatten_cons, List.nodup_append] at hS
  have e1 : rmv x S1 = S1 := rmv_absent fun hm => hS.2.2 x hm x (by simp [hx]) rfl
  have e2 : rmv x S2 = S2 := rmv_absent fun hm => (List.nodup_append.1 hS.2.1).2.2 x hx x hm rfl
  have e3 : rmv x (S1 ++ l :: S2) = rmv x S1 ++ sieve x l :: rmv x S2 := by unfold rmv sieve; simp
  rw [e3, e1, e2]
  simp [List.set_append]

theorem modify_is {S : List (List Int)} {i : Nat} {l : List Int} (f : List Int → List Int) (hi : S[i]? = some l) : S.modify i f = S.set i (f l) := by
  refine List.ext_getElem? fun j => ?_
  have hil := (List.getElem?_eq_some_iff.1 hi).1
  by_cases hij : i = j
  · subst hij
    rw [List.getElem?_set_self hil, List.getElem?_modify_eq, hi]
    rfl
  · rw [List.getElem?_set_ne hij, List.getElem?_modify]
    simp [hij]

theorem rmv_max {S : List (List Int)} (x : Int) (h : S.flatten.length ≤ 4096) : (rmv x S).flatten.length ≤ 4096 := by
  rw [rmv_flat]
  have := List.length_filter_le (fun y => decide (y ≠ x)) S.flatten
  omega

section
variable {w w' : World} {base r T : Nat} {S : List (List Int)} {vs : List Value}

theorem RefNow.same (h : RefIs w base r T S vs) (v : Value) : RefNow w base r T vs S v (.returned v) w := ⟨rfl, vs, h, Kept.refl _ _, fun g hg => .inl hg⟩

theorem RefIs.frozen (h : RefIs w base r T S vs) (i : Nat) : w.frozen? ⟨T, i, none⟩ = false := frozen_of_row w T i _ _ h.tab

theorem ref_remove (h : RefIs w base r T S vs) (hS : S.flatten.Nodup) (x : Int) :
    Calls Try.prog 20 #[.pointer (some ⟨r, 0, none⟩), .int .i64 x] w (RefNow w base r T vs (rmv x S) (.bool (decide (x ∈ S.flatten)))) := by
  obtain ⟨i, hw, hat⟩ := where_form x S
  have HW := Lib.hid hw
  clear hw
  by_cases hx : x ∈ S.flatten
  · obtain ⟨l, hl, hxl⟩ := hat hx
    have HSET := Lib.hid (rmv_set hS hl hxl)
    have HMX := Lib.hid (rmv_max x h.max)
    have HD := Lib.hid (decide_eq_true hx)
    obtain ⟨a, c, hat2, hn⟩ := h.at hl
    have hmax := h.max1 hl
    have hil : i < S.length := (List.getElem?_eq_some_iff.1 hl).1
    have hle := h.le
    have HR := Lib.hid h
    have HI := Lib.hid hn.ints
    have hc := h.cell
    clear h hS hx hxl hl hn hat
    go_enter Try.func20, Try.ntmps20
    go_wp2_with fail
    refine ((ref_where HR.out x).mono ?_)
    rw [HW.out, HD.out]
    rintro e w1 ⟨rfl, rfl⟩
    go_wp2_with fail
    go_loopw [26, 7] (fun i v wr => ∃ q : Nat, q ≤ l.length ∧ i = .int .i64 q ∧ Hid (Nums wr w.heap.size v (sieve x (l.take q))) ∧ Hid (Below w.heap.size w wr)) (fun i _ _ => l.length - (intOf i).toNat)
    case atStart => exact ⟨0, by omega, rfl, Nums.nil _ _, Below.refl _ _⟩
    case round =>
      obtain ⟨q, hq, rfl, HV, HB⟩ := hrel
      obtain ⟨a7, c7, rfl⟩ := HV.out.form
      by_cases hlq : q < l.length
      · obtain ⟨y, hy⟩ : ∃ y, l[q]? = some y := ⟨_, List.getElem?_eq_getElem hlq⟩
        have htk : l.take (q + 1) = l.take q ++ [y] := by rw [List.take_add_one, hy]; rfl
        have hsl := sieve_len x (l.take q)
        have hsl2 : (l.take q).length ≤ q := List.length_take_le _ _
        obtain ⟨g4, o4, rfl, hc4⟩ : ∃ g4 o4, a = some ⟨g4, o4, none⟩ ∧ wr.cell? ⟨g4, o4 + q, none⟩ = some (.int .i64 y) := by
          rcases (HI.out.below HB.out).cells with h0 | ⟨g4, o4, hs, hc⟩
          · omega
          · exact ⟨g4, o4, hs, hc q y hy⟩
        have HT := Lib.hid htk
        clear hy htk
        by_cases hyn : y = x
        · have hne : (y != x) = false := by simp [hyn]
          have HY := Lib.hid hyn
          clear hyn
          go_wp2
          go_roundw
          case rel => exact ⟨q + 1, by omega, by go_num, by show Nums _ _ _ _; rw [HT.out, sieve_snoc, if_pos HY.out]; exact HV.out, HB⟩
          case measure => simp [intOf]; omega
        · have hne : (y != x) = true := by simp [hyn]
          have HY := Lib.hid hyn
          clear hyn
          go_wp2_with (at_builtin; refine wpList_num _ rfl _ _ rfl w.heap.size _ _ y (by rfl) HV.out wr.heap.size _ (by rfl) rfl (by omega) HB.out.size ?_; intro g7 cap7 w7 hown7 hk7 hat7 hlt7)
          have h7 := Lib.hid hown7
          have k7 := Lib.hid hk7
          clear hown7 hk7
          go_wp2
          go_roundw
          case rel =>
            refine ⟨q + 1, by omega, by go_num, ?_, ?_⟩
            · show Nums _ _ _ _
              rw [HT.out, sieve_snoc, if_neg HY.out]
              exact h7.out
            · exact HB.out.trans (k7.out.below _ HB.out.size fun g hg => (HV.out.lt (by simpa using hg)).1)
          case measure => simp [intOf]; omega
      · obtain rfl : q = l.length := by omega
        rw [List.take_length] at HV
        have HR2 := Lib.hid (HR.out.past HB.out)
        have hc2 := HR2.out.cell
        have hf2 := HR2.out.frozen i
        have hc3 : ∃ u, wr.cell? ⟨T, i, none⟩ = some u := ⟨_, (HB.out.cell (p := ⟨T, i, none⟩) HR.out.tlt).trans hat2⟩
        obtain ⟨u, hc3⟩ := hc3
        clear hq hlq hc hat2
        go_wp2
        go_ret
        refine ⟨by rw [HD.out]; rfl, vs.set i (.slice a7 (sieve x l).length c7), ?_, (Kept.of_below HB.out).setCell (by simp) _, fun g hg => ?_⟩
        · rw [HSET.out]
          have hbase : base ≤ w.heap.size := by have := HR.out.tge; have := HR.out.tlt; omega
          exact HR2.out.put hil (HV.out.lower hbase) (by rw [← HSET.out]; exact HMX.out)
        · rcases blocks_set hg with q | q
          · exact .inl q
          · exact .inr (HV.out.lt q).1
  · have HD := Lib.hid (decide_eq_false hx)
    have HAB := Lib.hid (rmv_absent hx)
    have HR := Lib.hid h
    clear h hS hx hat
    go_enter Try.func20, Try.ntmps20
    go_wp2_with fail
    refine ((ref_where HR.out x).mono ?_)
    rw [HW.out, HD.out]
    rintro e w1 ⟨rfl, rfl⟩
    go_wp2
    go_ret
    rw [HD.out, HAB.out]
    exact RefNow.same HR.out _

theorem sieve_head {x : Int} {t : List Int} (h : (x :: t).Nodup) : sieve x (x :: t) = t := by
  unfold sieve
  rw [List.filter_cons_of_neg (by simp)]
  exact filter_absent (List.nodup_cons.1 h).1

theorem shift_rmv {S : List (List Int)} (hS : S.flatten.Nodup) {row : Int} {x : Int} {t : List Int} (h : rowS row S = x :: t) : shiftS row S = rmv x S ∧ x ∈ S.flatten := by
  unfold rowS at h
  by_cases h0 : 0 ≤ row
  · rw [if_pos h0] at h
    cases hr : S[row.toNat]? with
    | none => rw [hr] at h; cases h
    | some l =>
      rw [hr] at h
      have hl : l = x :: t := h
      subst hl
      have hnd : (x :: t).Nodup := by
        obtain ⟨S1, S2, e, h1⟩ := at_split hr
        subst e
        rw [List.flatten_append, List.flatten_cons, List.nodup_append] at hS
        exact (List.nodup_append.1 hS.2.1).1
      refine ⟨?_, mem_flat_of hr (by simp)⟩
      unfold shiftS
      rw [if_pos h0, modify_is _ hr, rmv_set hS hr (by simp), sieve_head hnd]
      rfl
  · rw [if_neg h0] at h
    cases h

theorem shift_nil {S : List (List Int)} {row : Int} (h : rowS row S = []) : shiftS row S = S := by
  unfold rowS at h
  unfold shiftS
  by_cases h0 : 0 ≤ row
  · rw [if_pos h0] at h ⊢
    cases hr : S[row.toNat]? with
    | none =>
      refine List.ext_getElem? fun j => ?_
      rw [List.getElem?_modify]
      by_cases hij : row.toNat = j
      · subst hij
        rw [hr]
        rfl
      · simp [hij]
    | some l =>
      rw [hr] at h
      have hl : l = [] := h
      subst hl
      rw [modify_is _ hr]
      refine List.ext_getElem? fun j => ?_
      by_cases hij : row.toNat = j
      · subst hij
        rw [List.getElem?_set_self (List.getElem?_eq_some_iff.1 hr).1, hr]
        rfl
      · rw [List.getElem?_set_ne hij]
  · rw [if_neg h0]

theorem ref_shift (h : RefIs w base r T S vs) (hS : S.flatten.Nodup) (row : Int) :
    Calls Try.prog 18 #[.pointer (some ⟨r, 0, none⟩), .int .i64 row] w (RefNow w base r T vs (shiftS row S) (firstV (rowS row S))) := by
  have HR := Lib.hid h
  have HS := Lib.hid hS
  have HF := Lib.hid (ref_first h row)
  clear h hS
  cases hl : rowS row S with
  | nil =>
    rw [hl] at HF
    have HN := Lib.hid (shift_nil hl)
    clear hl
    unfold firstV at HF ⊢
    go_enter Try.func18, Try.ntmps18
    go_wp2_with fail
    refine (HF.out.mono ?_)
    rintro e w1 ⟨rfl, rfl⟩
    go_wp2
    go_ret2
    rw [HN.out]
    exact RefNow.same HR.out _
  | cons x t =>
    rw [hl] at HF
    have HN := Lib.hid (shift_rmv HS.out hl)
    clear hl
    unfold firstV at HF ⊢
    go_enter Try.func18, Try.ntmps18
    go_wp2_with fail
    refine (HF.out.mono ?_)
    rintro e w1 ⟨rfl, rfl⟩
    go_wp2_with fail
    refine ((ref_remove HR.out HS.out x).mono ?_)
    rintro e w1 ⟨rfl, vs', h1, h2, h3⟩
    have H1 := Lib.hid h1
    have H2 := Lib.hid h2
    have H3 := Lib.hid h3
    clear h1 h2 h3
    go_wp2
    go_ret2
    rw [HN.out.1]
    exact ⟨rfl, vs', H1.out, H2.out, H3.out⟩
end
end Go.Proofs.Ytnjpdcoahojgbaa.RInt
