/- Package ring at numbers, by the items alone: Front, Shift, Remove, Where and Turn. -/
import Derived.Test.YtnjpdcoahojgbaaRLiveInt
namespace Go.Proofs.Ytnjpdcoahojgbaa.RInt
open Go.ChangeShapes Go.WideShapes Go.ChangeAt Go.RowKit
set_option linter.unusedVariables false

section
variable {w : World} {b : Nat} {S : List (List K)} {O : List Nat}

theorem front_yes (h : Is w b S O) (r : Int) {x : K} (hx : okK x) (hf : fits r x S) :
    Calls Try.prog 15 #[.pointer (some ⟨b, 0, none⟩), .int .i64 r, .int .i64 x] w (Now w b O ((rmv x S).modify r.toNat (x :: ·)) (.bool true)) := by
  obtain ⟨F, L, M, cap, T, hA, rfl, rfl⟩ := h
  have HA := Lib.hid (admit_yes hA r hx hf)
  obtain ⟨k, rfl⟩ := Int.eq_ofNat_of_zero_le hf.1
  have hk : k < T.length := by have := hf.2.1; rw [strip_length] at this; omega
  rw [Int.toNat_natCast]
  clear hf hA
  go_enter Try.func15, Try.ntmps15
  go_wp2_with fail
  refine (Calls.mono HA.out ?_)
  rintro e w1 ⟨rfl, F1, T1, h1, hs, hno, hlt, hlen, hK, hO⟩
  obtain ⟨S1, S2, hT1, hS1⟩ := at_split (S := T1) (r := k) (List.getElem?_eq_getElem (by omega))
  generalize T1[k] = ns at hT1
  subst hT1
  have c0 := h1.holds.cell _ _ _ h1.ring.lines
  have hkl : k < (S1 ++ ns :: S2).length := by omega
  have HS := Lib.hid (stand_ok (l1 := []) (l2 := ns) (S1 := S1) (S2 := S2) (x := x) (by rw [List.nil_append]; exact h1) hx (by rw [List.nil_append]; exact hno) (by rw [List.nil_append]; exact hlt) [] (endOf L S1.length) rfl)
  have HK := Lib.hid hK
  have HO := Lib.hid hO
  have HE := Lib.hid hs
  have HL := Lib.hid hS1
  rw [List.nil_append, List.nil_append, hS1] at HS
  unfold endOf at HS
  clear h1 hs hno hlt hlen hK hO hS1
  generalize (S1 ++ ns :: S2).length = m at c0 hkl
  go_wp2_with (go_at_call 41; refine (Calls.mono HS.out ?_); rintro e w' ⟨rfl, hF, hK, hO⟩; have HF2 := Lib.hid hF; have HK2 := Lib.hid hK; have HO2 := Lib.hid hO; clear hF hK hO)
  go_ret
  obtain ⟨F', hA'⟩ := HF2.out
  refine ⟨rfl, _, ⟨F', L, M, cap, _, hA', ?_, rfl⟩, HK.out.trans' HK2.out HO.out, fun g hg => ?_, rfl⟩
  · rw [← HE.out, ← HL.out, strip_mid, strip_mid]
    have : S1.length = (strip S1).length := (strip_length S1).symm
    rw [this, modify_mid]
    simp
  · rcases HO2.out g hg with q | q
    · exact HO.out g q
    · exact .inr (Nat.le_trans HK.out.size q)

theorem front_no (h : Is w b S O) (r : Int) {x : K} (hx : okK x) (hf : ¬ fits r x S) :
    Calls Try.prog 15 #[.pointer (some ⟨b, 0, none⟩), .int .i64 r, .int .i64 x] w (Now w b O S (.bool false)) := by
  refine Calls.mono (R := Refused w (.bool false)) ?_ fun e w' hr => h.refused hr
  obtain ⟨F, L, M, cap, T, hA, rfl, rfl⟩ := h
  have HA := Lib.hid (admit_no hA r hx hf)
  clear hf hA
  go_enter Try.func15, Try.ntmps15
  go_wp2_with (go_at_call 40; refine (Calls.mono HA.out ?_); rintro e w' ⟨rfl, hb⟩; have HB := Lib.hid hb; clear hb)
  go_ret
  exact ⟨rfl, HB.out⟩

theorem front_any (h : Is w b S O) (r : Int) {x : K} (hx : okK x) :
    Calls Try.prog 15 #[.pointer (some ⟨b, 0, none⟩), .int .i64 r, .int .i64 x] w (Now w b O (frontS r x S) (.bool (decide (fits r x S)))) := by
  unfold frontS
  by_cases hf : fits r x S
  · rw [if_pos hf, decide_eq_true hf]
    exact front_yes h r hx hf
  · rw [if_neg hf, decide_eq_false hf]
    exact front_no h r hx hf

/-- What a row of rows is, item by item. -/
theorem row_split {r : Int} {x : K} {l : List K} (h : rowS r S = x :: l) : ∃ k : Nat, r = k ∧ ∃ S1 S2, S = S1 ++ (x :: l) :: S2 ∧ S1.length = k := by
  unfold rowS at h
  by_cases h0 : 0 ≤ r
  · obtain ⟨k, rfl⟩ := Int.eq_ofNat_of_zero_le h0
    rw [if_pos h0, Int.toNat_natCast] at h
    cases hT : S[k]? with
    | none => rw [hT] at h; simp at h
    | some ns =>
      rw [hT] at h
      simp only [Option.getD_some] at h
      subst h
      obtain ⟨S1, S2, e, hl⟩ := at_split hT
      exact ⟨k, rfl, S1, S2, e, hl⟩
  · rw [if_neg h0] at h
    cases h

theorem strip_split {T : List (List (K × Nat))} {S1 S2 : List (List K)} {l : List K} (h : strip T = S1 ++ l :: S2) : ∃ T1 T2 ns, T = T1 ++ ns :: T2 ∧ strip T1 = S1 ∧ strip T2 = S2 ∧ ns.map (·.1) = l := by
  unfold strip at h
  obtain ⟨T1, T', rfl, h1, h2⟩ := List.map_eq_append_iff.1 h
  obtain ⟨ns, T2, rfl, h3, h4⟩ := List.map_eq_cons_iff.1 h2
  exact ⟨T1, T2, ns, rfl, h1, h4, h3⟩

theorem shiftS_mid (S1 S2 : List (List K)) (l : List K) : shiftS ((S1.length : Nat) : Int) (S1 ++ l :: S2) = S1 ++ l.tail :: S2 := by
  unfold shiftS
  rw [if_pos (by omega), Int.toNat_natCast, modify_mid]

theorem shiftS_none {r : Int} (h : rowS r S = []) : shiftS r S = S := by
  unfold shiftS
  unfold rowS at h
  by_cases h0 : 0 ≤ r
  · rw [if_pos h0] at h ⊢
    apply List.ext_getElem?
    intro i
    rw [List.getElem?_modify]
    by_cases e : r.toNat = i
    · subst e
      cases hS : S[r.toNat]? with
      | none => rfl
      | some l => rw [hS] at h; simp at h; subst h; simp
    · simp [e]
  · rw [if_neg h0]

theorem shift_any (h : Is w b S O) (r : Int) : Calls Try.prog 17 #[.pointer (some ⟨b, 0, none⟩), .int .i64 r] w (Now w b O (shiftS r S) (firstV (rowS r S))) := by
  have HF := Lib.hid (first_any h r)
  cases hr : rowS r S with
  | nil =>
    rw [hr] at HF
    rw [shiftS_none hr]
    have HI := Lib.hid h
    clear h hr
    unfold firstV at HF ⊢
    go_enter Try.func17, Try.ntmps17
    go_wp2_with (go_at_call 25; refine (Calls.mono HF.out ?_); rintro e w' ⟨rfl, rfl⟩)
    go_ret2
    exact ⟨rfl, O, HI.out, Kept.refl _ _, fun g hg => .inl hg, rfl⟩
  | cons x l =>
    rw [hr] at HF
    obtain ⟨k, rfl, S1, S2, rfl, hk⟩ := row_split hr
    subst hk
    rw [shiftS_mid]
    obtain ⟨F, L, M, cap, T, hA, hS, rfl⟩ := h
    obtain ⟨T1, T2, ns, rfl, e1, e2, e3⟩ := strip_split hS.symm
    obtain ⟨n, ns, rfl, e4, e5⟩ := List.map_eq_cons_iff.1 e3
    subst e1 e2 e5 e4
    obtain ⟨y, a⟩ := n
    simp only at hr HF ⊢
    have hl : (strip T1).length = T1.length := strip_length T1
    rw [hl] at HF ⊢
    have HL := Lib.hid (leave_ok (l1 := []) (l2 := ns) (x := y) (a := a) (S1 := T1) (S2 := T2) (by rw [List.nil_append]; exact hA))
    rw [List.nil_append, List.nil_append] at HL
    have c0 := hA.holds.cell _ _ _ hA.ring.lines
    have c3 := hA.holds.cell _ _ _ (first_link (hA.ring.chain T1.length _ (at_mid _ _ _)))
    have hkl : T1.length < (T1 ++ ((y, a) :: ns) :: T2).length := by simp
    unfold ptr nd at c3
    simp only at c3
    clear hA hS hr hl e3
    generalize (T1 ++ ((y, a) :: ns) :: T2).length = m at c0 hkl
    unfold firstV at HF ⊢
    simp only at HF ⊢
    generalize hj : T1.length = j at HF c3 hkl ⊢
    clear hj
    go_enter Try.func17, Try.ntmps17
    go_wp2_with (first | (go_at_call 25; refine (Calls.mono HF.out ?_); rintro e w' ⟨rfl, rfl⟩) | (go_at_call 43; refine (Calls.mono HL.out ?_); rintro e w' ⟨rfl, hF, hK, hO⟩; have HF2 := Lib.hid hF; have HK2 := Lib.hid hK; have HO2 := Lib.hid hO; clear hF hK hO))
    go_ret2
    obtain ⟨F', hA'⟩ := HF2.out
    exact ⟨rfl, _, ⟨F', L, M, cap, _, hA', by simp [strip_mid], rfl⟩, HK2.out, HO2.out, rfl⟩

theorem remove_any (h : Is w b S O) {x : K} (hx : okK x) :
    Calls Try.prog 19 #[.pointer (some ⟨b, 0, none⟩), .int .i64 x] w (Now w b O (rmv x S) (.bool (decide (x ∈ S.flatten)))) := by
  obtain ⟨F, L, M, cap, T, hA, rfl, rfl⟩ := h
  rw [strip_flat]
  by_cases hm : x ∈ T.flatten.map (·.1)
  · rw [decide_eq_true hm]
    obtain ⟨S1, S2, l1, l2, a, rfl⟩ := hA.find hm
    have HF := Lib.hid (find_yes hA (x := x) (a := a) (by simp))
    have HA := Lib.hid hA
    clear hA hm
    go_enter Try.func19, Try.ntmps19
    go_wp2_with fail
    refine (Calls.mono HF.out ?_)
    rintro e w1 ⟨rfl, hb⟩
    have HB := Lib.hid hb
    have HL := Lib.hid (leave_ok (HA.out.below hb))
    clear hb
    go_wp2_with (go_at_call 43; refine (Calls.mono HL.out ?_); rintro e w' ⟨rfl, hF, hK, hO⟩; have HF2 := Lib.hid hF; have HK2 := Lib.hid hK; have HO2 := Lib.hid hO; clear hF hK hO)
    go_ret
    obtain ⟨F', hA'⟩ := HF2.out
    refine ⟨rfl, _, ⟨F', L, M, cap, _, hA', (strip_cut HA.out.keys).symm, rfl⟩, (Kept.of_below HB.out).trans HK2.out, fun g hg => ?_, rfl⟩
    rcases HO2.out g hg with q | q
    · exact .inl q
    · exact .inr (Nat.le_trans HB.out.size q)
  · rw [decide_eq_false hm]
    rw [rmv_absent (by rw [strip_flat]; exact hm)]
    have HF := Lib.hid (find_no hA hx hm)
    have HA := Lib.hid hA
    clear hA hm
    go_enter Try.func19, Try.ntmps19
    go_wp2_with (go_at_call 44; refine (Calls.mono HF.out ?_); rintro e w' ⟨rfl, hb⟩; have HB := Lib.hid hb; clear hb)
    go_ret
    exact ⟨rfl, _, ⟨_, L, M, cap, T, HA.out.below HB.out, rfl, rfl⟩, Kept.of_below HB.out, fun g hg => .inl hg, rfl⟩

/-- What Where tells. -/
def whereV (x : K) (S : List (List K)) : Value := match S.findIdx? (fun l => decide (x ∈ l)) with
  | some r => .tuple #[.int .i64 r, .bool true]
  | none => .tuple #[.int .i64 0, .bool false]

theorem where_any (h : Is w b S O) {x : K} (hx : okK x) : Calls Try.prog 23 #[.pointer (some ⟨b, 0, none⟩), .int .i64 x] w (Refused w (whereV x S)) := by
  obtain ⟨F, L, M, cap, T, hA, rfl, rfl⟩ := h
  by_cases hm : x ∈ T.flatten.map (·.1)
  · obtain ⟨S1, S2, l1, l2, a, rfl⟩ := hA.find hm
    have hv : whereV x (strip (S1 ++ (l1 ++ (x, a) :: l2) :: S2)) = .tuple #[.int .i64 S1.length, .bool true] := by
      have hk := hA.keys
      have h1 : ∀ l, l ∈ strip S1 → decide (x ∈ l) = false := by
        intro l hl
        simp only [decide_eq_false_iff_not]
        intro hxl
        have : x ∈ (strip S1).flatten := List.mem_flatten.2 ⟨l, hl, hxl⟩
        rw [strip_flat] at this
        simp only [List.flatten_append, List.flatten_cons, List.map_append, List.map_cons, List.append_assoc] at hk
        exact (List.nodup_append.1 hk).2.2 x this x (by simp) rfl
      have h2 : (strip (S1 ++ (l1 ++ (x, a) :: l2) :: S2)).findIdx? (fun l => decide (x ∈ l)) = some S1.length := by
        rw [strip_mid, List.findIdx?_append, List.findIdx?_eq_none_iff.2 h1, List.findIdx?_cons]
        simp [strip_length]
      unfold whereV
      rw [h2]
    rw [hv]
    have HF := Lib.hid (find_yes hA (x := x) (a := a) (by simp))
    have HA := Lib.hid hA
    have ha : a < (w : World).heap.size := hA.lt (by unfold own; simp)
    have a1 := hA.holds.cell _ _ _ (hA.ring.item S1.length _ (x, a) (at_mid _ _ _) (by simp)).2
    simp only at a1
    have A1 := Lib.hid a1
    clear hA hm hv a1
    go_enter Try.func23, Try.ntmps23
    go_wp2_with fail
    refine (Calls.mono HF.out ?_)
    rintro e w1 ⟨rfl, hb⟩
    have HB := Lib.hid hb
    have a1 := (hb.cell (p := ⟨a, 1, none⟩) ha).trans A1.out
    clear hb
    go_wp2
    go_ret2
    exact ⟨rfl, HB.out⟩
  · have hv : whereV x (strip T) = .tuple #[.int .i64 0, .bool false] := by
      unfold whereV
      rw [List.findIdx?_eq_none_iff.2]
      intro l hl
      simp only [decide_eq_false_iff_not]
      intro hxl
      exact hm (by rw [← strip_flat]; exact List.mem_flatten.2 ⟨l, hl, hxl⟩)
    rw [hv]
    have HF := Lib.hid (find_no hA hx hm)
    clear hA hm hv
    go_enter Try.func23, Try.ntmps23
    go_wp2_with (go_at_call 44; refine (Calls.mono HF.out ?_); rintro e w' ⟨rfl, hb⟩; have HB := Lib.hid hb; clear hb)
    go_ret2
    exact ⟨rfl, HB.out⟩

theorem turnS_mid (S1 S2 : List (List K)) (x : K) (l : List K) : turnS ((S1.length : Nat) : Int) (S1 ++ (x :: l) :: S2) = S1 ++ (l ++ [x]) :: S2 := by
  unfold turnS
  rw [if_pos (by omega), Int.toNat_natCast, modify_mid]

theorem turnS_none {r : Int} (h : rowS r S = []) : turnS r S = S := by
  unfold turnS
  unfold rowS at h
  by_cases h0 : 0 ≤ r
  · rw [if_pos h0] at h ⊢
    apply List.ext_getElem?
    intro i
    rw [List.getElem?_modify]
    by_cases e : r.toNat = i
    · subst e
      cases hS : S[r.toNat]? with
      | none => rfl
      | some l => rw [hS] at h; simp at h; subst h; simp
    · simp [e]
  · rw [if_neg h0]

theorem turn_none (h : Is w b S O) (r : Int) (hr : rowS r S = []) : Calls Try.prog 21 #[.pointer (some ⟨b, 0, none⟩), .int .i64 r] w (Now w b O S (.bool false)) := by
  have HS := Lib.hid (shift_any h r)
  rw [hr, shiftS_none hr] at HS
  unfold firstV at HS
  simp only at HS
  clear h hr
  go_enter Try.func21, Try.ntmps21
  go_wp2_with (go_at_call 17; refine (Calls.mono HS.out ?_); rintro e w' ⟨rfl, hN⟩; have HN := Lib.hid hN; clear hN)
  go_ret
  exact ⟨rfl, HN.out⟩

theorem turn_some (S1 S2 : List (List K)) (x : K) (l : List K) (h : Is w b (S1 ++ (x :: l) :: S2) O) :
    Calls Try.prog 21 #[.pointer (some ⟨b, 0, none⟩), .int .i64 S1.length] w (Now w b O (S1 ++ (l ++ [x]) :: S2) (.bool true)) := by
  have HS := Lib.hid (shift_any h S1.length)
  have hrow : rowS ((S1.length : Nat) : Int) (S1 ++ (x :: l) :: S2) = x :: l := by
    unfold rowS
    rw [if_pos (by omega), Int.toNat_natCast, at_mid]
    rfl
  rw [hrow, shiftS_mid] at HS
  unfold firstV at HS
  simp only [List.tail_cons] at HS
  have hx : okK x := h.ok (x := x) (by simp)
  have hno : x ∉ (S1 ++ l :: S2).flatten := by
    have hk := h.nodup
    have e1 : (S1 ++ (x :: l) :: S2).flatten = S1.flatten ++ x :: (l ++ S2.flatten) := by simp
    have e2 : (S1 ++ l :: S2).flatten = S1.flatten ++ (l ++ S2.flatten) := by simp
    rw [e1] at hk
    rw [e2]
    exact (List.nodup_cons.1 (List.perm_middle.nodup_iff.1 hk)).1
  have hlt : (S1 ++ l :: S2).flatten.length < 4096 := by
    have := h.max
    simp at this ⊢
    omega
  have HX := Lib.hid hx
  have HNO := Lib.hid hno
  clear h hx hno hrow
  go_enter Try.func21, Try.ntmps21
  go_wp2_with fail
  refine (Calls.mono HS.out ?_)
  rintro e w1 ⟨rfl, O1, ⟨F, L, M, cap, T, h1, hs, rfl⟩, hK, hO⟩
  obtain ⟨T1, T2, ns, rfl, e1, e2, e3⟩ := strip_split hs.symm
  subst e1 e2 e3
  obtain ⟨A, p, hp⟩ := concat_of_cons (endOf L T1.length) (ns.map nd)
  have hc := h1.ring.chain T1.length ns (at_mid _ _ _)
  have c2 := h1.holds.cell _ _ _ (last_link hc hp)
  have c0 := h1.holds.cell _ _ _ h1.ring.lines
  have hkl : T1.length < (T1 ++ ns :: T2).length := by simp
  have hlt' : (T1 ++ ns :: T2).flatten.length < 4096 := by
    rw [hs, strip_flat_length] at hlt
    exact hlt
  have hno' : x ∉ (T1 ++ ns :: T2).flatten.map (·.1) := by
    rw [← strip_flat, strip_mid]
    exact HNO.out
  have HST := Lib.hid (stand_ok (l1 := ns) (l2 := []) (S1 := T1) (S2 := T2) (x := x) (by rw [List.append_nil]; exact h1) HX.out (by rw [List.append_nil]; exact hno') (by rw [List.append_nil]; exact hlt') A p hp)
  have HK := Lib.hid hK
  have HO := Lib.hid hO
  rw [List.append_nil] at HST
  rw [strip_length]
  clear h1 hs hno' hlt' hlt hK hO hp hc HS HNO
  generalize (T1 ++ ns :: T2).length = m at c0 hkl
  unfold ptr at c2
  generalize hj : T1.length = j at c2 hkl HST ⊢
  clear hj
  go_wp2_with (go_at_call 41; refine (Calls.mono HST.out ?_); rintro e w' ⟨rfl, hF, hK, hO⟩; have HF2 := Lib.hid hF; have HK2 := Lib.hid hK; have HO2 := Lib.hid hO; clear hF hK hO)
  go_ret
  obtain ⟨F', hA'⟩ := HF2.out
  refine ⟨rfl, _, ⟨F', L, M, cap, _, hA', ?_, rfl⟩, HK.out.trans' HK2.out HO.out.1, fun g hg => ?_, HO.out.2⟩
  · rw [strip_mid]
    simp
  · rcases HO2.out g hg with q | q
    · exact HO.out.1 g q
    · exact .inr (Nat.le_trans HK.out.size q)

theorem turn_any (h : Is w b S O) (r : Int) : Calls Try.prog 21 #[.pointer (some ⟨b, 0, none⟩), .int .i64 r] w (Now w b O (turnS r S) (.bool (!(rowS r S).isEmpty))) := by
  cases hr : rowS r S with
  | nil =>
    rw [turnS_none hr]
    exact turn_none h r hr
  | cons x l =>
    obtain ⟨k, rfl, S1, S2, rfl, hk⟩ := row_split hr
    subst hk
    rw [turnS_mid]
    exact turn_some S1 S2 x l h
end
end Go.Proofs.Ytnjpdcoahojgbaa.RInt
