/- Package ring at items of kind string, by the items alone: Push, First and Len (and at numbers Front, Shift, Remove, Where and Turn). -/
import Derived.Test.YtnjpdcoahojgbaaRAdmStr
namespace Go.Proofs.Ytnjpdcoahojgbaa.RStr
open Go.ChangeShapes Go.WideShapes Go.ChangeAt Go.RowKit
set_option linter.unusedVariables false

/-- Block b is rows of the items S; O: the blocks that are theirs. -/
def Is (w : World) (b : Nat) (S : List (List K)) (O : List Nat) : Prop := ∃ F L M cap T, At w F b L M cap T ∧ S = strip T ∧ O = own b L M T

/-- The rows have become S'; nothing that is not theirs has turned. -/
def Now (w : World) (b : Nat) (O : List Nat) (S' : List (List K)) (v : Value) (e : Ending) (w' : World) : Prop :=
  e = .returned v ∧ ∃ O', Is w' b S' O' ∧ Kept O w w' ∧ (∀ g, g ∈ O' → g ∈ O ∨ w.heap.size ≤ g) ∧ O'[2]? = O[2]?

theorem Is.below {w w' : World} {b : Nat} {S : List (List K)} {O : List Nat} (h : Is w b S O) (hb : Below w.heap.size w w') : Is w' b S O := by
  obtain ⟨F, L, M, cap, T, hA, rfl, rfl⟩ := h
  exact ⟨_, L, M, cap, T, hA.below hb, rfl, rfl⟩

theorem Is.past {w w' : World} {b : Nat} {S : List (List K)} {O O' : List Nat} (h : Is w b S O) (hk : Kept O' w w') (hO : ∀ g, g ∈ O → g ∉ O') : Is w' b S O := by
  obtain ⟨F, L, M, cap, T, hA, rfl, rfl⟩ := h
  exact ⟨_, L, M, cap, T, hA.past hk hO, rfl, rfl⟩

theorem Is.lt {w : World} {b : Nat} {S : List (List K)} {O : List Nat} (h : Is w b S O) {g : Nat} (hg : g ∈ O) : g < w.heap.size := by
  obtain ⟨F, L, M, cap, T, hA, rfl, rfl⟩ := h
  exact hA.lt hg

theorem Is.mem {w : World} {b : Nat} {S : List (List K)} {O : List Nat} (h : Is w b S O) : b ∈ O := by
  obtain ⟨F, L, M, cap, T, hA, rfl, rfl⟩ := h
  simp [own]

theorem Is.nodup {w : World} {b : Nat} {S : List (List K)} {O : List Nat} (h : Is w b S O) : S.flatten.Nodup := by
  obtain ⟨F, L, M, cap, T, hA, rfl, rfl⟩ := h
  rw [strip_flat]
  exact hA.keys

theorem Is.max {w : World} {b : Nat} {S : List (List K)} {O : List Nat} (h : Is w b S O) : S.flatten.length ≤ 4096 := by
  obtain ⟨F, L, M, cap, T, hA, rfl, rfl⟩ := h
  rw [strip_flat_length]
  exact hA.max

theorem Is.rows {w : World} {b : Nat} {S : List (List K)} {O : List Nat} (h : Is w b S O) : 1 ≤ S.length ∧ S.length ≤ 64 := by
  obtain ⟨F, L, M, cap, T, hA, rfl, rfl⟩ := h
  rw [strip_length]
  exact hA.rows

theorem Is.ok {w : World} {b : Nat} {S : List (List K)} {O : List Nat} (h : Is w b S O) {x : K} (hx : x ∈ S.flatten) : okK x := by
  obtain ⟨F, L, M, cap, T, hA, rfl, rfl⟩ := h
  rw [strip_flat] at hx
  obtain ⟨n, hn, rfl⟩ := List.mem_map.1 hx
  exact hA.ok n hn

/-- Refused: nothing has turned, the rows are as they were. -/
theorem Is.refused {w : World} {b : Nat} {S : List (List K)} {O : List Nat} (h : Is w b S O) {v : Value} {e : Ending} {w' : World} (hr : Refused w v e w') : Now w b O S v e w' :=
  ⟨hr.1, O, h.below hr.2, Kept.of_below hr.2, fun g hg => .inl hg, rfl⟩

theorem last_link {F : Gm} {L r : Nat} {ns : List (K × Nat)} {A : List Pl} {p : Pl} (hc : Ch (Lk F) (ringOf L r ns)) (hA : endOf L r :: ns.map nd = A ++ [p]) : F L (r * 5 + 2) = some (ptr p) := by
  unfold ringOf at hc
  have e : endOf L r :: (ns.map nd ++ [endOf L r]) = A ++ p :: endOf L r :: [] := by
    rw [← List.cons_append, hA, List.append_assoc]
    rfl
  rw [e] at hc
  exact (Ch.split.1 hc).2.1.2

theorem first_link {F : Gm} {L r : Nat} {n : K × Nat} {ns : List (K × Nat)} (hc : Ch (Lk F) (ringOf L r (n :: ns))) : F L (r * 5 + 3) = some (ptr (nd n)) := by
  unfold ringOf at hc
  exact hc.1.1

section
variable {w : World} {b : Nat} {S : List (List K)} {O : List Nat}

theorem push_yes (h : Is w b S O) (r : Int) {x : K} (hx : okK x) (hf : fits r x S) :
    Calls Try.prog 36 #[.pointer (some ⟨b, 0, none⟩), .int .i64 r, Value.string x] w (Now w b O ((rmv x S).modify r.toNat (· ++ [x])) (.bool true)) := by
  obtain ⟨F, L, M, cap, T, hA, rfl, rfl⟩ := h
  have HA := Lib.hid (admit_yes hA r hx hf)
  obtain ⟨k, rfl⟩ := Int.eq_ofNat_of_zero_le hf.1
  have hk : k < T.length := by have := hf.2.1; rw [strip_length] at this; omega
  rw [Int.toNat_natCast]
  clear hf hA
  go_enter Try.func36, Try.ntmps36
  go_wp2_with fail
  refine (Calls.mono HA.out ?_)
  rintro e w1 ⟨rfl, F1, T1, h1, hs, hno, hlt, hlen, hK, hO⟩
  obtain ⟨S1, S2, hT1, hS1⟩ := at_split (S := T1) (r := k) (List.getElem?_eq_getElem (by omega))
  generalize T1[k] = ns at hT1
  subst hT1
  obtain ⟨A, p, hp⟩ := concat_of_cons (endOf L k) (ns.map nd)
  rw [← hS1] at hp
  have hc := h1.ring.chain S1.length ns (at_mid _ _ _)
  have c2 := h1.holds.cell _ _ _ (last_link hc hp)
  have c0 := h1.holds.cell _ _ _ h1.ring.lines
  rw [hS1] at c2
  have hkl : k < (S1 ++ ns :: S2).length := by omega
  have HS := Lib.hid (stand_ok (l1 := ns) (l2 := []) (S1 := S1) (S2 := S2) (x := x) (by rw [List.append_nil]; exact h1) hx (by rw [List.append_nil]; exact hno) (by rw [List.append_nil]; exact hlt) A p hp)
  have HK := Lib.hid hK
  have HO := Lib.hid hO
  have HE := Lib.hid hs
  have HL := Lib.hid hS1
  rw [List.append_nil, hS1] at HS
  clear h1 hs hno hlt hlen hK hO hp hc hS1
  generalize (S1 ++ ns :: S2).length = m at c0 hkl
  unfold ptr at c2
  go_wp2_with (go_at_call 50; refine (Calls.mono HS.out ?_); rintro e w' ⟨rfl, hF, hK, hO⟩; have HF2 := Lib.hid hF; have HK2 := Lib.hid hK; have HO2 := Lib.hid hO; clear hF hK hO)
  go_ret
  obtain ⟨F', hA'⟩ := HF2.out
  refine ⟨rfl, _, ⟨F', L, M, cap, _, hA', ?_, rfl⟩, HK.out.trans' HK2.out HO.out, fun g hg => ?_, rfl⟩
  · rw [← HE.out, ← HL.out, strip_mid, strip_mid]
    have : S1.length = (strip S1).length := (strip_length S1).symm
    rw [this, modify_mid]
    simp
  · rcases HO2.out g hg with q | q
    · exact HO.out g q
    · exact .inr (Nat.le_trans HK.out.size q)

theorem push_no (h : Is w b S O) (r : Int) {x : K} (hx : okK x) (hf : ¬ fits r x S) :
    Calls Try.prog 36 #[.pointer (some ⟨b, 0, none⟩), .int .i64 r, Value.string x] w (Now w b O S (.bool false)) := by
  refine Calls.mono (R := Refused w (.bool false)) ?_ fun e w' hr => h.refused hr
  obtain ⟨F, L, M, cap, T, hA, rfl, rfl⟩ := h
  have HA := Lib.hid (admit_no hA r hx hf)
  clear hf hA
  go_enter Try.func36, Try.ntmps36
  go_wp2_with (go_at_call 49; refine (Calls.mono HA.out ?_); rintro e w' ⟨rfl, hb⟩; have HB := Lib.hid hb; clear hb)
  go_ret
  exact ⟨rfl, HB.out⟩

theorem push_any (h : Is w b S O) (r : Int) {x : K} (hx : okK x) :
    Calls Try.prog 36 #[.pointer (some ⟨b, 0, none⟩), .int .i64 r, Value.string x] w (Now w b O (pushS r x S) (.bool (decide (fits r x S)))) := by
  unfold pushS
  by_cases hf : fits r x S
  · rw [if_pos hf, decide_eq_true hf]
    exact push_yes h r hx hf
  · rw [if_neg hf, decide_eq_false hf]
    exact push_no h r hx hf

theorem len_any (h : Is w b S O) (r : Int) : Calls Try.prog 38 #[.pointer (some ⟨b, 0, none⟩), .int .i64 r] w fun e w' => e = .returned (.int .i64 (rowS r S).length) ∧ w = w' := by
  obtain ⟨F, L, M, cap, T, hA, rfl, rfl⟩ := h
  unfold rowS
  by_cases hr : 0 ≤ r ∧ r < T.length
  · obtain ⟨k, rfl⟩ := Int.eq_ofNat_of_zero_le hr.1
    obtain ⟨ns, hns⟩ : ∃ ns, T[k]? = some ns := ⟨_, List.getElem?_eq_getElem (by omega)⟩
    rw [if_pos hr.1, Int.toNat_natCast, strip_get, hns]
    simp only [Option.map_some, Option.getD_some, List.length_map]
    exact len_ok hA k ns hns
  · have := len_no w _ _ (wide_at hA) r hr
    by_cases h0 : 0 ≤ r
    · rw [if_pos h0, strip_get, List.getElem?_eq_none (by omega)]
      exact this
    · rw [if_neg h0]
      exact this

theorem rows_any (h : Is w b S O) : Calls Try.prog 39 #[.pointer (some ⟨b, 0, none⟩)] w fun e w' => e = .returned (.int .i64 S.length) ∧ w = w' := by
  obtain ⟨F, L, M, cap, T, hA, rfl, rfl⟩ := h
  rw [strip_length]
  exact wide_at hA

/-- First, where there is none. -/
theorem first_none (p : Option Addr) (r : Int) (h : Calls Try.prog 38 #[.pointer p, .int .i64 r] w fun e w' => e = .returned (.int .i64 0) ∧ w = w') :
    Calls Try.prog 37 #[.pointer p, .int .i64 r] w fun e w' => e = .returned (.tuple #[Value.string ByteArray.empty, .bool false]) ∧ w = w' := by
  have H := Lib.hid h
  clear h
  go_enter Try.func37, Try.ntmps37
  go_wp2_with (go_at_call 38; refine (Calls.mono H.out ?_); rintro e w' ⟨rfl, rfl⟩)
  go_ret2
  exact ⟨rfl, rfl⟩

theorem first_some {F : Gm} {L M cap k : Nat} {T : List (List (K × Nat))} (hA : At w F b L M cap T) {n : K × Nat} {ns : List (K × Nat)} (hk : T[k]? = some (n :: ns)) :
    Calls Try.prog 37 #[.pointer (some ⟨b, 0, none⟩), .int .i64 k] w fun e w' => e = .returned (.tuple #[Value.string n.1, .bool true]) ∧ w = w' := by
  have HL := Lib.hid (len_ok hA k _ hk)
  have c0 := hA.holds.cell _ _ _ hA.ring.lines
  have c3 := hA.holds.cell _ _ _ (first_link (hA.ring.chain k _ hk))
  have ci := hA.holds.cell _ _ _ (hA.ring.item k _ n hk (by simp)).1
  have hlt : k < T.length := (List.getElem?_eq_some_iff.1 hk).1
  unfold ptr nd at c3
  unfold kv at ci
  simp only at c3
  clear hA hk
  generalize T.length = m at *
  obtain ⟨x, a⟩ := n
  simp only at c3 ci ⊢
  rw [List.length_cons] at HL
  generalize ns.length = q at *
  have hd : ((((q + 1 : Nat)) : Int) == 0) = false := by simp; omega
  go_enter Try.func37, Try.ntmps37
  go_wp2_with (go_at_call 38; refine (Calls.mono HL.out ?_); rintro e w' ⟨rfl, rfl⟩)
  go_ret2
  exact ⟨rfl, rfl⟩

/-- What First tells of a row. -/
def firstV : List K → Value
  | [] => .tuple #[Value.string ByteArray.empty, .bool false]
  | x :: _ => .tuple #[Value.string x, .bool true]

theorem first_any (h : Is w b S O) (r : Int) : Calls Try.prog 37 #[.pointer (some ⟨b, 0, none⟩), .int .i64 r] w fun e w' => e = .returned (firstV (rowS r S)) ∧ w = w' := by
  have hl := len_any h r
  cases hr : rowS r S with
  | nil =>
    rw [hr] at hl
    exact first_none _ r hl
  | cons x l =>
    obtain ⟨F, L, M, cap, T, hA, rfl, rfl⟩ := h
    unfold rowS at hr
    by_cases h0 : 0 ≤ r
    · obtain ⟨k, rfl⟩ := Int.eq_ofNat_of_zero_le h0
      rw [if_pos h0, Int.toNat_natCast, strip_get] at hr
      cases hT : T[k]? with
      | none => rw [hT] at hr; simp at hr
      | some ns =>
        rw [hT] at hr
        simp only [Option.map_some, Option.getD_some] at hr
        cases ns with
        | nil => simp at hr
        | cons n ns =>
          simp only [List.map_cons, List.cons.injEq] at hr
          rw [← hr.1]
          exact first_some hA hT
    · rw [if_neg h0] at hr
      cases hr
end
end Go.Proofs.Ytnjpdcoahojgbaa.RStr
