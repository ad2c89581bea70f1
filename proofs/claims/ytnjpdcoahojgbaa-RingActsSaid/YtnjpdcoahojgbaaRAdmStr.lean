/- Package ring at items of kind string: whether an item may come; it comes behind all others of a row; the first one. -/
import Derived.Test.YtnjpdcoahojgbaaRStandStr
import Derived.Test.YtnjpdcoahojgbaaRItems
namespace Go.Proofs.Ytnjpdcoahojgbaa.RStr
open Go.ChangeShapes Go.WideShapes Go.ChangeAt Go.RowKit
set_option linter.unusedVariables false

/-- An item may come: it stands nowhere. -/
def Admitted (w : World) (b L M cap : Nat) (x : K) (S : List (List (K × Nat))) (e : Ending) (w' : World) : Prop :=
  e = .returned (.bool true) ∧ ∃ F' S', At w' F' b L M cap S' ∧ strip S' = rmv x (strip S) ∧ x ∉ S'.flatten.map (·.1) ∧ S'.flatten.length < 4096 ∧ S'.length = S.length ∧
    Kept (own b L M S) w w' ∧ ∀ g, g ∈ own b L M S' → g ∈ own b L M S ∨ w.heap.size ≤ g

/-- Nothing that was there has turned. -/
def Refused (w : World) (v : Value) (e : Ending) (w' : World) : Prop := e = .returned v ∧ Below w.heap.size w w'

section
variable {w : World} {F : Gm} {b L M cap : Nat} {S : List (List (K × Nat))}

theorem admit_nil (r : Int) (x : K) : Calls Try.prog 49 #[.pointer none, .int .i64 r, Value.string x] w (Refused w (.bool false)) := by
  have HF := Lib.hid (find_nil w x)
  go_enter Try.func49, Try.ntmps49
  go_wp2_with fail
  refine (Calls.mono HF.out ?_)
  rintro e w1 ⟨rfl, hb⟩
  have HB := Lib.hid hb
  clear hb
  go_wp2
  go_ret
  exact ⟨rfl, HB.out⟩

/-- No such row. -/
theorem admit_norow (a : Addr) (n : Nat) (r : Int) (x : K) (q : Option Addr) (hf : Finds w (some a) x q true) (hw : ∀ w1, Below w.heap.size w w1 → Wide w1 (some a) n) (hr : ¬ (0 ≤ r ∧ r < n)) :
    Calls Try.prog 49 #[.pointer (some a), .int .i64 r, Value.string x] w (Refused w (.bool false)) := by
  have HF := Lib.hid hf
  have HW := Lib.hid hw
  clear hf hw
  go_enter Try.func49, Try.ntmps49
  go_wp2_with fail
  refine (Calls.mono HF.out ?_)
  rintro e w1 ⟨rfl, hb⟩
  have HB := Lib.hid hb
  have HH := Lib.hid (has_no w1 _ n (HW.out w1 hb) r hr)
  clear hb hr
  go_wp2_with (go_at_call 51; refine (Calls.mono HH.out ?_); rintro e w' ⟨rfl, rfl⟩)
  go_ret
  exact ⟨rfl, HB.out⟩

theorem admit_full (h : At w F b L M cap S) (r : Int) (h0 : 0 ≤ r) (h1 : r < S.length) {x : K} (hx : okK x) (hm : x ∉ S.flatten.map (·.1)) (hn : ¬ S.flatten.length < 4096) :
    Calls Try.prog 49 #[.pointer (some ⟨b, 0, none⟩), .int .i64 r, Value.string x] w (Refused w (.bool false)) := by
  have HF := Lib.hid (find_no h hx hm)
  have HA := Lib.hid h
  have hmax := h.max
  clear h hx hm
  go_enter Try.func49, Try.ntmps49
  go_wp2_with fail
  refine (Calls.mono HF.out ?_)
  rintro e w1 ⟨rfl, hb⟩
  have HB := Lib.hid hb
  have h2 := HA.out.below hb
  have HH := Lib.hid (has_yes w1 _ _ (wide_at h2) r h0 h1)
  have c2 := h2.holds.cell b 2 _ h2.ring.items
  clear hb h2
  generalize S.flatten.length = t at *
  generalize S.length = m at *
  have hd : decide (4096 ≤ (t : Int)) = true := by simp; omega
  go_wp2_with (go_at_call 51; refine (Calls.mono HH.out ?_); rintro e w' ⟨rfl, rfl⟩)
  go_ret
  exact ⟨rfl, HB.out⟩

theorem admit_new (h : At w F b L M cap S) (r : Int) (h0 : 0 ≤ r) (h1 : r < S.length) {x : K} (hx : okK x) (hm : x ∉ S.flatten.map (·.1)) (hn : S.flatten.length < 4096) :
    Calls Try.prog 49 #[.pointer (some ⟨b, 0, none⟩), .int .i64 r, Value.string x] w (Admitted w b L M cap x S) := by
  have HF := Lib.hid (find_no h hx hm)
  have HA := Lib.hid h
  have hmax := h.max
  have HM := Lib.hid hm
  have HN := Lib.hid hn
  clear h hx hm
  go_enter Try.func49, Try.ntmps49
  go_wp2_with fail
  refine (Calls.mono HF.out ?_)
  rintro e w1 ⟨rfl, hb⟩
  have HB := Lib.hid hb
  have h2 := HA.out.below hb
  have H2 := Lib.hid h2
  have HH := Lib.hid (has_yes w1 _ _ (wide_at h2) r h0 h1)
  have c2 := h2.holds.cell b 2 _ h2.ring.items
  clear hb h2
  generalize ht : S.flatten.length = t at c2 hn hmax
  have hd : decide (4096 ≤ (t : Int)) = false := by simp; omega
  clear ht
  go_wp2_with (go_at_call 51; refine (Calls.mono HH.out ?_); rintro e w' ⟨rfl, rfl⟩)
  go_ret
  refine ⟨rfl, _, S, H2.out, ?_, HM.out, HN.out, rfl, Kept.of_below HB.out, fun g hg => .inl hg⟩
  rw [rmv_absent]
  rw [strip_flat]
  exact HM.out

theorem admit_old {a : Nat} {x : K} {S1 S2 : List (List (K × Nat))} {l1 l2 : List (K × Nat)} (h : At w F b L M cap (S1 ++ (l1 ++ (x, a) :: l2) :: S2)) (r : Int) (h0 : 0 ≤ r) (h1 : r < (S1 ++ (l1 ++ (x, a) :: l2) :: S2).length) :
    Calls Try.prog 49 #[.pointer (some ⟨b, 0, none⟩), .int .i64 r, Value.string x] w (Admitted w b L M cap x (S1 ++ (l1 ++ (x, a) :: l2) :: S2)) := by
  have HF := Lib.hid (find_yes h (x := x) (a := a) (by simp))
  have HA := Lib.hid h
  clear h
  go_enter Try.func49, Try.ntmps49
  go_wp2_with fail
  refine (Calls.mono HF.out ?_)
  rintro e w1 ⟨rfl, hb⟩
  have HB := Lib.hid hb
  have h2 := HA.out.below hb
  have HL := Lib.hid (leave_ok h2)
  have HH := Lib.hid (has_yes w1 _ _ (wide_at h2) r h0 h1)
  clear hb h2 h0 h1
  go_wp2_with (first | (go_at_call 51; refine (Calls.mono HH.out ?_); rintro e w' ⟨rfl, rfl⟩) | (go_at_call 57; refine (Calls.mono HL.out ?_); rintro e w' ⟨rfl, hF, hK, hO⟩; have HF2 := Lib.hid hF; have HK2 := Lib.hid hK; have HO2 := Lib.hid hO; clear hF hK hO))
  go_ret
  obtain ⟨F', hA'⟩ := HF2.out
  have hk := HA.out.keys
  refine ⟨rfl, F', _, hA', strip_cut hk, ?_, ?_, by simp, ?_, ?_⟩
  · have e1 : (S1 ++ (l1 ++ (x, a) :: l2) :: S2).flatten = (S1.flatten ++ l1) ++ (x, a) :: (l2 ++ S2.flatten) := by simp
    have e2 : (S1 ++ (l1 ++ l2) :: S2).flatten = (S1.flatten ++ l1) ++ (l2 ++ S2.flatten) := by simp
    rw [e1] at hk
    rw [e2]
    have := (List.Perm.map (·.1) (List.perm_middle (l₁ := S1.flatten ++ l1) (a := (x, a)) (l₂ := l2 ++ S2.flatten))).nodup_iff.1 hk
    exact (List.nodup_cons.1 this).1
  · have := HA.out.max
    simp at this ⊢
    omega
  · exact (Kept.of_below HB.out).trans HK2.out
  · intro g hg
    rcases HO2.out g hg with q | q
    · exact .inl q
    · exact .inr (Nat.le_trans HB.out.size q)

theorem admit_yes (h : At w F b L M cap S) (r : Int) {x : K} (hx : okK x) (hf : fits r x (strip S)) :
    Calls Try.prog 49 #[.pointer (some ⟨b, 0, none⟩), .int .i64 r, Value.string x] w (Admitted w b L M cap x S) := by
  obtain ⟨h0, h1, h2⟩ := hf
  rw [strip_length] at h1
  rw [strip_flat] at h2
  by_cases hm : x ∈ S.flatten.map (·.1)
  · obtain ⟨S1, S2, l1, l2, a, rfl⟩ := h.find hm
    exact admit_old h r h0 h1
  · refine admit_new h r h0 h1 hx hm ?_
    rcases h2 with h2 | h2
    · exact absurd h2 hm
    · rwa [List.length_map] at h2

theorem admit_no (h : At w F b L M cap S) (r : Int) {x : K} (hx : okK x) (hf : ¬ fits r x (strip S)) :
    Calls Try.prog 49 #[.pointer (some ⟨b, 0, none⟩), .int .i64 r, Value.string x] w (Refused w (.bool false)) := by
  unfold fits at hf
  rw [strip_length, strip_flat, List.length_map] at hf
  by_cases hr : 0 ≤ r ∧ r < S.length
  · have hm : x ∉ S.flatten.map (·.1) := fun e => hf ⟨hr.1, hr.2, .inl e⟩
    exact admit_full h r hr.1 hr.2 hx hm fun e => hf ⟨hr.1, hr.2, .inr e⟩
  · by_cases hm : x ∈ S.flatten.map (·.1)
    · obtain ⟨S1, S2, l1, l2, a, rfl⟩ := h.find hm
      exact admit_norow _ _ r x _ (find_yes h (x := x) (a := a) (by simp)) (fun w1 hb => wide_at (h.below hb)) hr
    · exact admit_norow _ _ r x _ (find_no h hx hm) (fun w1 hb => wide_at (h.below hb)) hr

theorem bare_below {p : Option Addr} (h : Bare w p) {w1 : World} (hb : Below w.heap.size w w1) : Bare w1 p := by
  intro a ha
  obtain ⟨y, rfl, h0, h1⟩ := h a ha
  have hy : y < w.heap.size := World.block_lt_of_cell? w _ h0
  exact ⟨y, rfl, (hb.cell (p := ⟨y, 0, none⟩) hy).trans h0, (hb.cell (p := ⟨y, 1, none⟩) hy).trans h1⟩

theorem admit_bare (p : Option Addr) (h : Bare w p) (r : Int) {x : K} (hx : okK x) :
    Calls Try.prog 49 #[.pointer p, .int .i64 r, Value.string x] w (Refused w (.bool false)) := by
  cases p with
  | none => exact admit_nil r x
  | some a => exact admit_norow a 0 r x none (find_bare w a h x hx) (fun w1 hb => wide_bare w1 _ (bare_below h hb)) (by omega)
end
end Go.Proofs.Ytnjpdcoahojgbaa.RStr
