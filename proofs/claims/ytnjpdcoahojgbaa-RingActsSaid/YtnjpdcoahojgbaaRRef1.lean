/- The document's own rows: a table of slices; what only reads them: Is, Where, total, may, All, First. -/
import Derived.Test.YtnjpdcoahojgbaaRActs
namespace Go.Proofs.Ytnjpdcoahojgbaa.RInt
open Go.ChangeShapes Go.WideShapes Go.ChangeAt Go.RowKit Go.Deep
set_option linter.unusedVariables false

/-- Block r is the document's rows: their table lies in block T, row i's slice is the i-th of vs. -/
structure RefIs (w : World) (base r T : Nat) (S : List (List Int)) (vs : List Value) : Prop where
  box : w.heap[r]? = some (.cells #[.slice (some ⟨T, 0, none⟩) S.length S.length] 64 (0, 0))
  tab : w.heap[T]? = some (.cells vs.toArray 34 (0, 0))
  len : vs.length = S.length
  row : ∀ (i : Nat) (l : List Int), S[i]? = some l → ∃ v, vs[i]? = some v ∧ Nums w base v l
  rge : base ≤ r
  tge : base ≤ T
  max : S.flatten.length ≤ 4096
  le : S.length ≤ 64

/-- The blocks of the rows. -/
def blocks (vs : List Value) : List Nat := vs.flatMap fun v => v.ownBlock.toList

section
variable {w w' : World} {base r T : Nat} {S : List (List Int)} {vs : List Value}

theorem mem_blocks {g : Nat} : g ∈ blocks vs ↔ ∃ v, v ∈ vs ∧ v.ownBlock = some g := by
  unfold blocks
  simp [List.mem_flatMap]

theorem RefIs.rlt (h : RefIs w base r T S vs) : r < w.heap.size := (Array.getElem?_eq_some_iff.1 h.box).1
theorem RefIs.tlt (h : RefIs w base r T S vs) : T < w.heap.size := (Array.getElem?_eq_some_iff.1 h.tab).1
theorem RefIs.ne (h : RefIs w base r T S vs) : r ≠ T := by
  intro e
  have h1 := h.box
  rw [e, h.tab] at h1
  simp only [Option.some.injEq, Obj.cells.injEq] at h1
  exact absurd h1.2.1 (by decide)

theorem RefIs.cell (h : RefIs w base r T S vs) : w.cell? ⟨r, 0, none⟩ = some (.slice (some ⟨T, 0, none⟩) S.length S.length) := by
  rw [cell_of_row _ _ _ _ _ _ h.box]
  rfl

theorem RefIs.at (h : RefIs w base r T S vs) {i : Nat} {l : List Int} (hi : S[i]? = some l) : ∃ a c, w.cell? ⟨T, i, none⟩ = some (.slice a l.length c) ∧ Nums w base (.slice a l.length c) l := by
  obtain ⟨v, hv, hn⟩ := h.row i l hi
  obtain ⟨a, c, rfl⟩ := hn.form
  exact ⟨a, c, by rw [cell_of_row _ _ _ _ _ _ h.tab]; simpa using hv, hn⟩

theorem RefIs.max1 (h : RefIs w base r T S vs) {i : Nat} {l : List Int} (hi : S[i]? = some l) : l.length ≤ 4096 := by
  have h1 := count_step hi
  have h2 := count_le (S := S) (i + 1)
  have := h.max
  omega

theorem RefIs.blt (h : RefIs w base r T S vs) {g : Nat} (hg : g ∈ blocks vs) : base ≤ g ∧ g < w.heap.size := by
  obtain ⟨v, hv, hb⟩ := mem_blocks.1 hg
  obtain ⟨i, hi⟩ := List.getElem?_of_mem hv
  have hil : i < S.length := by rw [← h.len]; exact (List.getElem?_eq_some_iff.1 hi).1
  obtain ⟨v', hv', hn⟩ := h.row i _ (List.getElem?_eq_getElem hil)
  rw [hi] at hv'
  cases hv'
  exact hn.lt hb

/-- Nothing of them has turned. -/
theorem RefIs.same (h : RefIs w base r T S vs) (hr : w'.heap[r]? = w.heap[r]?) (hT : w'.heap[T]? = w.heap[T]?) (hb : ∀ g, g ∈ blocks vs → w'.heap[g]? = w.heap[g]?) : RefIs w' base r T S vs :=
  ⟨hr.trans h.box, hT.trans h.tab, h.len, fun i l hi => by
    obtain ⟨v, hv, hn⟩ := h.row i l hi
    exact ⟨v, hv, hn.kept fun g hg => hb g (mem_blocks.2 ⟨v, List.mem_of_getElem? hv, hg⟩)⟩, h.rge, h.tge, h.max, h.le⟩

theorem RefIs.past (h : RefIs w base r T S vs) (b : Below w.heap.size w w') : RefIs w' base r T S vs :=
  h.same (b.block r h.rlt) (b.block T h.tlt) fun g hg => b.block g (h.blt hg).2

theorem RefIs.stay (h : RefIs w base r T S vs) {R : List Nat} (k : Stay R w w') (hR : ∀ g, g ∈ r :: T :: blocks vs → g ∈ R) : RefIs w' base r T S vs :=
  h.same (k r (hR r (by simp))) (k T (hR T (by simp))) fun g hg => k g (hR g (by simp [hg]))

theorem RefIs.lower {base' : Nat} (h : RefIs w base r T S vs) (hb : base' ≤ base) : RefIs w base' r T S vs :=
  ⟨h.box, h.tab, h.len, fun i l hi => by
    obtain ⟨v, hv, hn⟩ := h.row i l hi
    exact ⟨v, hv, hn.lower hb⟩, Nat.le_trans hb h.rge, Nat.le_trans hb h.tge, h.max, h.le⟩

theorem ref_is (h : RefIs w base r T S vs) (row : Int) :
    Calls Try.prog 45 #[.pointer (some ⟨r, 0, none⟩), .int .i64 row] w fun e w' => e = .returned (.bool (decide (0 ≤ row ∧ row < S.length))) ∧ w = w' := by
  have hc := h.cell
  clear h
  by_cases h0 : 0 ≤ row
  · have d0 : decide (row ≥ 0) = true := by simpa using h0
    go_enter Try.func45, Try.ntmps45
    go_wp2
    go_ret
    exact ⟨by simp [h0], rfl⟩
  · have d0 : decide (row ≥ 0) = false := by simp; omega
    go_enter Try.func45, Try.ntmps45
    go_wp2
    go_ret
    exact ⟨by simp [h0], rfl⟩

theorem findIdx_none {S : List (List Int)} {x : Int} (h : x ∉ S.flatten) : whereV x S = .tuple #[.int .i64 0, .bool false] := by
  have h2 : S.findIdx? (fun l => decide (x ∈ l)) = none := by
    rw [List.findIdx?_eq_none_iff]
    intro l hl
    simp only [decide_eq_false_iff_not]
    exact fun hm => h (List.mem_flatten.2 ⟨l, hl, hm⟩)
  unfold whereV
  rw [h2]

theorem findIdx_first {S : List (List Int)} {x : Int} {i : Nat} {l : List Int} (hi : S[i]? = some l) (hx : x ∈ l) (hp : ∀ m, m ∈ S.take i → x ∉ m) : whereV x S = .tuple #[.int .i64 i, .bool true] := by
  obtain ⟨S1, S2, e, h1⟩ := at_split hi
  subst e h1
  have h2 : (S1 ++ l :: S2).findIdx? (fun l => decide (x ∈ l)) = some S1.length := by
    have e1 : S1.findIdx? (fun l => decide (x ∈ l)) = none := by
      rw [List.findIdx?_eq_none_iff]
      intro m hm
      simp only [decide_eq_false_iff_not]
      exact hp m (by simpa using hm)
    rw [List.findIdx?_append, e1]
    simp [List.findIdx?_cons, hx]
  unfold whereV
  rw [h2]

theorem ref_where (h : RefIs w base r T S vs) (x : Int) :
    Calls Try.prog 24 #[.pointer (some ⟨r, 0, none⟩), .int .i64 x] w fun e w' => e = .returned (whereV x S) ∧ w = w' := by
  have hc := h.cell
  have HR := Lib.hid h
  have hle := h.le
  clear h
  go_enter Try.func24, Try.ntmps24
  go_wp2
  go_loop [15] (fun i => ∃ q : Nat, q ≤ S.length ∧ i = .int .i64 q ∧ Hid (∀ m, m ∈ S.take q → x ∉ m)) (fun i => S.length - (intOf i).toNat)
  case atStart => exact ⟨0, by omega, rfl, by intro m hm; simp at hm⟩
  case round =>
    obtain ⟨q, hq, rfl, HP⟩ := hrel
    by_cases hlt : q < S.length
    · obtain ⟨l, hl⟩ : ∃ l, S[q]? = some l := ⟨_, List.getElem?_eq_getElem hlt⟩
      obtain ⟨a, c, hat, hn⟩ := HR.out.at hl
      have hmax := HR.out.max1 hl
      have HN := Lib.hid hn.ints
      have HL := Lib.hid hl
      clear hn hl
      go_wp2
      go_loop [22] (fun i => ∃ t : Nat, t ≤ l.length ∧ i = .int .i64 t ∧ Hid (x ∉ l.take t)) (fun i => l.length - (intOf i).toNat)
      case atStart => exact ⟨0, by omega, rfl, by show x ∉ l.take 0; simp⟩
      case round =>
        obtain ⟨t, ht, rfl, HX⟩ := hrel
        by_cases htl : t < l.length
        · obtain ⟨y, hy⟩ : ∃ y, l[t]? = some y := ⟨_, List.getElem?_eq_getElem htl⟩
          obtain ⟨g8, o8, rfl, hc8⟩ : ∃ g8 o8, a = some ⟨g8, o8, none⟩ ∧ w.cell? ⟨g8, o8 + t, none⟩ = some (.int .i64 y) := by
            rcases HN.out.cells with h0 | ⟨g8, o8, hs, hc⟩
            · omega
            · exact ⟨g8, o8, hs, hc t y hy⟩
          have HY := Lib.hid hy
          clear hy
          by_cases hyx : y = x
          · have e0 : (y == x) = true := by simp [hyx]
            have HV := Lib.hid (findIdx_first HL.out (x := x) (by rw [← hyx]; exact List.mem_of_getElem? HY.out) HP.out)
            clear hyx
            go_wp2
            go_ret2
            exact ⟨by rw [HV.out]; rfl, rfl⟩
          · have e0 : (y == x) = false := by simp [hyx]
            have HX2 := Lib.hid (show x ∉ l.take (t + 1) by
              rw [List.take_add_one, HY.out]
              simp only [Option.toList_some, List.mem_append, List.mem_singleton, not_or]
              exact ⟨HX.out, fun e => hyx e.symm⟩)
            clear hyx
            go_wp2
            go_round
            case rel => exact ⟨t + 1, by omega, by go_num, HX2⟩
            case measure => simp [intOf]; omega
        · obtain rfl : t = l.length := by omega
          rw [List.take_length] at HX
          have HP2 := Lib.hid (show ∀ m, m ∈ S.take (q + 1) → x ∉ m by
            intro m hm
            rw [List.take_add_one, HL.out] at hm
            simp only [Option.toList_some, List.mem_append, List.mem_singleton] at hm
            rcases hm with hm | rfl
            · exact HP.out m hm
            · exact HX.out)
          clear ht htl
          go_wp2
          go_round
          case rel => exact ⟨q + 1, by omega, by go_num, HP2⟩
          case measure => simp [intOf]; omega
    · obtain rfl : q = S.length := by omega
      rw [List.take_length] at HP
      have HV := Lib.hid (findIdx_none (S := S) (x := x) (fun hm => by
        obtain ⟨m, hm1, hm2⟩ := List.mem_flatten.1 hm
        exact HP.out m hm1 hm2))
      clear hq hlt
      go_wp2
      go_ret2
      exact ⟨by rw [HV.out]; rfl, rfl⟩

theorem ref_total (h : RefIs w base r T S vs) :
    Calls Try.prog 52 #[.pointer (some ⟨r, 0, none⟩)] w fun e w' => e = .returned (.int .i64 S.flatten.length) ∧ w = w' := by
  have hc := h.cell
  have HR := Lib.hid h
  have hle := h.le
  have hmx := h.max
  clear h
  go_enter Try.func52, Try.ntmps52
  go_wp2
  go_loop [11, 3] (fun i n => ∃ q k : Nat, q ≤ S.length ∧ i = .int .i64 q ∧ n = .int .i64 k ∧ Hid (k = (S.take q).flatten.length) ∧ k ≤ 4096) (fun i _ => S.length - (intOf i).toNat)
  case atStart => exact ⟨0, 0, by omega, rfl, rfl, rfl, by omega⟩
  case round =>
    obtain ⟨q, k, hq, rfl, rfl, HK, hk⟩ := hrel
    by_cases hlt : q < S.length
    · obtain ⟨l, hl⟩ : ∃ l, S[q]? = some l := ⟨_, List.getElem?_eq_getElem hlt⟩
      obtain ⟨a, c, hat, hn⟩ := HR.out.at hl
      have hst := count_step hl
      have hcl := count_le (S := S) (q + 1)
      have hkl : k + l.length ≤ 4096 := by have := HK.out; omega
      have HK2 := Lib.hid (show k + l.length = (S.take (q + 1)).flatten.length by rw [hst, HK.out])
      clear hn hl hst hcl
      go_wp2
      go_round
      case rel => exact ⟨q + 1, k + l.length, by omega, by go_num, by go_num, HK2, hkl⟩
      case measure => simp [intOf]; omega
    · obtain rfl : q = S.length := by omega
      rw [List.take_length] at HK
      obtain rfl := HK.out
      clear hq hlt
      go_wp2
      go_ret
      exact ⟨rfl, rfl⟩
end
end Go.Proofs.Ytnjpdcoahojgbaa.RInt
