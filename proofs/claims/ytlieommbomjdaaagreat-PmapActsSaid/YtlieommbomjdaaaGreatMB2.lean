/- The document's layer 7: the table below an entry. Layer 7: the document's memory, pool and space together; what each call of layers 1 and 6 leaves of them. The document's layer 7: next, grow. The document's layer 7: shrink, tidy. The document's layer 7: New, Enter. The document's layer 7: Find, set. A and D of any number's bits. No program in it. The document's layer 7: set, Remove, Protect, Clear. The document's layer 7: Protect, Clear; Enter whatever it is given. (by genmref7.py) The document's layer 7: Close. -/
import Derived.Test.YtlieommbomjdaaaGreatMB1
import Derived.Test.YtlieommbomjdaaaGreatWB1
import Derived.Test.YtlieommbomjdaaaGreatFB1
namespace Go.Proofs.YtlieommbomjdaaaGreat
open Go.ChangeShapes Go.WideShapes Go.ChangeAt Go.RowKit Go.Deep
set_option linter.unusedVariables false

/-- The document's space, as a block. -/
def MapB (w : World) (x rb pb : Nat) (a r N : Int) : Prop := w.heap[x]? = some (.cells #[.pointer (some ⟨rb, 0, none⟩), .pointer (some ⟨pb, 0, none⟩), .int .i64 a, .int .i64 r, .int .i64 N] 57 (0, 0))
section
variable {w0 w w' : World} {x rb pb fb n : Nat} {R : List Nat} {L : List UInt8} {a r N : Int}
theorem MapB.at (h : MapB w x rb pb a r N) : w.cell? ⟨x, 0, none⟩ = some (.pointer (some ⟨rb, 0, none⟩)) ∧ w.cell? ⟨x, 1, none⟩ = some (.pointer (some ⟨pb, 0, none⟩)) ∧ w.cell? ⟨x, 2, none⟩ = some (.int .i64 a) ∧ w.cell? ⟨x, 3, none⟩ = some (.int .i64 r) ∧ w.cell? ⟨x, 4, none⟩ = some (.int .i64 N) :=
  ⟨by rw [cell_of_row _ _ _ _ _ _ h]; rfl, by rw [cell_of_row _ _ _ _ _ _ h]; rfl, by rw [cell_of_row _ _ _ _ _ _ h]; rfl, by rw [cell_of_row _ _ _ _ _ _ h]; rfl, by rw [cell_of_row _ _ _ _ _ _ h]; rfl⟩
theorem MapB.lt (h : MapB w x rb pb a r N) : x < w.heap.size := (Array.getElem?_eq_some_iff.1 h).1
theorem MapB.grow (h : MapB w x rb pb a r N) (g : w.grownBy w' none) : MapB w' x rb pb a r N := (g.block _ h.lt (by simp)).trans h

/-- What a look at an entry stands on. -/
structure At7 (w0 w W : World) (x rb pb fb n y : Nat) (R : List Nat) (L : List UInt8) (a r N A B : Int) : Prop where
  s : RS w0 W rb fb n R L
  m : MapB W x rb pb a r N
  e : EntAt W y A B
  g : w.grownBy W none
theorem EntAt.grow' {w w' : World} {y : Nat} {A B : Int} (h : EntAt w y A B) (g : w.grownBy w' none) : EntAt w' y A B := by
  have k : ∀ (o : Nat) (v : Value), w.cell? ⟨y, o, none⟩ = some v → w'.cell? ⟨y, o, none⟩ = some v := fun o v hv => (g.cell hv (by simp))
  exact ⟨k 0 _ h.flags, k 1 _ h.ppn⟩
theorem At7.grow {w0 w W W' : World} {x rb pb fb n y : Nat} {R : List Nat} {L : List UInt8} {a r N A B : Int} (h : At7 w0 w W x rb pb fb n y R L a r N A B) (g : W.grownBy W' none) : At7 w0 w W' x rb pb fb n y R L a r N A B :=
  ⟨h.s.grow g, h.m.grow g, h.e.grow' g, grown_trans h.g g⟩
theorem At7.cells {w0 w W : World} {x rb pb fb n y : Nat} {R : List Nat} {L : List UInt8} {a r N A B : Int} (h : At7 w0 w W x rb pb fb n y R L a r N A B) :
    (W.cell? ⟨y, 0, none⟩ = some (.int .i64 A) ∧ W.cell? ⟨y, 1, none⟩ = some (.int .i64 B)) ∧ W.cell? ⟨x, 0, none⟩ = some (.pointer (some ⟨rb, 0, none⟩)) := ⟨⟨h.e.flags, h.e.ppn⟩, h.m.at.1⟩

set_option maxHeartbeats 1000000 in
/-- The arm in which the entry is a table's; the other one (the guard is false) is open. -/
theorem ref_next_one (h : RS w0 w rb fb n R L) (hx : MapB w x rb pb a r N) (fr i : Int) (hkind : kindOf (flagOf (wordI n L fr i)) = 1) :
    Calls Tryz.prog 40 #[.pointer (some ⟨x, 0, none⟩), .int .i64 fr, .int .i64 i] w fun e w' => e = .returned (.int .i64 ((nxW n (wordI n L) fr i).getD (-1))) ∧ w.grownBy w' none := by
  have HS := Lib.hid h
  have HM := Lib.hid hx
  have c0 := hx.at.1
  have hw := wordI_ok n L fr i
  have hnx : nxW n (wordI n L) fr i = if kindOf (flagOf (wordI n L fr i)) = 1 ∧ 0 ≤ ppnOf (wordI n L fr i) ∧ ppnOf (wordI n L fr i) < n then some (ppnOf (wordI n L fr i)) else none := rfl
  obtain ⟨X, hX⟩ : ∃ X, wordI n L fr i = X := ⟨_, rfl⟩
  rw [hX] at hw hnx hkind
  have HX := Lib.hid hX
  have HDc := Lib.hid (ref_decode_ok X hw)
  have HK0 := ref_kind_ok (flagOf X) (ppnOf X)
  have HN := Lib.hid hnx
  clear h hx hw hnx hX
  generalize hA : flagOf X = A at *
  generalize hB : ppnOf X = B at *
  generalize hK : kindOf A = K at *
  clear hA hB hK
  have HK := Lib.hid HK0
  clear HK0
  have key : ∀ b : Bool, decide (K = 1 ∧ 0 ≤ B ∧ B < n) = b → Calls Tryz.prog 40 #[.pointer (some ⟨x, 0, none⟩), .int .i64 fr, .int .i64 i] w fun e w' => e = .returned (.int .i64 (if b then B else -1)) ∧ w.grownBy w' none := by
    intro b hb
    have HBd := Lib.hid hb
    clear hb
    by_cases hk : K = 1
    · have b0 : (K != 1) = false := by simp [hk]
      have HI := Lib.hid (show decide (0 ≤ B ∧ B < n) = b from by rw [← HBd.out]; simp [hk])
      clear hk HBd
      go_enter Tryz.func40, Tryz.ntmps40
      go_wp2_with fail
      refine (rword_at HS.out _ _).mono ?_
      rintro e w' ⟨rfl, rfl⟩
      rw [HX.out]
      go_wp2_with fail
      refine (HDc.out _).mono ?_
      rintro e w2 ⟨rfl, h2⟩
      have hg := grown_trans (grown_of_below' h2) (World.grownBy_alloc w2 (.cells #[.int .i64 A, .int .i64 B] 52) none)
      have HB := Lib.hid (show At7 w0 w _ x rb pb fb n w2.heap.size R L a r N A B from ⟨HS.out.grow hg, HM.out.grow hg, EntAt.new w2 A B 52, hg⟩)
      replace HB := Lib.hid (HB.out.grow (grown_drew1 _))
      clear h2 hg
      have hk := HB.out.cells
      clear HS HM c0
      go_wp2_with fail
      go_region_held3 (fun W => (W.cell? ⟨w2.heap.size, 0, none⟩ = some (.int .i64 A) ∧ W.cell? ⟨w2.heap.size, 1, none⟩ = some (.int .i64 B)) ∧ W.cell? ⟨x, 0, none⟩ = some (.pointer (some ⟨rb, 0, none⟩))) (exact hk)
        (first
          | (go_at_call 52; with_reducible refine ((HK.out _).mono ?_); rintro e w3 ⟨rfl, h3⟩; replace HB := Lib.hid (HB.out.grow (grown_of_below' h3)); replace hk := HB.out.cells; clear h3)
          | (go_at_call 38; with_reducible refine ((is_any HB.out.s B b HI.out).mono ?_); rintro e w4 ⟨rfl, rfl⟩))
      all_goals
        obtain ⟨⟨m0, m1⟩, m2⟩ := hk
        cases b
        · go_wp2_with fail
          go_ret
          exact ⟨rfl, HB.out.g⟩
        · go_wp2_with fail
          go_ret
          exact ⟨rfl, HB.out.g⟩
    · exact (hk hkind).elim
  obtain ⟨b, hb⟩ : ∃ b, decide (K = 1 ∧ 0 ≤ B ∧ B < n) = b := ⟨_, rfl⟩
  have e : (nxW n (wordI n L) fr i).getD (-1) = if b then B else -1 := by
    rw [HN.out]
    cases b
    · rw [if_neg (of_decide_eq_false hb)]; rfl
    · rw [if_pos (of_decide_eq_true hb)]; rfl
  rw [e]
  exact key b hb
-- by genmref1.py
set_option maxHeartbeats 2000000 in
theorem ref_next_no (h : RS w0 w rb fb n R L) (hx : MapB w x rb pb a r N) (fr i : Int) (hkind : kindOf (flagOf (wordI n L fr i)) ≠ 1) :
    Calls Tryz.prog 40 #[.pointer (some ⟨x, 0, none⟩), .int .i64 fr, .int .i64 i] w fun e w' => e = .returned (.int .i64 ((nxW n (wordI n L) fr i).getD (-1))) ∧ w.grownBy w' none := by
  have HS := Lib.hid h
  have HM := Lib.hid hx
  have c0 := hx.at.1
  have hw := wordI_ok n L fr i
  have hnx : nxW n (wordI n L) fr i = if kindOf (flagOf (wordI n L fr i)) = 1 ∧ 0 ≤ ppnOf (wordI n L fr i) ∧ ppnOf (wordI n L fr i) < n then some (ppnOf (wordI n L fr i)) else none := rfl
  obtain ⟨X, hX⟩ : ∃ X, wordI n L fr i = X := ⟨_, rfl⟩
  rw [hX] at hw hnx hkind
  have HX := Lib.hid hX
  have HDc := Lib.hid (ref_decode_ok X hw)
  have HK0 := ref_kind_ok (flagOf X) (ppnOf X)
  have HN := Lib.hid hnx
  clear h hx hw hnx hX
  generalize hA : flagOf X = A at *
  generalize hB : ppnOf X = B at *
  generalize hK : kindOf A = K at *
  clear hA hB hK
  have HK := Lib.hid HK0
  clear HK0
  have key : ∀ b : Bool, decide (K = 1 ∧ 0 ≤ B ∧ B < n) = b → Calls Tryz.prog 40 #[.pointer (some ⟨x, 0, none⟩), .int .i64 fr, .int .i64 i] w fun e w' => e = .returned (.int .i64 (if b then B else -1)) ∧ w.grownBy w' none := by
    intro b hb
    have HBd := Lib.hid hb
    clear hb
    have b0 : (K != 1) = true := by simp [hkind]
    have hbf : b = false := by rw [← HBd.out]; simp [hkind]
    subst hbf
    clear hkind HBd
    go_enter Tryz.func40, Tryz.ntmps40
    go_wp2_with fail
    refine (rword_at HS.out _ _).mono ?_
    rintro e w' ⟨rfl, rfl⟩
    rw [HX.out]
    go_wp2_with fail
    refine (HDc.out _).mono ?_
    rintro e w2 ⟨rfl, h2⟩
    have hg := grown_trans (grown_of_below' h2) (World.grownBy_alloc w2 (.cells #[.int .i64 A, .int .i64 B] 52) none)
    have HB := Lib.hid (show At7 w0 w _ x rb pb fb n w2.heap.size R L a r N A B from ⟨HS.out.grow hg, HM.out.grow hg, EntAt.new w2 A B 52, hg⟩)
    replace HB := Lib.hid (HB.out.grow (grown_drew1 _))
    clear h2 hg
    have hk := HB.out.cells
    clear HS HM c0
    go_wp2_with fail
    refine wp_region_noPanic ?_
    refine wp_region_held_drew (S := fun W => (W.cell? ⟨w2.heap.size, 0, none⟩ = some (.int .i64 A) ∧ W.cell? ⟨w2.heap.size, 1, none⟩ = some (.int .i64 B)) ∧ W.cell? ⟨x, 0, none⟩ = some (.pointer (some ⟨rb, 0, none⟩))) (by kernel_rfl) hk (fun hHeld => ?_)
    refine' wpAnyH_take (i := 0) (oi := ?oi1) (v := ?v1) ?hi1 ?hs1 ?hf1 ?hr1 ?hQ1 ?hy1 ?hS1 ?rest1
    case hi1 => exact rfl
    case hs1 => kernel_rfl
    case hf1 => kernel_rfl
    case hr1 => kernel_rfl
    case hQ1 => exact fun _ _ _ h => h
    case hS1 => assumption
    case hy1 =>
      refine Or.inl ⟨by rfl, ?_⟩
      intro w hSw
      try dsimp only at hSw
      go_simp
      try with_reducible rfl
    try simp only [Act.put, List.setIfInBounds_toArray, List.set_cons_zero, List.set_cons_succ]
    refine wpAnyH_ready (rs := [1]) (by kernel_rfl) (by simp) ?_
    refine' AllReadyH.cons (o := ?o2) ?ho2 ?h2 ?hs2
    case ho2 => exact rfl
    case h2 =>
      intro K hK
      go_simp
      refine (HK.out _).mono ?_
      rintro e w3 ⟨rfl, h3⟩
      replace HB := Lib.hid (HB.out.grow (grown_of_below' h3))
      clear h3
      go_wp2_with fail
      refine hK.out _ _ ?_ (fun hHeld => ?_)
      · (try dsimp only); exact HB.out.cells
      clear hK K
      try simp only [Act.put, List.setIfInBounds_toArray, List.set_cons_zero, List.set_cons_succ]
      refine' wpAnyH_take (i := 2) (oi := ?oi3) (v := ?v3) ?hi3 ?hs3 ?hf3 ?hr3 ?hQ3 ?hy3 ?hS3 ?rest3
      case hi3 => exact rfl
      case hs3 => kernel_rfl
      case hf3 => kernel_rfl
      case hr3 => kernel_rfl
      case hQ3 => exact fun _ _ _ h => h
      case hS3 => assumption
      case hy3 =>
        refine Or.inl ⟨by rfl, ?_⟩
        intro w hSw
        try dsimp only at hSw
        go_simp
        try with_reducible rfl
      try simp only [Act.put, List.setIfInBounds_toArray, List.set_cons_zero, List.set_cons_succ]
      refine' wpAnyH_take (i := 3) (oi := ?oi4) (v := ?v4) ?hi4 ?hs4 ?hf4 ?hr4 ?hQ4 ?hy4 ?hS4 ?rest4
      case hi4 => exact rfl
      case hs4 => kernel_rfl
      case hf4 => kernel_rfl
      case hr4 => kernel_rfl
      case hQ4 => exact fun _ _ _ h => h
      case hS4 => assumption
      case hy4 =>
        refine Or.inl ⟨by rfl, ?_⟩
        intro w hSw
        try dsimp only at hSw
        go_simp
        try with_reducible rfl
      try simp only [Act.put, List.setIfInBounds_toArray, List.set_cons_zero, List.set_cons_succ]
      refine' wpAnyH_take (i := 4) (oi := ?oi5) (v := undef) ?hi5 ?hs5 ?hf5 ?hr5 ?hQ5 ?hy5 ?hS5 ?rest5
      case hi5 => exact rfl
      case hs5 => kernel_rfl
      case hf5 => kernel_rfl
      case hr5 => kernel_rfl
      case hQ5 => exact fun _ _ _ h => h
      case hS5 => assumption
      case hy5 =>
        exact Or.inr ⟨by rfl, rfl⟩
        try with_reducible rfl
      try simp only [Act.put, List.setIfInBounds_toArray, List.set_cons_zero, List.set_cons_succ]
      refine' wpAnyH_take (i := 5) (oi := ?oi6) (v := undef) ?hi6 ?hs6 ?hf6 ?hr6 ?hQ6 ?hy6 ?hS6 ?rest6
      case hi6 => exact rfl
      case hs6 => kernel_rfl
      case hf6 => kernel_rfl
      case hr6 => kernel_rfl
      case hQ6 => exact fun _ _ _ h => h
      case hS6 => assumption
      case hy6 =>
        exact Or.inr ⟨by rfl, rfl⟩
        try with_reducible rfl
      try simp only [Act.put, List.setIfInBounds_toArray, List.set_cons_zero, List.set_cons_succ]
      refine' wpAnyH_take (i := 6) (oi := ?oi7) (v := undef) ?hi7 ?hs7 ?hf7 ?hr7 ?hQ7 ?hy7 ?hS7 ?rest7
      case hi7 => exact rfl
      case hs7 => kernel_rfl
      case hf7 => kernel_rfl
      case hr7 => kernel_rfl
      case hQ7 => exact fun _ _ _ h => h
      case hS7 => assumption
      case hy7 =>
        exact Or.inr ⟨by rfl, rfl⟩
        try with_reducible rfl
      try simp only [Act.put, List.setIfInBounds_toArray, List.set_cons_zero, List.set_cons_succ]
      refine' wpAnyH_take (i := 7) (oi := ?oi8) (v := undef) ?hi8 ?hs8 ?hf8 ?hr8 ?hQ8 ?hy8 ?hS8 ?rest8
      case hi8 => exact rfl
      case hs8 => kernel_rfl
      case hf8 => kernel_rfl
      case hr8 => kernel_rfl
      case hQ8 => exact fun _ _ _ h => h
      case hS8 => assumption
      case hy8 =>
        exact Or.inr ⟨by rfl, rfl⟩
        try with_reducible rfl
      try simp only [Act.put, List.setIfInBounds_toArray, List.set_cons_zero, List.set_cons_succ]
      refine' wpAnyH_take (i := 8) (oi := ?oi9) (v := undef) ?hi9 ?hs9 ?hf9 ?hr9 ?hQ9 ?hy9 ?hS9 ?rest9
      case hi9 => exact rfl
      case hs9 => kernel_rfl
      case hf9 => kernel_rfl
      case hr9 => kernel_rfl
      case hQ9 => exact fun _ _ _ h => h
      case hS9 => assumption
      case hy9 =>
        exact Or.inr ⟨by rfl, rfl⟩
        try with_reducible rfl
      try simp only [Act.put, List.setIfInBounds_toArray, List.set_cons_zero, List.set_cons_succ]
      refine' wpAnyH_take (i := 9) (oi := ?oi10) (v := undef) ?hi10 ?hs10 ?hf10 ?hr10 ?hQ10 ?hy10 ?hS10 ?rest10
      case hi10 => exact rfl
      case hs10 => kernel_rfl
      case hf10 => kernel_rfl
      case hr10 => kernel_rfl
      case hQ10 => exact fun _ _ _ h => h
      case hS10 => assumption
      case hy10 =>
        exact Or.inr ⟨by rfl, rfl⟩
        try with_reducible rfl
      try simp only [Act.put, List.setIfInBounds_toArray, List.set_cons_zero, List.set_cons_succ]
      refine wpAnyH_ready (rs := [10]) (by kernel_rfl) (by simp) ?_
      refine' AllReadyH.cons (o := ?o11) ?ho11 ?h11 ?hs11
      case ho11 => exact rfl
      case h11 =>
        intro K hK
        go_simp
        refine hK.out _ _ ?_ (fun hHeld => ?_)
        · (try dsimp only); exact HB.out.cells
        clear hK K
        try simp only [Act.put, List.setIfInBounds_toArray, List.set_cons_zero, List.set_cons_succ]
        refine' wpAnyH_take (i := 11) (oi := ?oi12) (v := undef) ?hi12 ?hs12 ?hf12 ?hr12 ?hQ12 ?hy12 ?hS12 ?rest12
        case hi12 => exact rfl
        case hs12 => kernel_rfl
        case hf12 => kernel_rfl
        case hr12 => kernel_rfl
        case hQ12 => exact fun _ _ _ h => h
        case hS12 => assumption
        case hy12 =>
          exact Or.inr ⟨by rfl, rfl⟩
          try with_reducible rfl
        try simp only [Act.put, List.setIfInBounds_toArray, List.set_cons_zero, List.set_cons_succ]
        refine' wpAnyH_take (i := 12) (oi := ?oi13) (v := ?v13) ?hi13 ?hs13 ?hf13 ?hr13 ?hQ13 ?hy13 ?hS13 ?rest13
        case hi13 => exact rfl
        case hs13 => kernel_rfl
        case hf13 => kernel_rfl
        case hr13 => kernel_rfl
        case hQ13 => exact fun _ _ _ h => h
        case hS13 => assumption
        case hy13 =>
          refine Or.inl ⟨by rfl, ?_⟩
          intro w hSw
          try dsimp only at hSw
          go_simp
          try with_reducible rfl
        try simp only [Act.put, List.setIfInBounds_toArray, List.set_cons_zero, List.set_cons_succ]
        refine wpAnyH_done (by kernel_rfl) ?_ _
        refine NoPanic.normal ?_
        go_wp2_with fail
        go_ret
        exact ⟨rfl, HB.out.g⟩
      exact AllReadyH.nil
    exact AllReadyH.nil
  obtain ⟨b, hb⟩ : ∃ b, decide (K = 1 ∧ 0 ≤ B ∧ B < n) = b := ⟨_, rfl⟩
  have e : (nxW n (wordI n L) fr i).getD (-1) = if b then B else -1 := by
    rw [HN.out]
    cases b
    · rw [if_neg (of_decide_eq_false hb)]; rfl
    · rw [if_pos (of_decide_eq_true hb)]; rfl
  rw [e]
  exact key b hb
theorem ref_next (h : RS w0 w rb fb n R L) (hx : MapB w x rb pb a r N) (fr i : Int) :
    Calls Tryz.prog 40 #[.pointer (some ⟨x, 0, none⟩), .int .i64 fr, .int .i64 i] w fun e w' => e = .returned (.int .i64 ((nxW n (wordI n L) fr i).getD (-1))) ∧ w.grownBy w' none := by
  by_cases hk : kindOf (flagOf (wordI n L fr i)) = 1
  · exact ref_next_one h hx fr i hk
  · exact ref_next_no h hx fr i hk
end
end Go.Proofs.YtlieommbomjdaaaGreat

namespace Go.Proofs.YtlieommbomjdaaaGreat
open Go.ChangeShapes Go.WideShapes Go.ChangeAt Go.RowKit Go.Deep
set_option linter.unusedVariables false

/-- The document's memory (its words W) and its pool (frames xs), apart. -/
structure DM (w0 w : World) (rb fb n : Nat) (R : List Nat) (pb gb : Nat) (W : WoF) (xs : List FrV) : Prop where
  ex : ∃ L c, RS w0 w rb fb n R L ∧ wordI n L = W ∧ RP w pb 0 xs gb c
  good : Goods xs
  num : xs.length = n
  pge : w0.heap.size ≤ pb
  apart : ∀ b, b ∈ [pb, gb] → b ∉ rb :: fb :: R

section
variable {w0 w w' : World} {rb fb n pb gb : Nat} {R : List Nat} {W : WoF} {xs : List FrV}
theorem mem_pg {b pb gb : Nat} {O : List Nat} (hb : b ∈ [pb, gb]) : b ∈ pb :: gb :: O := by
  simp only [List.mem_cons, List.not_mem_nil, or_false] at hb
  rcases hb with rfl | rfl <;> simp
theorem mem_rf {b pb gb : Nat} {O : List Nat} (hb : b ∈ O) : b ∈ pb :: gb :: O := List.mem_cons_of_mem _ (List.mem_cons_of_mem _ hb)
theorem turn_of_kept {L L' : List UInt8} (h : RS w0 w rb fb n R L) (h' : RS w0 w' rb fb n R L') (k : Kept R w w') : Turn R w w' := by
  refine ⟨h'.below.os.trans h.below.os.symm, h'.below.tape.trans h.below.tape.symm, h'.below.output.trans h.below.output.symm, ?_, fun b hb hR => k b hb hR⟩
  rcases Nat.eq_zero_or_pos w.heap.size with e | e
  · omega
  · have key : w.heap.size - 1 < w'.heap.size := by
      by_cases hR : w.heap.size - 1 ∈ R
      · exact h'.mem.Rlt _ hR
      · have h1 := k (w.heap.size - 1) (by omega) hR
        rw [Array.getElem?_eq_getElem (show w.heap.size - 1 < w.heap.size by omega)] at h1
        exact (Array.getElem?_eq_some_iff.1 h1).1
    omega
theorem DM.grow (h : DM w0 w rb fb n R pb gb W xs) (g : w.grownBy w' none) : DM w0 w' rb fb n R pb gb W xs := by
  obtain ⟨⟨L, c, h1, h2, h3⟩, h4, h5, h6, h7⟩ := h
  exact ⟨⟨L, c, h1.grow g, h2, h3.grow g⟩, h4, h5, h6, h7⟩
theorem DM.lt (h : DM w0 w rb fb n R pb gb W xs) : ∀ b, b ∈ pb :: gb :: rb :: fb :: R → b < w.heap.size := by
  obtain ⟨⟨L, c, h1, h2, h3⟩, h4, h5, h6⟩ := h
  intro b hb
  simp only [List.mem_cons] at hb
  rcases hb with rfl | rfl | rfl | rfl | hb
  · exact h3.rlt
  · exact h3.glt
  · exact h1.mem.rlt
  · exact h1.mem.flt
  · exact h1.mem.Rlt b hb
theorem DM.le (h : DM w0 w rb fb n R pb gb W xs) : n ≤ 256 := by
  obtain ⟨⟨L, c, h1, _⟩, _⟩ := h
  exact h1.mem.le
theorem DM.Rge (h : DM w0 w rb fb n R pb gb W xs) : ∀ b, b ∈ R → w0.heap.size ≤ b := by
  obtain ⟨⟨L, c, h1, _⟩, _⟩ := h
  exact h1.Rge
/-- Whatever turns nothing of these blocks. -/
theorem DM.turn {O : List Nat} (h : DM w0 w rb fb n R pb gb W xs) (g : Turn O w w') (ho : ∀ b, b ∈ pb :: gb :: rb :: fb :: R → b ∉ O) (hb : ∀ b, b ∈ O → w0.heap.size ≤ b) : DM w0 w' rb fb n R pb gb W xs := by
  have hlt := h.lt
  obtain ⟨⟨L, c, h1, h2, h3⟩, h4, h5, h6, h7⟩ := h
  have k : ∀ b, b ∈ pb :: gb :: rb :: fb :: R → w'.heap[b]? = w.heap[b]? := fun b hb => g.block b (hlt b hb) (ho b hb)
  refine ⟨⟨L, c, ⟨h1.mem.same (k _ (by simp)) (k _ (by simp)) fun p hp => k _ (by simp [hp]), ?_, h1.rge, h1.fge, h1.Rge⟩, h2, h3.kept fun b hb => k b (mem_pg hb)⟩, h4, h5, h6, h7⟩
  exact ⟨g.os.trans h1.below.os, g.tape.trans h1.below.tape, g.output.trans h1.below.output, Nat.le_trans h1.below.size g.size, fun b hb2 => (g.block b (Nat.lt_of_lt_of_le hb2 h1.below.size) fun hm => by have := hb b hm; omega).trans (h1.below.block b hb2)⟩

theorem DM.word (h : DM w0 w rb fb n R pb gb W xs) (i j : Int) : ∃ b, Calls Tryz.prog 75 #[.pointer (some ⟨rb, 0, none⟩), .int .i64 i, .int .i64 j] w fun e w' => e = .returned (.tuple #[.int .u64 (W i j), .bool b]) ∧ w = w' := by
  obtain ⟨⟨L, c, h1, rfl, h3⟩, _⟩ := h
  exact ⟨_, rword_at h1 i j⟩
theorem DM.okU (h : DM w0 w rb fb n R pb gb W xs) (i j : Int) : okU (W i j) := by
  obtain ⟨⟨L, c, h1, rfl, h3⟩, _⟩ := h
  exact wordI_ok _ _ _ _
theorem DM.setWord (h : DM w0 w rb fb n R pb gb W xs) (f i v : Int) (hf : 0 ≤ f ∧ f < n) (hi : okX i) (hv : Go.Proofs.YtlieommbomjdaaaGreat.okU v) :
    Calls Tryz.prog 43 #[.pointer (some ⟨rb, 0, none⟩), .int .i64 f, .int .i64 i, .int .u64 v] w fun e w' => e = .returned (.bool true) ∧ DM w0 w' rb fb n R pb gb (updW W f i v) xs ∧ Turn R w w' := by
  have hlt := h.lt
  obtain ⟨⟨L, c, h1, rfl, h3⟩, h4, h5, h6, h7⟩ := h
  refine (rsetWordE h1 f i v hf hi hv).mono ?_
  rintro e w' ⟨rfl, k1, k2⟩
  have ht := turn_of_kept h1 k1 k2
  exact ⟨rfl, ⟨⟨_, c, k1, words_set h1.mem.len hf hi hv, h3.kept fun b hb => ht.block b (hlt b (mem_pg hb)) fun hm => h7 b hb (by simp [hm])⟩, h4, h5, h6, h7⟩, ht⟩
theorem DM.zero (h : DM w0 w rb fb n R pb gb W xs) (f : Int) (hf : 0 ≤ f ∧ f < n) :
    Calls Tryz.prog 31 #[.pointer (some ⟨rb, 0, none⟩), .int .i64 f] w fun e w' => e = .returned (.bool true) ∧ DM w0 w' rb fb n R pb gb (zeroW W f) xs ∧ Turn R w w' := by
  have hlt := h.lt
  obtain ⟨⟨L, c, h1, rfl, h3⟩, h4, h5, h6, h7⟩ := h
  obtain ⟨k, rfl⟩ := Int.eq_ofNat_of_zero_le hf.1
  refine (rzero_ok h1 k (by omega)).mono ?_
  rintro e w' ⟨rfl, k1, k2⟩
  have ht := turn_of_kept h1 k1 k2
  exact ⟨rfl, ⟨⟨_, c, k1, words_zero h1.mem.len k (by omega), h3.kept fun b hb => ht.block b (hlt b (mem_pg hb)) fun hm => h7 b hb (by simp [hm])⟩, h4, h5, h6, h7⟩, ht⟩
theorem DM.is (h : DM w0 w rb fb n R pb gb W xs) (i : Int) (b : Bool) (hb : decide (0 ≤ i ∧ i < n) = b) :
    Calls Tryz.prog 38 #[.pointer (some ⟨rb, 0, none⟩), .int .i64 i] w fun e w' => e = .returned (.bool b) ∧ w = w' := by
  obtain ⟨⟨L, c, h1, rfl, h3⟩, _⟩ := h
  exact is_any h1 i b hb

/-- The pool turned. -/
def DLeft (w0 w w' : World) (rb fb n : Nat) (R : List Nat) (pb gb : Nat) (W : WoF) (zs : List FrV) : Prop := ∃ gb', DM w0 w' rb fb n R pb gb' W zs ∧ Turn [pb] w w' ∧ (gb' = gb ∨ w.heap.size ≤ gb')
theorem DM.left {zs : List FrV} (h : DM w0 w rb fb n R pb gb W xs) (hz : Goods zs) (hl : zs.length = xs.length) (k : RLeft w w' pb gb 0 zs) : DLeft w0 w w' rb fb n R pb gb W zs := by
  have hlt := h.lt
  have hpR := h.apart pb (by simp)
  obtain ⟨⟨L, c, h1, rfl, h3⟩, h4, h5, h6, h7⟩ := h
  obtain ⟨g', c', k1, k2, k3⟩ := k
  have kb : ∀ b, b ∈ rb :: fb :: R → w'.heap[b]? = w.heap[b]? := fun b hb => k2.block b (hlt b (mem_rf hb)) fun hm => hpR (by simp at hm; subst hm; exact hb)
  refine ⟨g', ⟨⟨L, c', ⟨h1.mem.same (kb _ (by simp)) (kb _ (by simp)) fun p hp => kb _ (by simp [hp]), ?_, h1.rge, h1.fge, h1.Rge⟩, rfl, k1⟩, hz, hl.trans h5, h6, fun b hb => ?_⟩, k2, k3⟩
  · exact ⟨k2.os.trans h1.below.os, k2.tape.trans h1.below.tape, k2.output.trans h1.below.output, Nat.le_trans h1.below.size k2.size, fun b hb => (k2.block b (Nat.lt_of_lt_of_le hb h1.below.size) fun hm => by simp at hm; omega).trans (h1.below.block b hb)⟩
  · simp only [List.mem_cons, List.not_mem_nil, or_false] at hb
    rcases hb with rfl | rfl
    · exact hpR
    · rcases k3 with rfl | k3
      · exact h7 _ (by simp)
      · intro hm
        have := hlt b (mem_rf hm)
        omega
theorem DM.take (h : DM w0 w rb fb n R pb gb W xs) (a l : Int) (ha : okI a) (hl : okI l) :
    Calls Tryz.prog 30 #[.pointer (some ⟨pb, 0, none⟩), .int .i64 1, .int .i64 a, .int .i64 l] w fun e w' => e = .returned (.tuple #[.int .i64 (takeF 0 xs 1 a l).n, .int .i64 (takeF 0 xs 1 a l).e]) ∧ DLeft w0 w w' rb fb n R pb gb W (takeF 0 xs 1 a l).xs := by
  obtain ⟨⟨L, c, h1, h2, h3⟩, h4, h5, h6, h7⟩ := h
  refine (ref_take h3 1 a l).mono ?_
  rintro e w' ⟨rfl, k⟩
  exact ⟨rfl, DM.left ⟨⟨L, c, h1, h2, h3⟩, h4, h5, h6, h7⟩ (takeF_good h4 ha hl) takeF_len k⟩
theorem DM.give (h : DM w0 w rb fb n R pb gb W xs) (f : Int) :
    Calls Tryz.prog 58 #[.pointer (some ⟨pb, 0, none⟩), .int .i64 f] w fun e w' => e = .returned (.int .i64 (giveF xs f).e) ∧ DLeft w0 w w' rb fb n R pb gb W (giveF xs f).xs := by
  obtain ⟨⟨L, c, h1, h2, h3⟩, h4, h5, h6, h7⟩ := h
  refine (ref_give h3 f).mono ?_
  rintro e w' ⟨rfl, k⟩
  exact ⟨rfl, DM.left ⟨⟨L, c, h1, h2, h3⟩, h4, h5, h6, h7⟩ (giveF_good h4) (atF_len _) k⟩
end

/-- .. with a space of it. -/
structure DX (w0 w : World) (rb fb n : Nat) (R : List Nat) (pb gb x : Nat) (a r : Int) (s : MS) : Prop where
  dm : DM w0 w rb fb n R pb gb s.W s.xs
  map : MapB w x rb pb a r s.N
  xge : w0.heap.size ≤ x
  apart : x ∉ pb :: gb :: rb :: fb :: R
/-- A space behind a call. -/
def DXL (w0 w w' : World) (rb fb n : Nat) (R : List Nat) (pb gb x : Nat) (a r : Int) (s : MS) : Prop := ∃ gb', DX w0 w' rb fb n R pb gb' x a r s ∧ Turn (x :: pb :: R) w w' ∧ (gb' = gb ∨ w.heap.size ≤ gb')

section
variable {w0 w w' w2 : World} {rb fb n pb gb x : Nat} {R : List Nat} {a r : Int} {s t : MS}
theorem DX.grow (h : DX w0 w rb fb n R pb gb x a r s) (g : w.grownBy w' none) : DX w0 w' rb fb n R pb gb x a r s := ⟨h.dm.grow g, h.map.grow g, h.xge, h.apart⟩
theorem DX.stay (h : DX w0 w rb fb n R pb gb x a r s) (g : w.grownBy w' none) : DXL w0 w w' rb fb n R pb gb x a r s := ⟨gb, h.grow g, Turn.grown g, .inl rfl⟩
theorem DXL.trans {w1 : World} {gb1 : Nat} (h : ∀ gb', (gb' = gb ∨ w.heap.size ≤ gb') → gb' = gb1 → DXL w0 w1 w2 rb fb n R pb gb' x a r t) (k : Turn (x :: pb :: R) w w1) (kg : gb1 = gb ∨ w.heap.size ≤ gb1) : DXL w0 w w2 rb fb n R pb gb x a r t := by
  obtain ⟨g2, h1, h2, h3⟩ := h gb1 kg rfl
  refine ⟨g2, h1, k.trans' h2, ?_⟩
  rcases h3 with rfl | h3
  · exact kg
  · exact .inr (Nat.le_trans k.size h3)
/-- The words turned. -/
theorem DX.words (h : DX w0 w rb fb n R pb gb x a r s) {W : WoF} (k : DM w0 w' rb fb n R pb gb W s.xs) (t : Turn R w w') : DX w0 w' rb fb n R pb gb x a r ⟨W, s.xs, s.N⟩ :=
  ⟨k, (t.block x h.map.lt (fun hm => h.apart (by simp [hm]))).trans h.map, h.xge, h.apart⟩
/-- The pool turned. -/
theorem DX.pool {zs : List FrV} {gb' : Nat} (h : DX w0 w rb fb n R pb gb x a r s) (k : DM w0 w' rb fb n R pb gb' s.W zs) (t : Turn [pb] w w') (hg : gb' = gb ∨ w.heap.size ≤ gb') : DX w0 w' rb fb n R pb gb' x a r ⟨s.W, zs, s.N⟩ := by
  have hxp : x ≠ pb := fun e => h.apart (by simp [e])
  refine ⟨k, (t.block x h.map.lt (by simpa using hxp)).trans h.map, h.xge, fun hm => ?_⟩
  simp only [List.mem_cons] at hm
  rcases hm with e | e | hm
  · exact hxp e
  · rcases hg with rfl | hg
    · exact h.apart (by simp [e])
    · have := h.map.lt; omega
  · exact h.apart (by simp [hm])
/-- How many tables there are, stored. -/
theorem DX.count (h : DX w0 w rb fb n R pb gb x a r s) (N : Int) : DX w0 (w.setCell ⟨x, 4, none⟩ (.int .i64 N)) rb fb n R pb gb x a r ⟨s.W, s.xs, N⟩ ∧ Turn [x] w (w.setCell ⟨x, 4, none⟩ (.int .i64 N)) := by
  have ht : Turn [x] w (w.setCell ⟨x, 4, none⟩ (.int .i64 N)) := Turn.setCell [x] w x 4 _ (by simp)
  refine ⟨⟨h.dm.turn ht (fun b hb hm => ?_) (fun b hb => ?_), ?_, h.xge, h.apart⟩, ht⟩
  · have : b = x := by simpa using hm
    exact h.apart (this ▸ hb)
  · have : b = x := by simpa using hb
    rw [this]; exact h.xge
  · exact heap_setCell_same w x 4 _ _ _ h.map
end
end Go.Proofs.YtlieommbomjdaaaGreat

namespace Go.Proofs.YtlieommbomjdaaaGreat
open Go.ChangeShapes Go.WideShapes Go.ChangeAt Go.RowKit Go.Deep
set_option linter.unusedVariables false

section
variable {w0 w w' w2 : World} {rb fb n pb gb x : Nat} {R : List Nat} {a r : Int} {s t : MS}
theorem dx_next (h : DX w0 w rb fb n R pb gb x a r s) (fr i : Int) :
    Calls Tryz.prog 40 #[.pointer (some ⟨x, 0, none⟩), .int .i64 fr, .int .i64 i] w fun e w' => e = .returned (.int .i64 ((nxW n s.W fr i).getD (-1))) ∧ w.grownBy w' none := by
  obtain ⟨⟨⟨L, c, h1, h2, h3⟩, _⟩, hm, _⟩ := h
  rw [← h2]
  by_cases hk : kindOf (flagOf (wordI n L fr i)) = 1
  · exact ref_next_one h1 hm fr i hk
  · exact ref_next_no h1 hm fr i hk
theorem DX.cells (h : DX w0 w rb fb n R pb gb x a r s) : w.cell? ⟨x, 0, none⟩ = some (.pointer (some ⟨rb, 0, none⟩)) ∧ w.cell? ⟨x, 1, none⟩ = some (.pointer (some ⟨pb, 0, none⟩)) ∧ w.cell? ⟨x, 2, none⟩ = some (.int .i64 a) ∧ w.cell? ⟨x, 3, none⟩ = some (.int .i64 r) ∧ w.cell? ⟨x, 4, none⟩ = some (.int .i64 s.N) := h.map.at

set_option maxHeartbeats 2000000 in
theorem dx_grow_no (h : DX w0 w rb fb n R pb gb x a r s) (f i l : Int) (ha : okI a) (hl : okI l) (k : Int) (hk : takeF 0 s.xs 1 a l = ⟨0, k, s.xs⟩) (hk0 : k ≠ 0) :
    Calls Tryz.prog 41 #[.pointer (some ⟨x, 0, none⟩), .int .i64 f, .int .i64 i, .int .i64 l] w fun e w' => e = .returned (.tuple #[.int .i64 0, .int .i64 k]) ∧ DXL w0 w w' rb fb n R pb gb x a r s := by
  have hD := h.grow (grown_drew1 w)
  have hT := hD.dm.take a l ha hl
  rw [hk] at hT
  have HT := Lib.hid hT
  have hc := hD.cells
  have HD := Lib.hid hD
  have b0 : (k != 0) = true := by simpa using hk0
  clear h hD hT hk
  go_enter Tryz.func41, Tryz.ntmps41
  go_wp2_with fail
  go_region_held3 (fun W => W.cell? ⟨x, 0, none⟩ = some (.pointer (some ⟨rb, 0, none⟩)) ∧ W.cell? ⟨x, 1, none⟩ = some (.pointer (some ⟨pb, 0, none⟩)) ∧ W.cell? ⟨x, 2, none⟩ = some (.int .i64 a) ∧ W.cell? ⟨x, 3, none⟩ = some (.int .i64 r) ∧ W.cell? ⟨x, 4, none⟩ = some (.int .i64 s.N)) (with_reducible exact hc)
    (first
      | (go_at_call 30; (with_reducible refine (HT.out.mono ?_)); rintro e w2 ⟨rfl, g2, k1, k2, k3⟩; have hD2 := HD.out.pool k1 k2 k3; replace hc := hD2.cells; have HL := Lib.hid (show DXL w0 w w2 rb fb n R pb gb x a r s from ⟨g2, hD2, (Turn.grown (grown_drew1 w)).trans' (k2.mono (by simp)), k3⟩); clear k1 k2 k3 hD2))
  all_goals
    go_wp2_with fail
    go_ret2
    exact ⟨rfl, HL.out⟩

set_option maxHeartbeats 2000000 in
theorem dx_grow_ok (h : DX w0 w rb fb n R pb gb x a r s) (f i l : Int) (ha : okI a) (hl : okI l) (k : Nat) (hkn : k < n) (zs : List FrV) (hk : takeF 0 s.xs 1 a l = ⟨k, 0, zs⟩) (hf : 0 ≤ f ∧ f < n) (hi : okX i) (hN : 0 ≤ s.N ∧ s.N ≤ 1000000) :
    Calls Tryz.prog 41 #[.pointer (some ⟨x, 0, none⟩), .int .i64 f, .int .i64 i, .int .i64 l] w fun e w' => e = .returned (.tuple #[.int .i64 k, .int .i64 0]) ∧ DXL w0 w w' rb fb n R pb gb x a r (growM s ⟨k, 0, zs⟩ f i) := by
  have hD := h.grow (grown_drew1 w)
  have hT := hD.dm.take a l ha hl
  rw [hk] at hT
  have HT := Lib.hid hT
  have hc := hD.cells
  have HD := Lib.hid hD
  have hn := h.dm.le
  have hu := okU_ent (g := k) (n := n) ⟨by omega, by omega⟩ hn
  have he := enc_ent (g := k) (n := n) ⟨by omega, by omega⟩ hn
  have HE := Lib.hid (fun W => ref_encode_ok 1 k W)
  rw [he] at HE
  have HF := Lib.hid hf
  have HI := Lib.hid hi
  have HU := Lib.hid hu
  have hkz : (0 : Int) ≤ k ∧ (k : Int) < n := ⟨by omega, by omega⟩
  have HKZ := Lib.hid hkz
  obtain ⟨K, hK⟩ : ∃ K : Int, (k : Int) = K := ⟨_, rfl⟩
  obtain ⟨V, hV⟩ : ∃ V : Int, entT K = V := ⟨_, rfl⟩
  rw [hK] at HT HE HU HKZ
  rw [hV] at HE HU
  have HV := Lib.hid hV
  have hgm : growM s ⟨K, 0, zs⟩ f i = ⟨updW (zeroW s.W K) f i V, zs, s.N + 1⟩ := by rw [← hV]; rfl
  rw [hK, hgm]
  have hN0 := hN.1
  have hN1 := hN.2
  clear h hD hT hk hf hi hu he hkz hK hV hgm hN
  go_enter Tryz.func41, Tryz.ntmps41
  go_wp2_with fail
  go_region_held3 (fun W => W.cell? ⟨x, 0, none⟩ = some (.pointer (some ⟨rb, 0, none⟩)) ∧ W.cell? ⟨x, 1, none⟩ = some (.pointer (some ⟨pb, 0, none⟩)) ∧ W.cell? ⟨x, 2, none⟩ = some (.int .i64 a) ∧ W.cell? ⟨x, 3, none⟩ = some (.int .i64 r) ∧ W.cell? ⟨x, 4, none⟩ = some (.int .i64 s.N)) (with_reducible exact hc)
    (first
      | (go_at_call 30; (with_reducible refine (HT.out.mono ?_)); rintro e w2 ⟨rfl, g2, k1, k2, k3⟩; have hD2 := HD.out.pool k1 k2 k3; replace hc := hD2.cells; have HL := Lib.hid (show DX w0 w2 rb fb n R pb g2 x a r ⟨s.W, zs, s.N⟩ ∧ Turn (x :: pb :: R) w w2 ∧ (g2 = gb ∨ w.heap.size ≤ g2) from ⟨hD2, (Turn.grown (grown_drew1 w)).trans' (k2.mono (by simp)), k3⟩); clear k1 k2 k3 hD2))
  all_goals
    obtain ⟨c0, c1, c2, c3, c4⟩ := hc
    go_wp2_with fail
    refine (HL.out.1.dm.zero K HKZ.out).mono ?_
    rintro e w3 ⟨rfl, k1, k2⟩
    have hD3 := HL.out.1.words k1 k2
    have HL3 := Lib.hid (show DX w0 w3 rb fb n R pb g2 x a r ⟨zeroW s.W K, zs, s.N⟩ ∧ Turn (x :: pb :: R) w w3 ∧ (g2 = gb ∨ w.heap.size ≤ g2) from ⟨hD3, HL.out.2.1.trans' (k2.mono (by simp +contextual)), HL.out.2.2⟩)
    have HL4 := Lib.hid (show DX w0 w3.drew rb fb n R pb g2 x a r ⟨zeroW s.W K, zs, s.N⟩ ∧ Turn (x :: pb :: R) w w3.drew ∧ (g2 = gb ∨ w.heap.size ≤ g2) from ⟨hD3.grow (grown_drew1 _), HL3.out.2.1.trans' (Turn.grown (grown_drew1 _)), HL.out.2.2⟩)
    clear k1 k2 hD3 c0 c1 c2 c3 c4 HL HL3
    obtain ⟨hc, -⟩ := HL4.out.1.cells
    go_wp2_with fail
    go_region_held3 (fun W => W.cell? ⟨x, 0, none⟩ = some (.pointer (some ⟨rb, 0, none⟩))) (with_reducible exact hc)
      (first
        | (go_at_call 44; (with_reducible refine ((HE.out _).mono ?_)); rintro e w4 ⟨rfl, h4⟩; replace HL4 := Lib.hid (show DX w0 w4 rb fb n R pb g2 x a r ⟨zeroW s.W K, zs, s.N⟩ ∧ Turn (x :: pb :: R) w w4 ∧ (g2 = gb ∨ w.heap.size ≤ g2) from ⟨HL4.out.1.grow (grown_of_below' h4), HL4.out.2.1.trans' (Turn.grown (grown_of_below' h4)), HL4.out.2.2⟩); replace hc := HL4.out.1.cells.1; clear h4)
        | (go_at_call 43; (with_reducible refine ((HL4.out.1.dm.setWord f i V HF.out HI.out HU.out).mono ?_)); rintro e w5 ⟨rfl, k1, k2⟩; have hD5 := HL4.out.1.words k1 k2; have HL5 := Lib.hid (show DX w0 w5 rb fb n R pb g2 x a r ⟨updW (zeroW s.W K) f i V, zs, s.N⟩ ∧ Turn (x :: pb :: R) w w5 ∧ (g2 = gb ∨ w.heap.size ≤ g2) from ⟨hD5, HL4.out.2.1.trans' (k2.mono (by simp +contextual)), HL4.out.2.2⟩); replace hc := hD5.cells.1; clear k1 k2 hD5))
    all_goals
      clear hc
      obtain ⟨c0, c1, c2, c3, c4⟩ := HL5.out.1.cells
      have f4 := frozen_of_row w5 x 4 _ _ HL5.out.1.map
      have HK := Lib.hid (HL5.out.1.count (s.N + 1))
      go_wp2_with fail
      go_ret2
      exact ⟨rfl, g2, HK.out.1, HL5.out.2.1.trans' (HK.out.2.mono (by simp)), HL5.out.2.2⟩
end
end Go.Proofs.YtlieommbomjdaaaGreat

namespace Go.Proofs.YtlieommbomjdaaaGreat
open Go.ChangeShapes Go.WideShapes Go.ChangeAt Go.RowKit Go.Deep
set_option linter.unusedVariables false

theorem shrinkM_none {n : Nat} {s : MS} {f i : Int} (h : nxW n s.W f i = none) : shrinkM n s f i = s := by unfold shrinkM; rw [h]
theorem shrinkM_full {n : Nat} {s : MS} {f i g : Int} (h : nxW n s.W f i = some g) (hc : ¬ clearW s.W g) : shrinkM n s f i = s := by unfold shrinkM; rw [h]; exact if_neg hc
theorem shrinkM_clear {n : Nat} {s : MS} {f i g : Int} (h : nxW n s.W f i = some g) (hc : clearW s.W g) : shrinkM n s f i = ⟨updW s.W f i 0, (giveF s.xs g).xs, s.N - 1⟩ := by unfold shrinkM; rw [h]; exact if_pos hc
theorem nx_lt {n : Nat} {W : WoF} {f i g : Int} (h : nxW n W f i = some g) : 0 ≤ g ∧ g < n := by
  unfold nxW at h
  split at h
  · rename_i hc; injection h with h; rw [← h]; exact hc.2
  · cases h

section
variable {w0 w w' w2 : World} {rb fb n pb gb x : Nat} {R : List Nat} {a r : Int} {s t : MS}

set_option maxRecDepth 100000 in
set_option maxHeartbeats 2000000 in
theorem dx_shrink (h : DX w0 w rb fb n R pb gb x a r s) (fr i : Int) (hf : 0 ≤ fr ∧ fr < n) (hi : okX i) (hN : -1000000 ≤ s.N ∧ s.N ≤ 1000000) :
    Calls Tryz.prog 77 #[.pointer (some ⟨x, 0, none⟩), .int .i64 fr, .int .i64 i] w fun e w' => e = .returned (.tuple #[]) ∧ DXL w0 w w' rb fb n R pb gb x a r (shrinkM n s fr i) := by
  have HD := Lib.hid h
  have HX := Lib.hid (dx_next h fr i)
  cases hg : nxW n s.W fr i with
  | none =>
    rw [shrinkM_none hg]
    rw [hg] at HX
    clear h hg hN
    go_enter Tryz.func77, Tryz.ntmps77
    go_wp2_with fail
    refine HX.out.mono ?_
    rintro e w2 ⟨rfl, g2⟩
    have HL := Lib.hid (HD.out.stay g2)
    clear g2
    go_wp2_with fail
    refine bodyPost_ret (results_none rfl _ _ _) rfl ?_
    exact ⟨rfl, HL.out⟩
  | some g =>
    have hgl := nx_lt hg
    have hgn := hgl.1
    rw [hg] at HX
    have HG := Lib.hid hg
    have HF := Lib.hid hf
    have HI := Lib.hid hi
    have hn0 := hN.1
    have hn1 := hN.2
    clear h hg hN hf hi hgl
    go_enter Tryz.func77, Tryz.ntmps77
    go_wp2_with fail
    refine HX.out.mono ?_
    rintro e w2 ⟨rfl, g2⟩
    have H2 := Lib.hid (HD.out.grow g2)
    have HL2 := Lib.hid g2
    clear g2 HX HD
    go_wp2_with fail
    go_loopw [7, 8, 9] (fun kv _ _ wr => ∃ j : Nat, j ≤ 512 ∧ kv = .int .i64 j ∧ Hid (w2.grownBy wr none) ∧ Hid (∀ q : Int, 0 ≤ q → q < j → s.W g q = 0)) (fun kv _ _ _ => 512 - (intOf kv).toNat)
    case atStart => exact ⟨0, by omega, rfl, grown_refl _ _, fun q h0 h1 => by omega⟩
    case round =>
      obtain ⟨j, hj, rfl, HGr, HZ⟩ := hrel
      have HDr := Lib.hid (H2.out.grow HGr.out)
      obtain ⟨c0, c1, c2, c3, c4⟩ := HDr.out.cells
      by_cases hlt : j < 512
      · obtain ⟨b, hb⟩ := HDr.out.dm.word g j
        have HW := Lib.hid hb
        obtain ⟨V, hV⟩ : ∃ V, s.W g j = V := ⟨_, rfl⟩
        rw [hV] at HW
        clear hb
        by_cases hz : V = 0
        · have b0 : (V != 0) = false := by simpa using hz
          have HV := Lib.hid (hV.trans hz)
          clear hV hz
          go_wp2_with fail
          refine HW.out.mono ?_
          rintro e w3 ⟨rfl, e2⟩
          subst w3
          go_wp2_with fail
          go_roundw
          case rel =>
            refine ⟨j + 1, by omega, by go_num, HGr, ?_⟩
            show ∀ q : Int, 0 ≤ q → q < ((j + 1 : Nat) : Int) → s.W g q = 0
            intro q h0 h1
            by_cases e : q = j
            · subst e; exact HV.out
            · exact HZ.out q h0 (by omega)
          case measure => simp [intOf]; omega
        · have b0 : (V != 0) = true := by simpa using hz
          have hnc : ¬ clearW s.W g := fun hc => hz (by rw [← hV]; exact hc j ⟨by omega, by omega⟩)
          have HS := Lib.hid (shrinkM_full HG.out hnc)
          clear hV hz hnc
          go_wp2_with fail
          refine HW.out.mono ?_
          rintro e w3 ⟨rfl, e2⟩
          subst w3
          go_wp2_with fail
          refine bodyPost_ret (results_none rfl _ _ _) rfl ?_
          rw [HS.out]
          exact ⟨rfl, gb, HDr.out, Turn.grown (grown_trans HL2.out HGr.out), .inl rfl⟩
      · obtain rfl : j = 512 := by omega
        have HS := Lib.hid (shrinkM_clear HG.out (fun q hq => HZ.out q hq.1 (by have := hq.2; omega)))
        go_wp2_with fail
        refine (HDr.out.dm.give g).mono ?_
        rintro e w3 ⟨rfl, g3, k1, k2, k3⟩
        have h3 := HDr.out.pool k1 k2 k3
        have HT3 := Lib.hid (show Turn (x :: pb :: R) w w3 from (Turn.grown (grown_trans HL2.out HGr.out)).trans' (k2.mono (by simp)))
        have HG3 := Lib.hid (show g3 = gb ∨ w.heap.size ≤ g3 from k3.imp id fun q => Nat.le_trans (grown_trans HL2.out HGr.out).size q)
        have H3 := Lib.hid h3
        clear k1 k2 k3 c0 c1 c2 c3 c4
        obtain ⟨c0, c1, c2, c3, c4⟩ := h3.cells
        clear h3
        go_wp2_with fail
        refine (H3.out.dm.setWord fr i 0 HF.out HI.out ⟨by decide, by decide⟩).mono ?_
        rintro e w4 ⟨rfl, k1, k2⟩
        have h4 := H3.out.words k1 k2
        have HT4 := Lib.hid (HT3.out.trans' (k2.mono (by simp +contextual)))
        have H4 := Lib.hid h4
        clear k1 k2 c0 c1 c2 c3 c4
        obtain ⟨c0, c1, c2, c3, c4⟩ := h4.cells
        have f4 := frozen_of_row w4 x 4 _ _ h4.map
        have HK := Lib.hid (h4.count (s.N - 1))
        clear h4
        go_wp2_with fail
        first | go_end0 | refine bodyPost_ret (results_none rfl _ _ _) rfl ?_
        rw [HS.out]
        exact ⟨rfl, g3, HK.out.1, HT4.out.trans' (HK.out.2.mono (by simp)), HG3.out⟩
theorem shrinkM_N (n : Nat) (s : MS) (f i : Int) : s.N - 1 ≤ (shrinkM n s f i).N ∧ (shrinkM n s f i).N ≤ s.N := by
  unfold shrinkM
  split
  · exact ⟨by omega, by omega⟩
  · split
    · show s.N - 1 ≤ s.N - 1 ∧ s.N - 1 ≤ s.N
      omega
    · exact ⟨by omega, by omega⟩
theorem tidyM_none {n : Nat} {s : MS} {r v : Int} (h : nxW n s.W r (indexOf v 2) = none) : tidyM n r v s = s := by unfold tidyM; rw [h]
theorem tidyM_some {n : Nat} {s : MS} {r v m : Int} (h : nxW n s.W r (indexOf v 2) = some m) : tidyM n r v s = shrinkM n (shrinkM n s m (indexOf v 1)) r (indexOf v 2) := by unfold tidyM; rw [h]

set_option maxRecDepth 100000 in
set_option maxHeartbeats 2000000 in
theorem dx_tidy (h : DX w0 w rb fb n R pb gb x a r s) (v : Int) (hr : 0 ≤ r ∧ r < n) (hN : -900000 ≤ s.N ∧ s.N ≤ 900000) :
    Calls Tryz.prog 42 #[.pointer (some ⟨x, 0, none⟩), .int .i64 v] w fun e w' => e = .returned (.tuple #[]) ∧ DXL w0 w w' rb fb n R pb gb x a r (tidyM n r v s) := by
  have HD := Lib.hid h
  obtain ⟨c0, c1, c2, c3, c4⟩ := h.cells
  have HI2 := Lib.hid (fun W => ref_index_ok v 2 W)
  have HI1 := Lib.hid (fun W => ref_index_ok v 1 W)
  have o2 := index_okX v 2
  have o1 := index_okX v 1
  cases hg : nxW n s.W r (indexOf v 2) with
  | none =>
    have HX := Lib.hid (dx_next h r (indexOf v 2))
    rw [hg] at HX
    rw [tidyM_none hg]
    generalize indexOf v 2 = i2 at *
    generalize indexOf v 1 = i1 at *
    clear h hg hN hr o2 o1
    go_enter Tryz.func42, Tryz.ntmps42
    go_wp2_with fail
    refine (HI2.out _).mono ?_
    rintro e w2 ⟨rfl, rfl⟩
    go_wp2_with fail
    refine (HI1.out _).mono ?_
    rintro e w2 ⟨rfl, rfl⟩
    go_wp2_with fail
    refine HX.out.mono ?_
    rintro e w2 ⟨rfl, g2⟩
    have HL := Lib.hid (HD.out.stay g2)
    clear g2
    go_wp2_with fail
    first | go_end0 | refine bodyPost_ret (results_none rfl _ _ _) rfl ?_
    exact ⟨rfl, HL.out⟩
  | some m =>
    have HX := Lib.hid (dx_next h r (indexOf v 2))
    rw [hg] at HX
    rw [tidyM_some hg]
    have hm := nx_lt hg
    have hm0 := hm.1
    have hn := shrinkM_N n s m (indexOf v 1)
    generalize indexOf v 2 = i2 at *
    generalize indexOf v 1 = i1 at *
    have HO1 := Lib.hid o1
    have HO2 := Lib.hid o2
    have HM := Lib.hid hm
    have HR := Lib.hid hr
    have HN := Lib.hid hN
    have HNn := Lib.hid hn
    clear h hg hN hr o2 o1 hm hn
    go_enter Tryz.func42, Tryz.ntmps42
    go_wp2_with fail
    refine (HI2.out _).mono ?_
    rintro e w2 ⟨rfl, rfl⟩
    go_wp2_with fail
    refine (HI1.out _).mono ?_
    rintro e w2 ⟨rfl, rfl⟩
    go_wp2_with fail
    refine HX.out.mono ?_
    rintro e w2 ⟨rfl, g2⟩
    have H2 := Lib.hid (HD.out.grow g2)
    have HG2 := Lib.hid g2
    clear g2
    go_wp2_with fail
    refine (dx_shrink H2.out m i1 HM.out HO1.out (by have := HN.out; omega)).mono ?_
    rintro e w3 ⟨rfl, g3, k1, k2, k3⟩
    have H3 := Lib.hid k1
    have HT3 := Lib.hid ((Turn.grown (O := x :: pb :: R) HG2.out).trans' k2)
    have HG3 := Lib.hid (show g3 = gb ∨ _ ≤ g3 from k3.imp id fun q => Nat.le_trans HG2.out.size q)
    clear k2 k3 c0 c1 c2 c3 c4
    obtain ⟨c0, c1, c2, c3, c4⟩ := k1.cells
    clear k1
    go_wp2_with fail
    refine (dx_shrink H3.out r i2 HR.out HO2.out (by have := HN.out; have := HNn.out; omega)).mono ?_
    rintro e w4 ⟨rfl, g4, k1, k2, k3⟩
    have HL := Lib.hid (show DXL w0 _ w4 rb fb n R pb gb x a r (shrinkM n (shrinkM n s m i1) r i2) from ⟨g4, k1, HT3.out.trans' k2, k3.elim (fun e => e ▸ HG3.out) fun q => .inr (Nat.le_trans HT3.out.size q)⟩)
    clear k1 k2 k3
    go_wp2_with fail
    first | go_end0 | refine bodyPost_ret (results_none rfl _ _ _) rfl ?_
    exact ⟨rfl, HL.out⟩
end
end Go.Proofs.YtlieommbomjdaaaGreat

namespace Go.Proofs.YtlieommbomjdaaaGreat
open Go.ChangeShapes Go.WideShapes Go.ChangeAt Go.RowKit Go.Deep
set_option linter.unusedVariables false

theorem take_cases (xs : List FrV) (a l : Int) : takeF 0 xs 1 a l = ⟨0, 5, xs⟩ ∨ ∃ k : Nat, k < xs.length ∧ takeF 0 xs 1 a l = ⟨k, 0, xs.set k (tabF a l)⟩ := by
  have hc1 : isCls 1 := ⟨by decide, by decide⟩
  unfold takeF
  rw [if_neg (fun h => h hc1)]
  split
  · exact .inl rfl
  · cases hk : freeAt xs with
    | none => exact .inl rfl
    | some k =>
      obtain ⟨hk1, _⟩ := List.findIdx?_eq_some_iff_getElem.1 hk
      exact .inr ⟨k, hk1, rfl⟩
theorem okU_enc (F P : Int) : okU (encOf F P) := by unfold encOf okU; omega

section
variable {w0 w w' w2 : World} {rb fb n pb gb x : Nat} {R : List Nat} {a r : Int} {s t : MS} {W : WoF} {xs : List FrV}

set_option maxHeartbeats 2000000 in
theorem dm_new_no (h : DM w0 w rb fb n R pb gb W xs) (ha : okI a) (k : Int) (hk : takeF 0 xs 1 a 0 = ⟨0, k, xs⟩) (hk0 : k ≠ 0) :
    Calls Tryz.prog 10 #[.pointer (some ⟨rb, 0, none⟩), .pointer (some ⟨pb, 0, none⟩), .int .i64 a] w fun e w' => e = .returned (.tuple #[.pointer none, .int .i64 k]) ∧ DLeft w0 w w' rb fb n R pb gb W xs := by
  have hT := h.take a 0 ha ⟨by decide, by decide⟩
  rw [hk] at hT
  have HT := Lib.hid hT
  have b0 : (k != 0) = true := by simpa using hk0
  clear h hT hk
  go_enter Tryz.func10, Tryz.ntmps10
  go_wp2_with fail
  refine HT.out.mono ?_
  rintro e w2 ⟨rfl, k1⟩
  have HL := Lib.hid k1
  clear k1
  go_wp2_with fail
  go_ret2
  exact ⟨rfl, HL.out⟩

set_option maxHeartbeats 2000000 in
theorem dm_new_ok (h : DM w0 w rb fb n R pb gb W xs) (ha : okI a) (k : Nat) (hkn : k < n) (zs : List FrV) (hk : takeF 0 xs 1 a 0 = ⟨k, 0, zs⟩) :
    Calls Tryz.prog 10 #[.pointer (some ⟨rb, 0, none⟩), .pointer (some ⟨pb, 0, none⟩), .int .i64 a] w fun e w' =>
      ∃ x gb', e = .returned (.tuple #[.pointer (some ⟨x, 0, none⟩), .int .i64 0]) ∧ DX w0 w' rb fb n R pb gb' x a k ⟨zeroW W k, zs, 1⟩ ∧ Turn (pb :: R) w w' ∧ w.heap.size ≤ x ∧ (gb' = gb ∨ w.heap.size ≤ gb') := by
  have hT := h.take a 0 ha ⟨by decide, by decide⟩
  rw [hk] at hT
  have HT := Lib.hid hT
  have HKZ := Lib.hid (show (0 : Int) ≤ k ∧ (k : Int) < n from ⟨by omega, by omega⟩)
  clear h hT hk ha
  obtain ⟨K, hK⟩ : ∃ K : Int, (k : Int) = K := ⟨_, rfl⟩
  rw [hK] at HT HKZ
  rw [hK]
  go_enter Tryz.func10, Tryz.ntmps10
  go_wp2_with fail
  refine HT.out.mono ?_
  rintro e w2 ⟨rfl, g2, k1, k2, k3⟩
  have H2 := Lib.hid k1
  have HT2 := Lib.hid k2
  have HG2 := Lib.hid k3
  clear k1 k2 k3
  go_wp2_with fail
  refine (H2.out.zero K HKZ.out).mono ?_
  rintro e w3 ⟨rfl, k1, k2⟩
  have g3 := World.grownBy_alloc w3 (.cells #[.pointer (some ⟨rb, 0, none⟩), .pointer (some ⟨pb, 0, none⟩), .int .i64 a, .int .i64 K, .int .i64 1] 57 (0, 0)) none
  have hm := heap_alloc_new w3 (.cells #[.pointer (some ⟨rb, 0, none⟩), .pointer (some ⟨pb, 0, none⟩), .int .i64 a, .int .i64 K, .int .i64 1] 57 (0, 0))
  have hlt := k1.lt
  have hsz : w.heap.size ≤ w3.heap.size := Nat.le_trans HT2.out.size k2.size
  have hw0 : w0.heap.size ≤ w3.heap.size := by have := k1.pge; have := hlt pb (by simp); omega
  have HX := Lib.hid (show DX w0 (w3.alloc (.cells #[.pointer (some ⟨rb, 0, none⟩), .pointer (some ⟨pb, 0, none⟩), .int .i64 a, .int .i64 K, .int .i64 1] 57 (0, 0))) rb fb n R pb g2 w3.heap.size a K ⟨zeroW W K, zs, 1⟩ from
    ⟨k1.grow g3, hm, hw0, fun e => by have := hlt _ e; omega⟩)
  have HT3 := Lib.hid (show Turn (pb :: R) w (w3.alloc (.cells #[.pointer (some ⟨rb, 0, none⟩), .pointer (some ⟨pb, 0, none⟩), .int .i64 a, .int .i64 K, .int .i64 1] 57 (0, 0))) from
    ((HT2.out.mono (by simp)).trans' (k2.mono (by simp +contextual))).trans' (Turn.grown g3))
  have HSZ := Lib.hid hsz
  clear k1 k2 g3 hm hlt hsz hw0
  go_wp2_with fail
  go_ret2
  exact ⟨_, g2, rfl, HX.out, HT3.out, HSZ.out, HG2.out⟩

-- ENTER (by genmref4.py)
theorem enter1_cases (n : Nat) (a r v X : Int) (s : MS) (hn : s.xs.length = n) :
    (∃ k, k ≠ 0 ∧ takeF 0 s.xs 1 a 1 = ⟨0, k, s.xs⟩ ∧ nxW n s.W r (indexOf v 2) = none ∧ enter1 n a r v X s = (k, s)) ∨
    (∃ k : Nat, k < n ∧ ∃ zs, takeF 0 s.xs 1 a 1 = ⟨k, 0, zs⟩ ∧ nxW n s.W r (indexOf v 2) = none ∧ enter1 n a r v X s = enter2 n a r v X (growM s ⟨k, 0, zs⟩ r (indexOf v 2)) k) ∨
    (∃ m, nxW n s.W r (indexOf v 2) = some m ∧ enter1 n a r v X s = enter2 n a r v X s m) := by
  cases hg : nxW n s.W r (indexOf v 2) with
  | some m => exact .inr (.inr ⟨m, rfl, by unfold enter1; rw [hg]⟩)
  | none =>
    rcases take_cases s.xs a 1 with e | ⟨k, hk, e⟩
    · refine .inl ⟨5, by decide, e, rfl, ?_⟩
      unfold enter1
      rw [hg, e]
      exact if_neg (by show ¬ ((5 : Int) = 0); decide)
    · refine .inr (.inl ⟨k, by rw [← hn]; exact hk, _, e, rfl, ?_⟩)
      unfold enter1
      rw [hg, e]
      exact if_pos rfl
theorem enter2_cases (n : Nat) (a r v X : Int) (s : MS) (m : Int) (hn : s.xs.length = n) :
    (∃ l, nxW n s.W m (indexOf v 1) = some l ∧ enter2 n a r v X s m = (0, leafM s l v X)) ∨
    (∃ k, k ≠ 0 ∧ nxW n s.W m (indexOf v 1) = none ∧ takeF 0 s.xs 1 a 2 = ⟨0, k, s.xs⟩ ∧ enter2 n a r v X s m = (k, tidyM n r v s)) ∨
    (∃ k : Nat, k < n ∧ ∃ zs, nxW n s.W m (indexOf v 1) = none ∧ takeF 0 s.xs 1 a 2 = ⟨k, 0, zs⟩ ∧ enter2 n a r v X s m = (0, leafM (growM s ⟨k, 0, zs⟩ m (indexOf v 1)) k v X)) := by
  cases hg : nxW n s.W m (indexOf v 1) with
  | some l => exact .inl ⟨l, rfl, by unfold enter2; rw [hg]⟩
  | none =>
    rcases take_cases s.xs a 2 with e | ⟨k, hk, e⟩
    · refine .inr (.inl ⟨5, by decide, rfl, e, ?_⟩)
      unfold enter2
      rw [hg, e]
      exact if_neg (by show ¬ ((5 : Int) = 0); decide)
    · refine .inr (.inr ⟨k, by rw [← hn]; exact hk, _, rfl, e, ?_⟩)
      unfold enter2
      rw [hg, e]
      exact if_pos rfl

set_option maxRecDepth 100000 in
set_option maxHeartbeats 4000000 in
theorem dx_enter_ok (h : DX w0 w rb fb n R pb gb x a r s) (ha : okI a) (v fr p : Int) (hr : 0 ≤ r ∧ r < n) (hN : 0 ≤ s.N ∧ s.N ≤ 1000) (hv : 0 ≤ v ∧ v < 67108864) (hp : 1 ≤ p ∧ p ≤ 7) (hfr : 0 ≤ fr ∧ fr < n) :
    Calls Tryz.prog 12 #[.pointer (some ⟨x, 0, none⟩), .int .i64 v, .int .i64 fr, .int .i64 p] w fun e w' => e = .returned (.int .i64 (enter1 n a r v (encOf (flagsOf p true) fr) s).1) ∧ DXL w0 w w' rb fb n R pb gb x a r (enter1 n a r v (encOf (flagsOf p true) fr) s).2 := by
  have HD := Lib.hid h
  obtain ⟨c0, c1, c2, c3, c4⟩ := h.cells
  have HI2 := Lib.hid (fun W => ref_index_ok v 2 W)
  have HI1 := Lib.hid (fun W => ref_index_ok v 1 W)
  have HI0 := Lib.hid (fun W => ref_index_ok v 0 W)
  have HO2 := Lib.hid (index_okX v 2)
  have HO1 := Lib.hid (index_okX v 1)
  have HO0 := Lib.hid (index_okX v 0)
  have HFl := Lib.hid (fun W => ref_flags_ok p true W)
  have HEn := Lib.hid (fun W => ref_encode_ok (flagsOf p true) fr W)
  have HU := Lib.hid (okU_enc (flagsOf p true) fr)
  have HIs := Lib.hid (h.dm.is fr true (decide_eq_true hfr))
  have HA := Lib.hid ha
  have HR := Lib.hid hr
  have HN := Lib.hid hN
  have d0 : decide (v < 0) = false := by simp; omega
  have d1 : decide (v ≥ 67108864) = false := by simp; omega
  have d2 : decide (p < 1) = false := by simp; omega
  have d3 : decide (p > 7) = false := by simp; omega
  have hnx := dx_next h r (indexOf v 2)
  have hfirst := enter1_cases n a r v (encOf (flagsOf p true) fr) s h.dm.num
  generalize hFLe : flagsOf p true = FL at *
  generalize hXe : encOf FL fr = X at *
  generalize hi2 : indexOf v 2 = i2 at *
  obtain ⟨i1, hi1⟩ : ∃ i1, indexOf v 1 = i1 := ⟨_, rfl⟩
  obtain ⟨i0, hi0⟩ : ∃ i0, indexOf v 0 = i0 := ⟨_, rfl⟩
  rw [hi1] at HI1 HO1
  rw [hi0] at HI0 HO0
  rcases hfirst with ⟨k, hk0, hk, hg, he⟩ | ⟨k, hkn, zs, hk, hg, he⟩ | ⟨m, hg, he⟩
  · -- no frame for the middle table
    rw [he]
    rw [hg] at hnx
    have HX := Lib.hid hnx
    have b0 : (k != 0) = true := by simpa using hk0
    have HK := Lib.hid hk
    have HK0 := Lib.hid hk0
    clear h ha hr hN hv hp hfr hnx hk hk0 hg he hFLe hXe hi2 hi1 hi0
    go_enter Tryz.func12, Tryz.ntmps12
    go_wp2_with fail
    refine HIs.out.mono ?_
    rintro e w2 ⟨rfl, e2⟩
    subst w2
    go_wp2_with fail
    refine (HI2.out _).mono ?_
    rintro e w2 ⟨rfl, e2⟩
    subst w2
    go_wp2_with fail
    refine (HI1.out _).mono ?_
    rintro e w2 ⟨rfl, e2⟩
    subst w2
    go_wp2_with fail
    refine (HI0.out _).mono ?_
    rintro e w2 ⟨rfl, e2⟩
    subst w2
    go_wp2_with fail
    refine HX.out.mono ?_
    rintro e w2 ⟨rfl, g2⟩
    have H2 := Lib.hid (HD.out.grow g2)
    have HG2 := Lib.hid g2
    clear c0 c1 c2 c3 c4 g2
    obtain ⟨c0, c1, c2, c3, c4⟩ := H2.out.cells
    go_wp2_with fail
    refine (dx_grow_no H2.out r i2 1 HA.out ⟨by decide, by decide⟩ k HK.out HK0.out).mono ?_
    rintro e w3 ⟨rfl, g3, k1, k2, k3⟩
    have HL := Lib.hid (show DXL w0 w w3 rb fb n R pb gb x a r s from ⟨g3, k1, (Turn.grown HG2.out).trans' k2, k3.imp id fun q => Nat.le_trans HG2.out.size q⟩)
    clear k1 k2 k3
    go_wp2_with fail
    go_ret
    exact ⟨rfl, HL.out⟩
  · -- a new middle table
    rw [hg] at hnx
    have HX := Lib.hid hnx
    have HE := Lib.hid he
    have HK := Lib.hid hk
    have HKN := Lib.hid hkn
    clear h ha hr hN hv hp hfr hnx hk hkn hg he hFLe hXe hi2
    have Hi1 := Lib.hid hi1
    have Hi0 := Lib.hid hi0
    clear hi1 hi0
    go_enter Tryz.func12, Tryz.ntmps12
    go_wp2_with fail
    refine HIs.out.mono ?_
    rintro e w2 ⟨rfl, e2⟩
    subst w2
    go_wp2_with fail
    refine (HI2.out _).mono ?_
    rintro e w2 ⟨rfl, e2⟩
    subst w2
    go_wp2_with fail
    refine (HI1.out _).mono ?_
    rintro e w2 ⟨rfl, e2⟩
    subst w2
    go_wp2_with fail
    refine (HI0.out _).mono ?_
    rintro e w2 ⟨rfl, e2⟩
    subst w2
    go_wp2_with fail
    refine HX.out.mono ?_
    rintro e w2 ⟨rfl, g2⟩
    have H2 := Lib.hid (HD.out.grow g2)
    have HG2 := Lib.hid g2
    clear c0 c1 c2 c3 c4 g2
    obtain ⟨c0, c1, c2, c3, c4⟩ := H2.out.cells
    go_wp2_with fail
    refine (dx_grow_ok H2.out r i2 1 HA.out ⟨by decide, by decide⟩ k HKN.out zs HK.out HR.out HO2.out (by have := HN.out; omega)).mono ?_
    rintro e wm ⟨rfl, gm, q1, q2, q3⟩
    have HMm := Lib.hid (show (0 : Int) ≤ k ∧ (k : Int) < n from ⟨by omega, by have := HKN.out; omega⟩)
    have hNm : (growM s ⟨k, 0, zs⟩ r i2).N = s.N + 1 := rfl
    obtain ⟨sm, hsm⟩ : ∃ sm, growM s ⟨(k : Int), 0, zs⟩ r i2 = sm := ⟨_, rfl⟩
    obtain ⟨m, hm⟩ : ∃ m : Int, (k : Int) = m := ⟨_, rfl⟩
    have HNm := Lib.hid (show 0 ≤ sm.N ∧ sm.N ≤ 1001 by rw [← hsm, hNm]; have := HN.out; omega)
    have HDm := Lib.hid (show DX w0 wm rb fb n R pb gm x a r sm from hsm ▸ q1)
    have HTm := Lib.hid ((Turn.grown (O := x :: pb :: R) HG2.out).trans' q2)
    have HGm := Lib.hid (show gm = gb ∨ w.heap.size ≤ gm from q3.imp id fun q => Nat.le_trans HG2.out.size q)
    rw [hsm, hm] at HE
    rw [hm] at HMm
    rw [hm]
    clear q1 q2 q3 hsm hm hNm c0 c1 c2 c3 c4 HK HKN HX H2 HG2
    have hi1 := Hi1.out
    have hi0 := Hi0.out
    obtain ⟨c0, c1, c2, c3, c4⟩ := HDm.out.cells
    go_wp2_with fail
    clear c0 c1 c2 c3 c4
    -- the table of level 0
    obtain ⟨c0, c1, c2, c3, c4⟩ := HDm.out.cells
    have hnx2 := dx_next HDm.out m i1
    rcases enter2_cases n a r v X sm m HDm.out.dm.num with ⟨l, hg2, he2⟩ | ⟨k2, hk20, hg2, hk2, he2⟩ | ⟨k2, hk2n, zs2, hg2, hk2, he2⟩
    · rw [hi1] at hg2
      rw [hg2] at hnx2
      have HX2 := Lib.hid hnx2
      have hl := nx_lt hg2
      have hl0 := hl.1
      have HLl := Lib.hid hl
      have hlm : (enter1 n a r v X s) = (0, ⟨updW sm.W l i0 X, sm.xs, sm.N⟩) := by rw [HE.out, he2]; unfold leafM; rw [hi0]
      have HLM := Lib.hid hlm
      clear hg2 he2 hnx2 hl hlm
      go_wp2_with fail
      refine HX2.out.mono ?_
      rintro e wl ⟨rfl, g3⟩
      obtain ⟨sl, hsl⟩ : ∃ sl, sl = sm := ⟨_, rfl⟩
      obtain ⟨gl, hgl⟩ : ∃ gl, gl = gm := ⟨_, rfl⟩
      have HDl := Lib.hid (show DX w0 wl rb fb n R pb gl x a r sl from hgl ▸ hsl ▸ HDm.out.grow g3)
      have HTl := Lib.hid (HTm.out.trans' (Turn.grown g3))
      have HGl := Lib.hid (show gl = gb ∨ w.heap.size ≤ gl from hgl ▸ HGm.out)
      rw [← hsl] at HLM
      clear g3 hsl hgl c0 c1 c2 c3 c4
      obtain ⟨c0, c1, c2, c3, c4⟩ := HDl.out.cells
      go_wp2_with fail
      -- the leaf's word
      have HF := Lib.hid (show DX w0 wl.drew rb fb n R pb gl x a r sl ∧ Turn (x :: pb :: R) w wl.drew ∧ (gl = gb ∨ w.heap.size ≤ gl) from ⟨HDl.out.grow (grown_drew1 _), HTl.out.trans' (Turn.grown (grown_drew1 _)), HGl.out⟩)
      have hc := HF.out.1.cells.1
      clear c0 c1 c2 c3 c4
      go_region_held3 (fun W => W.cell? ⟨x, 0, none⟩ = some (.pointer (some ⟨rb, 0, none⟩))) (with_reducible exact hc)
        (first
          | (go_at_call 45; (with_reducible refine ((HFl.out _).mono ?_)); rintro e w5 ⟨rfl, e2⟩; subst w5)
          | (go_at_call 44; (with_reducible refine ((HEn.out _).mono ?_)); rintro e w6 ⟨rfl, h6⟩; replace HF := Lib.hid (show DX w0 w6 rb fb n R pb gl x a r sl ∧ Turn (x :: pb :: R) w w6 ∧ (gl = gb ∨ w.heap.size ≤ gl) from ⟨HF.out.1.grow (grown_of_below' h6), HF.out.2.1.trans' (Turn.grown (grown_of_below' h6)), HF.out.2.2⟩); replace hc := HF.out.1.cells.1; clear h6)
          | (go_at_call 43; (with_reducible refine ((HF.out.1.dm.setWord l i0 X HLl.out HO0.out HU.out).mono ?_)); rintro e w7 ⟨rfl, k1, k2⟩; have hD7 := HF.out.1.words k1 k2; replace hc := hD7.cells.1; have HL7 := Lib.hid (show DXL w0 w w7 rb fb n R pb gb x a r ⟨updW sl.W l i0 X, sl.xs, sl.N⟩ from ⟨gl, hD7, HF.out.2.1.trans' (k2.mono (by simp +contextual)), HF.out.2.2⟩); clear k1 k2 hD7))
      all_goals
        clear hc
        go_wp2_with fail
        go_ret
        rw [HLM.out]
        exact ⟨rfl, HL7.out⟩
    · rw [hi1] at hg2
      rw [hg2] at hnx2
      have HX2 := Lib.hid hnx2
      have HE2 := Lib.hid (HE.out.trans he2)
      have HK2 := Lib.hid hk2
      have HK20 := Lib.hid hk20
      have b2 : (k2 != 0) = true := by simpa using hk20
      clear hg2 he2 hnx2 hk2 hk20
      go_wp2_with fail
      refine HX2.out.mono ?_
      rintro e w3 ⟨rfl, g3⟩
      have H3 := Lib.hid (HDm.out.grow g3)
      have HT3 := Lib.hid (HTm.out.trans' (Turn.grown g3))
      clear g3 c0 c1 c2 c3 c4
      obtain ⟨c0, c1, c2, c3, c4⟩ := H3.out.cells
      go_wp2_with fail
      refine (dx_grow_no H3.out m i1 2 HA.out ⟨by decide, by decide⟩ k2 HK2.out HK20.out).mono ?_
      rintro e w4 ⟨rfl, g4, q1, q2, q3⟩
      have H4 := Lib.hid (show DX w0 w4 rb fb n R pb g4 x a r sm ∧ Turn (x :: pb :: R) w w4 ∧ (g4 = gb ∨ w.heap.size ≤ g4) from ⟨q1, HT3.out.trans' q2, q3.elim (fun e => e ▸ HGm.out) fun q => .inr (Nat.le_trans HT3.out.size q)⟩)
      clear q1 q2 q3 c0 c1 c2 c3 c4
      obtain ⟨c0, c1, c2, c3, c4⟩ := H4.out.1.cells
      go_wp2_with fail
      refine (dx_tidy H4.out.1 v HR.out (by have := HNm.out; omega)).mono ?_
      rintro e w5 ⟨rfl, g5, q1, q2, q3⟩
      have HL := Lib.hid (show DXL w0 w w5 rb fb n R pb gb x a r (tidyM n r v sm) from ⟨g5, q1, H4.out.2.1.trans' q2, q3.elim (fun e => e ▸ H4.out.2.2) fun q => .inr (Nat.le_trans H4.out.2.1.size q)⟩)
      clear q1 q2 q3
      go_wp2_with fail
      go_ret
      rw [HE2.out]
      exact ⟨rfl, HL.out⟩
    · rw [hi1] at hg2
      rw [hg2] at hnx2
      have HX2 := Lib.hid hnx2
      have HK2 := Lib.hid hk2
      have HK2N := Lib.hid hk2n
      have hlm : (enter1 n a r v X s) = (0, ⟨updW (growM sm ⟨k2, 0, zs2⟩ m i1).W k2 i0 X, (growM sm ⟨k2, 0, zs2⟩ m i1).xs, (growM sm ⟨k2, 0, zs2⟩ m i1).N⟩) := by rw [HE.out, he2, hi1]; unfold leafM; rw [hi0]
      have HLM := Lib.hid hlm
      clear hg2 he2 hnx2 hk2 hk2n hlm
      go_wp2_with fail
      refine HX2.out.mono ?_
      rintro e w3 ⟨rfl, g3⟩
      have H3 := Lib.hid (HDm.out.grow g3)
      have HT3 := Lib.hid (HTm.out.trans' (Turn.grown g3))
      clear g3 c0 c1 c2 c3 c4
      obtain ⟨c0, c1, c2, c3, c4⟩ := H3.out.cells
      go_wp2_with fail
      refine (dx_grow_ok H3.out m i1 2 HA.out ⟨by decide, by decide⟩ k2 HK2N.out zs2 HK2.out HMm.out HO1.out (by have := HNm.out; omega)).mono ?_
      rintro e wl ⟨rfl, gl, q1, q2, q3⟩
      have HLl := Lib.hid (show (0 : Int) ≤ k2 ∧ (k2 : Int) < n from ⟨by omega, by have := HK2N.out; omega⟩)
      obtain ⟨l, hl⟩ : ∃ l : Int, (k2 : Int) = l := ⟨_, rfl⟩
      obtain ⟨sl, hsl⟩ : ∃ sl, growM sm ⟨(k2 : Int), 0, zs2⟩ m i1 = sl := ⟨_, rfl⟩
      have HDl := Lib.hid (show DX w0 wl rb fb n R pb gl x a r sl from hsl ▸ q1)
      have HTl := Lib.hid (HT3.out.trans' q2)
      have HGl := Lib.hid (show gl = gb ∨ w.heap.size ≤ gl from q3.elim (fun e => e ▸ HGm.out) fun q => .inr (Nat.le_trans HT3.out.size q))
      rw [hsl] at HLM
      rw [hl] at HLM HLl
      rw [hl]
      clear q1 q2 q3 hsl hl c0 c1 c2 c3 c4
      obtain ⟨c0, c1, c2, c3, c4⟩ := HDl.out.cells
      go_wp2_with fail
      -- the leaf's word
      have HF := Lib.hid (show DX w0 wl.drew rb fb n R pb gl x a r sl ∧ Turn (x :: pb :: R) w wl.drew ∧ (gl = gb ∨ w.heap.size ≤ gl) from ⟨HDl.out.grow (grown_drew1 _), HTl.out.trans' (Turn.grown (grown_drew1 _)), HGl.out⟩)
      have hc := HF.out.1.cells.1
      clear c0 c1 c2 c3 c4
      go_region_held3 (fun W => W.cell? ⟨x, 0, none⟩ = some (.pointer (some ⟨rb, 0, none⟩))) (with_reducible exact hc)
        (first
          | (go_at_call 45; (with_reducible refine ((HFl.out _).mono ?_)); rintro e w5 ⟨rfl, e2⟩; subst w5)
          | (go_at_call 44; (with_reducible refine ((HEn.out _).mono ?_)); rintro e w6 ⟨rfl, h6⟩; replace HF := Lib.hid (show DX w0 w6 rb fb n R pb gl x a r sl ∧ Turn (x :: pb :: R) w w6 ∧ (gl = gb ∨ w.heap.size ≤ gl) from ⟨HF.out.1.grow (grown_of_below' h6), HF.out.2.1.trans' (Turn.grown (grown_of_below' h6)), HF.out.2.2⟩); replace hc := HF.out.1.cells.1; clear h6)
          | (go_at_call 43; (with_reducible refine ((HF.out.1.dm.setWord l i0 X HLl.out HO0.out HU.out).mono ?_)); rintro e w7 ⟨rfl, k1, k2⟩; have hD7 := HF.out.1.words k1 k2; replace hc := hD7.cells.1; have HL7 := Lib.hid (show DXL w0 w w7 rb fb n R pb gb x a r ⟨updW sl.W l i0 X, sl.xs, sl.N⟩ from ⟨gl, hD7, HF.out.2.1.trans' (k2.mono (by simp +contextual)), HF.out.2.2⟩); clear k1 k2 hD7))
      all_goals
        clear hc
        go_wp2_with fail
        go_ret
        rw [HLM.out]
        exact ⟨rfl, HL7.out⟩
  · -- the middle table is there
    rw [hg] at hnx
    have HX := Lib.hid hnx
    have HE := Lib.hid he
    have hmm := nx_lt hg
    have hm0 := hmm.1
    have HMm := Lib.hid hmm
    clear h ha hr hN hv hp hfr hnx hg he hFLe hXe hi2 hmm
    have Hi1 := Lib.hid hi1
    have Hi0 := Lib.hid hi0
    clear hi1 hi0
    go_enter Tryz.func12, Tryz.ntmps12
    go_wp2_with fail
    refine HIs.out.mono ?_
    rintro e w2 ⟨rfl, e2⟩
    subst w2
    go_wp2_with fail
    refine (HI2.out _).mono ?_
    rintro e w2 ⟨rfl, e2⟩
    subst w2
    go_wp2_with fail
    refine (HI1.out _).mono ?_
    rintro e w2 ⟨rfl, e2⟩
    subst w2
    go_wp2_with fail
    refine (HI0.out _).mono ?_
    rintro e w2 ⟨rfl, e2⟩
    subst w2
    go_wp2_with fail
    refine HX.out.mono ?_
    rintro e wm ⟨rfl, gw⟩
    obtain ⟨sm, hsm⟩ : ∃ sm, s = sm := ⟨_, rfl⟩
    obtain ⟨gm, hgm⟩ : ∃ gm, gb = gm := ⟨_, rfl⟩
    have HNm := Lib.hid (show 0 ≤ sm.N ∧ sm.N ≤ 1001 by rw [← hsm]; have := HN.out; omega)
    have HDm := Lib.hid (show DX w0 wm rb fb n R pb gm x a r sm from hgm ▸ hsm ▸ HD.out.grow gw)
    have HTm := Lib.hid (Turn.grown (O := x :: pb :: R) gw)
    have HGm := Lib.hid (show gm = gb ∨ w.heap.size ≤ gm from .inl hgm.symm)
    replace HE := Lib.hid (show enter1 n a r v X s = enter2 n a r v X sm m from hsm ▸ HE.out)
    clear gw hsm hgm c0 c1 c2 c3 c4 HX
    have hi1 := Hi1.out
    have hi0 := Hi0.out
    obtain ⟨c0, c1, c2, c3, c4⟩ := HDm.out.cells
    go_wp2_with fail
    clear c0 c1 c2 c3 c4
    -- the table of level 0
    obtain ⟨c0, c1, c2, c3, c4⟩ := HDm.out.cells
    have hnx2 := dx_next HDm.out m i1
    rcases enter2_cases n a r v X sm m HDm.out.dm.num with ⟨l, hg2, he2⟩ | ⟨k2, hk20, hg2, hk2, he2⟩ | ⟨k2, hk2n, zs2, hg2, hk2, he2⟩
    · rw [hi1] at hg2
      rw [hg2] at hnx2
      have HX2 := Lib.hid hnx2
      have hl := nx_lt hg2
      have hl0 := hl.1
      have HLl := Lib.hid hl
      have hlm : (enter1 n a r v X s) = (0, ⟨updW sm.W l i0 X, sm.xs, sm.N⟩) := by rw [HE.out, he2]; unfold leafM; rw [hi0]
      have HLM := Lib.hid hlm
      clear hg2 he2 hnx2 hl hlm
      go_wp2_with fail
      refine HX2.out.mono ?_
      rintro e wl ⟨rfl, g3⟩
      obtain ⟨sl, hsl⟩ : ∃ sl, sl = sm := ⟨_, rfl⟩
      obtain ⟨gl, hgl⟩ : ∃ gl, gl = gm := ⟨_, rfl⟩
      have HDl := Lib.hid (show DX w0 wl rb fb n R pb gl x a r sl from hgl ▸ hsl ▸ HDm.out.grow g3)
      have HTl := Lib.hid (HTm.out.trans' (Turn.grown g3))
      have HGl := Lib.hid (show gl = gb ∨ w.heap.size ≤ gl from hgl ▸ HGm.out)
      rw [← hsl] at HLM
      clear g3 hsl hgl c0 c1 c2 c3 c4
      obtain ⟨c0, c1, c2, c3, c4⟩ := HDl.out.cells
      go_wp2_with fail
      -- the leaf's word
      have HF := Lib.hid (show DX w0 wl.drew rb fb n R pb gl x a r sl ∧ Turn (x :: pb :: R) w wl.drew ∧ (gl = gb ∨ w.heap.size ≤ gl) from ⟨HDl.out.grow (grown_drew1 _), HTl.out.trans' (Turn.grown (grown_drew1 _)), HGl.out⟩)
      have hc := HF.out.1.cells.1
      clear c0 c1 c2 c3 c4
      go_region_held3 (fun W => W.cell? ⟨x, 0, none⟩ = some (.pointer (some ⟨rb, 0, none⟩))) (with_reducible exact hc)
        (first
          | (go_at_call 45; (with_reducible refine ((HFl.out _).mono ?_)); rintro e w5 ⟨rfl, e2⟩; subst w5)
          | (go_at_call 44; (with_reducible refine ((HEn.out _).mono ?_)); rintro e w6 ⟨rfl, h6⟩; replace HF := Lib.hid (show DX w0 w6 rb fb n R pb gl x a r sl ∧ Turn (x :: pb :: R) w w6 ∧ (gl = gb ∨ w.heap.size ≤ gl) from ⟨HF.out.1.grow (grown_of_below' h6), HF.out.2.1.trans' (Turn.grown (grown_of_below' h6)), HF.out.2.2⟩); replace hc := HF.out.1.cells.1; clear h6)
          | (go_at_call 43; (with_reducible refine ((HF.out.1.dm.setWord l i0 X HLl.out HO0.out HU.out).mono ?_)); rintro e w7 ⟨rfl, k1, k2⟩; have hD7 := HF.out.1.words k1 k2; replace hc := hD7.cells.1; have HL7 := Lib.hid (show DXL w0 w w7 rb fb n R pb gb x a r ⟨updW sl.W l i0 X, sl.xs, sl.N⟩ from ⟨gl, hD7, HF.out.2.1.trans' (k2.mono (by simp +contextual)), HF.out.2.2⟩); clear k1 k2 hD7))
      all_goals
        clear hc
        go_wp2_with fail
        go_ret
        rw [HLM.out]
        exact ⟨rfl, HL7.out⟩
    · rw [hi1] at hg2
      rw [hg2] at hnx2
      have HX2 := Lib.hid hnx2
      have HE2 := Lib.hid (HE.out.trans he2)
      have HK2 := Lib.hid hk2
      have HK20 := Lib.hid hk20
      have b2 : (k2 != 0) = true := by simpa using hk20
      clear hg2 he2 hnx2 hk2 hk20
      go_wp2_with fail
      refine HX2.out.mono ?_
      rintro e w3 ⟨rfl, g3⟩
      have H3 := Lib.hid (HDm.out.grow g3)
      have HT3 := Lib.hid (HTm.out.trans' (Turn.grown g3))
      clear g3 c0 c1 c2 c3 c4
      obtain ⟨c0, c1, c2, c3, c4⟩ := H3.out.cells
      go_wp2_with fail
      refine (dx_grow_no H3.out m i1 2 HA.out ⟨by decide, by decide⟩ k2 HK2.out HK20.out).mono ?_
      rintro e w4 ⟨rfl, g4, q1, q2, q3⟩
      have H4 := Lib.hid (show DX w0 w4 rb fb n R pb g4 x a r sm ∧ Turn (x :: pb :: R) w w4 ∧ (g4 = gb ∨ w.heap.size ≤ g4) from ⟨q1, HT3.out.trans' q2, q3.elim (fun e => e ▸ HGm.out) fun q => .inr (Nat.le_trans HT3.out.size q)⟩)
      clear q1 q2 q3 c0 c1 c2 c3 c4
      obtain ⟨c0, c1, c2, c3, c4⟩ := H4.out.1.cells
      go_wp2_with fail
      refine (dx_tidy H4.out.1 v HR.out (by have := HNm.out; omega)).mono ?_
      rintro e w5 ⟨rfl, g5, q1, q2, q3⟩
      have HL := Lib.hid (show DXL w0 w w5 rb fb n R pb gb x a r (tidyM n r v sm) from ⟨g5, q1, H4.out.2.1.trans' q2, q3.elim (fun e => e ▸ H4.out.2.2) fun q => .inr (Nat.le_trans H4.out.2.1.size q)⟩)
      clear q1 q2 q3
      go_wp2_with fail
      go_ret
      rw [HE2.out]
      exact ⟨rfl, HL.out⟩
    · rw [hi1] at hg2
      rw [hg2] at hnx2
      have HX2 := Lib.hid hnx2
      have HK2 := Lib.hid hk2
      have HK2N := Lib.hid hk2n
      have hlm : (enter1 n a r v X s) = (0, ⟨updW (growM sm ⟨k2, 0, zs2⟩ m i1).W k2 i0 X, (growM sm ⟨k2, 0, zs2⟩ m i1).xs, (growM sm ⟨k2, 0, zs2⟩ m i1).N⟩) := by rw [HE.out, he2, hi1]; unfold leafM; rw [hi0]
      have HLM := Lib.hid hlm
      clear hg2 he2 hnx2 hk2 hk2n hlm
      go_wp2_with fail
      refine HX2.out.mono ?_
      rintro e w3 ⟨rfl, g3⟩
      have H3 := Lib.hid (HDm.out.grow g3)
      have HT3 := Lib.hid (HTm.out.trans' (Turn.grown g3))
      clear g3 c0 c1 c2 c3 c4
      obtain ⟨c0, c1, c2, c3, c4⟩ := H3.out.cells
      go_wp2_with fail
      refine (dx_grow_ok H3.out m i1 2 HA.out ⟨by decide, by decide⟩ k2 HK2N.out zs2 HK2.out HMm.out HO1.out (by have := HNm.out; omega)).mono ?_
      rintro e wl ⟨rfl, gl, q1, q2, q3⟩
      have HLl := Lib.hid (show (0 : Int) ≤ k2 ∧ (k2 : Int) < n from ⟨by omega, by have := HK2N.out; omega⟩)
      obtain ⟨l, hl⟩ : ∃ l : Int, (k2 : Int) = l := ⟨_, rfl⟩
      obtain ⟨sl, hsl⟩ : ∃ sl, growM sm ⟨(k2 : Int), 0, zs2⟩ m i1 = sl := ⟨_, rfl⟩
      have HDl := Lib.hid (show DX w0 wl rb fb n R pb gl x a r sl from hsl ▸ q1)
      have HTl := Lib.hid (HT3.out.trans' q2)
      have HGl := Lib.hid (show gl = gb ∨ w.heap.size ≤ gl from q3.elim (fun e => e ▸ HGm.out) fun q => .inr (Nat.le_trans HT3.out.size q))
      rw [hsl] at HLM
      rw [hl] at HLM HLl
      rw [hl]
      clear q1 q2 q3 hsl hl c0 c1 c2 c3 c4
      obtain ⟨c0, c1, c2, c3, c4⟩ := HDl.out.cells
      go_wp2_with fail
      -- the leaf's word
      have HF := Lib.hid (show DX w0 wl.drew rb fb n R pb gl x a r sl ∧ Turn (x :: pb :: R) w wl.drew ∧ (gl = gb ∨ w.heap.size ≤ gl) from ⟨HDl.out.grow (grown_drew1 _), HTl.out.trans' (Turn.grown (grown_drew1 _)), HGl.out⟩)
      have hc := HF.out.1.cells.1
      clear c0 c1 c2 c3 c4
      go_region_held3 (fun W => W.cell? ⟨x, 0, none⟩ = some (.pointer (some ⟨rb, 0, none⟩))) (with_reducible exact hc)
        (first
          | (go_at_call 45; (with_reducible refine ((HFl.out _).mono ?_)); rintro e w5 ⟨rfl, e2⟩; subst w5)
          | (go_at_call 44; (with_reducible refine ((HEn.out _).mono ?_)); rintro e w6 ⟨rfl, h6⟩; replace HF := Lib.hid (show DX w0 w6 rb fb n R pb gl x a r sl ∧ Turn (x :: pb :: R) w w6 ∧ (gl = gb ∨ w.heap.size ≤ gl) from ⟨HF.out.1.grow (grown_of_below' h6), HF.out.2.1.trans' (Turn.grown (grown_of_below' h6)), HF.out.2.2⟩); replace hc := HF.out.1.cells.1; clear h6)
          | (go_at_call 43; (with_reducible refine ((HF.out.1.dm.setWord l i0 X HLl.out HO0.out HU.out).mono ?_)); rintro e w7 ⟨rfl, k1, k2⟩; have hD7 := HF.out.1.words k1 k2; replace hc := hD7.cells.1; have HL7 := Lib.hid (show DXL w0 w w7 rb fb n R pb gb x a r ⟨updW sl.W l i0 X, sl.xs, sl.N⟩ from ⟨gl, hD7, HF.out.2.1.trans' (k2.mono (by simp +contextual)), HF.out.2.2⟩); clear k1 k2 hD7))
      all_goals
        clear hc
        go_wp2_with fail
        go_ret
        rw [HLM.out]
        exact ⟨rfl, HL7.out⟩
end
end Go.Proofs.YtlieommbomjdaaaGreat

namespace Go.Proofs.YtlieommbomjdaaaGreat
open Go.ChangeShapes Go.WideShapes Go.ChangeAt Go.RowKit Go.Deep
set_option linter.unusedVariables false

section
variable {w0 w w' w2 : World} {rb fb n pb gb x : Nat} {R : List Nat} {a r : Int} {s t : MS}

theorem EntB.frozen {w : World} {y : Nat} {A B : Int} (h : EntB w y A B) : w.frozen? ⟨y, 0, none⟩ = false ∧ w.frozen? ⟨y, 1, none⟩ = false := ⟨frozen_of_row _ _ _ _ _ h, frozen_of_row _ _ _ _ _ h⟩

theorem dx_look (h : DX w0 w rb fb n R pb gb x a r s) (v : Int) : Calls Tryz.prog 51 #[.pointer (some ⟨rb, 0, none⟩), .int .i64 r, .int .i64 v] w fun e w' =>
    e = .returned (match placeW n s.W r v with | none => .tuple #[.agg #[.int .i64 0, .int .i64 0], .bool false] | some f => .tuple #[.agg #[.int .i64 (flagOf (s.W f (indexOf v 0))), .int .i64 (ppnOf (s.W f (indexOf v 0)))], .bool true]) ∧ w.grownBy w' none := by
  obtain ⟨⟨⟨L, c, h1, h2, h3⟩, _⟩, hm, _⟩ := h
  rw [← h2, ← place_words]
  refine (ref_look h1 r v).mono ?_
  rintro e w' ⟨rfl, g⟩
  refine ⟨?_, g⟩
  cases placeOf n L r v <;> rfl

/-- What Find answers. -/
def findV (o : Option (Int × Int)) : Value :=
  match o with
  | none => .tuple #[.agg #[.int .i64 0, .int .i64 0], .bool false]
  | some (A, B) => .tuple #[.agg #[.int .i64 A, .int .i64 B], .bool true]

set_option maxHeartbeats 4000000 in
theorem dx_find_at (h : DX w0 w rb fb n R pb gb x a r s) (v : Int) (A B : Int) (ok : Bool) (d : Bool) (hk : decide (kindOf A = 2) = d) (hp : ∀ W, w.grownBy W none → Calls Tryz.prog 51 #[.pointer (some ⟨rb, 0, none⟩), .int .i64 r, .int .i64 v] W fun e w' => e = .returned (.tuple #[.agg #[.int .i64 A, .int .i64 B], .bool ok]) ∧ W.grownBy w' none) :
    Calls Tryz.prog 20 #[.pointer (some ⟨x, 0, none⟩), .int .i64 v] w fun e w' => e = .returned (findV (if ok && d then some (A, B) else none)) ∧ w.grownBy w' none := by
  have ga := World.grownBy_alloc w (.cells #[.int .i64 0, .int .i64 0] 52 (0, 0)) none
  have hA := h.grow ga
  have HP := Lib.hid hp
  have HRs := Lib.hid (show EntB _ w.heap.size 0 0 from heap_alloc_new w _)
  have HG := Lib.hid ga
  generalize hwA : w.alloc (.cells #[.int .i64 0, .int .i64 0] 52 (0, 0)) = wA at *
  have HS := Lib.hid (show ∀ W, wA.grownBy W none → W.cell? ⟨x, 0, none⟩ = some (.pointer (some ⟨rb, 0, none⟩)) ∧ W.cell? ⟨x, 3, none⟩ = some (.int .i64 r) from fun W g => ⟨(hA.grow g).cells.1, (hA.grow g).cells.2.2.2.1⟩)
  have hc0 := HS.out _ (grown_drew1 wA)
  have gC := Lib.hid (grown_drew1 wA)
  have gA := Lib.hid (show wA.grownBy (wA.alloc (.cells #[.int .i64 0, .int .i64 0] 52 (0, 0))).drew none from grown_trans (World.grownBy_alloc wA (.cells #[.int .i64 0, .int .i64 0] 52 (0, 0)) none) (grown_drew1 _))
  have HN := Lib.hid (show EntB (wA.alloc (.cells #[.int .i64 0, .int .i64 0] 52 (0, 0))).drew wA.heap.size 0 0 from heap_alloc_new wA _)
  have HK2 := Lib.hid (show ∀ W, wA.grownBy W none → ((W.setCell ⟨wA.heap.size, 0, none⟩ (.int .i64 A)).setCell ⟨wA.heap.size, 1, none⟩ (.int .i64 B)).cell? ⟨x, 0, none⟩ = some (.pointer (some ⟨rb, 0, none⟩)) ∧ ((W.setCell ⟨wA.heap.size, 0, none⟩ (.int .i64 A)).setCell ⟨wA.heap.size, 1, none⟩ (.int .i64 B)).cell? ⟨x, 3, none⟩ = some (.int .i64 r) from fun W g => HS.out _ (grown_at (grown_at g (grown_set _ _ _ _) (Nat.le_refl _)) (grown_set _ _ _ _) (Nat.le_refl _)))
  have HK0 := Lib.hid (fun W => ref_kind_ok A B W)
  have HRw := Lib.hid (show EntB wA w.heap.size 0 0 from hwA ▸ HRs.out)
  have HKd := Lib.hid hk
  clear h hA hp ga hk HRs
  go_enter Tryz.func20, Tryz.ntmps20
  go_wp2_with fail
  go_region_held3 (fun W => W.cell? ⟨x, 0, none⟩ = some (.pointer (some ⟨rb, 0, none⟩)) ∧ W.cell? ⟨x, 3, none⟩ = some (.int .i64 r))
    (first | with_reducible exact hc0 | with_reducible exact (HS.out _ gA.out) | with_reducible exact (HS.out _ gB.out) | with_reducible exact (HS.out _ (grown_trans gB.out (World.grownBy_alloc _ _ none))) | with_reducible exact (HK2.out _ gB.out))
    (first
      | (go_at_call 51; (with_reducible refine ((HP.out _ (grown_trans HG.out gC.out)).mono ?_)); rintro e w3 ⟨rfl, g3⟩; have gB := Lib.hid (grown_trans gC.out g3); clear g3)
      | (go_at_call 51; (with_reducible refine ((HP.out _ (grown_trans HG.out gA.out)).mono ?_)); rintro e w3 ⟨rfl, g3⟩; have gB := Lib.hid (grown_trans gA.out g3); have hN := HN.out.grow g3; obtain ⟨n0, n1⟩ := hN.at; obtain ⟨z0, z1⟩ := hN.frozen; have HN3 := Lib.hid hN; clear g3 hN))
  all_goals
    first
      | (have hE : EntB ((w3.setCell ⟨wA.heap.size, 0, none⟩ (.int .i64 A)).setCell ⟨wA.heap.size, 1, none⟩ (.int .i64 B)) wA.heap.size A B := heap_two w3 wA.heap.size _ _ (.int .i64 A) (.int .i64 B) _ HN3.out rfl rfl; have hGz := grown_at (grown_at gB.out (grown_set w3 wA.heap.size 0 (.int .i64 A)) (Nat.le_refl _)) (grown_set _ wA.heap.size 1 (.int .i64 B)) (Nat.le_refl _); obtain ⟨Y, hY⟩ : ∃ Y, wA.heap.size = Y := ⟨_, rfl⟩; rw [hY] at hE hGz; rw [hY]; obtain ⟨wz, hwz⟩ : ∃ wz, (w3.setCell ⟨Y, 0, none⟩ (.int .i64 A)).setCell ⟨Y, 1, none⟩ (.int .i64 B) = wz := ⟨_, rfl⟩; rw [hwz] at hE hGz; rw [hwz]; clear n0 n1 z0 z1 hwz)
      | (have hE : EntB (w3.alloc (.cells #[.int .i64 A, .int .i64 B] 52 (0, 0))) w3.heap.size A B := heap_alloc_new w3 _; have hGz := grown_trans gB.out (World.grownBy_alloc w3 (.cells #[.int .i64 A, .int .i64 B] 52 (0, 0)) none); generalize w3.alloc (.cells #[.int .i64 A, .int .i64 B] 52 (0, 0)) = wz at *; generalize w3.heap.size = Y at *)
    have HE := Lib.hid hE
    have HGz := Lib.hid (grown_trans HG.out hGz)
    have hRz := HRw.out.grow hGz
    have HRz := Lib.hid hRz
    obtain ⟨m0, m1⟩ := hE.at
    obtain ⟨q0, q1⟩ := hRz.at
    obtain ⟨z2, z3⟩ := hRz.frozen
    clear hE hGz hRz HRw
    cases ok
    · go_wp2_with fail
      refine bodyPost_ret (results_row_tmp rfl _ _ w.heap.size _ #[.int .i64 0, .int .i64 0] (0, 0) _ rfl (heap_two _ _ _ _ _ _ _ HRz.out rfl rfl) Tryz.underlying52 (by kernel_rfl) (by kernel_rfl)) rfl ?_
      exact ⟨rfl, grown_at (grown_at HGz.out (grown_set _ _ _ _) (Nat.le_refl _)) (grown_set _ _ _ _) (Nat.le_refl _)⟩
    · obtain ⟨K, hK⟩ : ∃ K, kindOf A = K := ⟨_, rfl⟩
      rw [hK] at HK0 HKd
      clear hK
      have hkd := HKd.out
      by_cases h2 : K = 2
      · have b2 : (K != 2) = false := by simpa using h2
        rw [decide_eq_true h2] at hkd
        subst hkd
        clear h2
        go_wp2_with fail
        refine (HK0.out _).mono ?_
        rintro e w8 ⟨rfl, g8⟩
        have hE8 := HE.out.grow (grown_of_below' g8)
        have hR8 := HRz.out.grow (grown_of_below' g8)
        have HR8 := Lib.hid hR8
        have HG8 := Lib.hid (grown_trans HGz.out (grown_of_below' g8))
        clear m0 m1 q0 q1 z2 z3 g8
        obtain ⟨m0, m1⟩ := hE8.at
        obtain ⟨q0, q1⟩ := hR8.at
        obtain ⟨z2, z3⟩ := hR8.frozen
        clear hE8 hR8
        go_wp2_with fail
        refine bodyPost_ret (results_row_tmp rfl _ _ w.heap.size _ #[.int .i64 A, .int .i64 B] (0, 0) _ rfl (heap_two _ _ _ _ _ _ _ HR8.out rfl rfl) Tryz.underlying52 (by kernel_rfl) (by kernel_rfl)) rfl ?_
        exact ⟨rfl, grown_at (grown_at HG8.out (grown_set _ _ _ _) (Nat.le_refl _)) (grown_set _ _ _ _) (Nat.le_refl _)⟩
      · have b2 : (K != 2) = true := by simpa using h2
        rw [decide_eq_false h2] at hkd
        subst hkd
        clear h2
        go_wp2_with fail
        refine (HK0.out _).mono ?_
        rintro e w8 ⟨rfl, g8⟩
        have hR8 := HRz.out.grow (grown_of_below' g8)
        have HR8 := Lib.hid hR8
        have HG8 := Lib.hid (grown_trans HGz.out (grown_of_below' g8))
        clear m0 m1 q0 q1 z2 z3 g8
        obtain ⟨q0, q1⟩ := hR8.at
        obtain ⟨z2, z3⟩ := hR8.frozen
        clear hR8
        go_wp2_with fail
        refine bodyPost_ret (results_row_tmp rfl _ _ w.heap.size _ #[.int .i64 0, .int .i64 0] (0, 0) _ rfl (heap_two _ _ _ _ _ _ _ HR8.out rfl rfl) Tryz.underlying52 (by kernel_rfl) (by kernel_rfl)) rfl ?_
        exact ⟨rfl, grown_at (grown_at HG8.out (grown_set _ _ _ _) (Nat.le_refl _)) (grown_set _ _ _ _) (Nat.le_refl _)⟩

/-- Find: the leaf's entry. -/
def leafE (n : Nat) (W : WoF) (r v : Int) : Option (Int × Int) := (leafW n W r v).map fun q => (flagOf q.2, ppnOf q.2)
theorem dx_find (h : DX w0 w rb fb n R pb gb x a r s) (v : Int) :
    Calls Tryz.prog 20 #[.pointer (some ⟨x, 0, none⟩), .int .i64 v] w fun e w' => e = .returned (findV (leafE n s.W r v)) ∧ w.grownBy w' none := by
  cases hp : placeW n s.W r v with
  | none =>
    refine (dx_find_at h v 0 0 false _ rfl fun W g => ?_).mono ?_
    · have := dx_look (h.grow g) v
      rw [hp] at this
      exact this
    · rintro e w' ⟨rfl, g⟩
      refine ⟨?_, g⟩
      have e : leafE n s.W r v = none := by unfold leafE leafW; rw [hp]; rfl
      rw [e]; rfl
  | some f =>
    refine (dx_find_at h v (flagOf (s.W f (indexOf v 0))) (ppnOf (s.W f (indexOf v 0))) true _ rfl fun W g => ?_).mono ?_
    · have := dx_look (h.grow g) v
      rw [hp] at this
      exact this
    · rintro e w' ⟨rfl, g⟩
      refine ⟨?_, g⟩
      have e : leafE n s.W r v = if kindOf (flagOf (s.W f (indexOf v 0))) = 2 then some (flagOf (s.W f (indexOf v 0)), ppnOf (s.W f (indexOf v 0))) else none := by
        unfold leafE leafW
        rw [hp]
        show Option.map _ (if kindOf (flagOf (s.W f (indexOf v 0))) = 2 then _ else _) = _
        split <;> rfl
      rw [e]
      by_cases hk : kindOf (flagOf (s.W f (indexOf v 0))) = 2
      · rw [if_pos hk]; simp [hk]
      · rw [if_neg hk]; simp [hk]
end
end Go.Proofs.YtlieommbomjdaaaGreat

namespace Go.Proofs.YtlieommbomjdaaaGreat
set_option linter.unusedVariables false

theorem bit_64 (x : Int) : bit x 64 = (BitVec.ofInt 64 x).toNat.testBit 6 := by
  have hx := toNat_ofInt64 x
  rw [nat_bit]
  unfold bit
  apply decide_eq_decide.2
  generalize (BitVec.ofInt 64 x).toNat = n at *
  simp
  omega
theorem bit_128 (x : Int) : bit x 128 = (BitVec.ofInt 64 x).toNat.testBit 7 := by
  have hx := toNat_ofInt64 x
  rw [nat_bit]
  unfold bit
  apply decide_eq_decide.2
  generalize (BitVec.ofInt 64 x).toNat = n at *
  simp
  omega
theorem and_def (x k : Int) : bits .and .i64 x k = IntKind.i64.wrap ((BitVec.ofInt 64 x &&& BitVec.ofInt 64 k).toNat : Nat) := rfl
theorem ofInt_wrap (n : Nat) (hn : n < 2 ^ 64) : (BitVec.ofInt 64 (IntKind.i64.wrap (n : Int))).toNat = n := by
  have h := toNat_ofInt64 (IntKind.i64.wrap (n : Int))
  rw [IntKind.wrap_i64] at h
  rw [IntKind.wrap_i64]
  omega
theorem and_toNat (x k : Int) : (BitVec.ofInt 64 (bits .and .i64 x k)).toNat = (BitVec.ofInt 64 x).toNat &&& (BitVec.ofInt 64 k).toNat := by
  rw [and_def, BitVec.toNat_and, ofInt_wrap]
  exact Nat.lt_of_le_of_lt Nat.and_le_left (BitVec.ofInt 64 x).isLt
theorem and_192 (x : Int) : bits .and .i64 x 192 = adOf x := by
  have hb : (BitVec.ofInt 64 192).toNat = 192 := by decide
  rw [and_def, BitVec.toNat_and, hb]
  unfold adOf
  rw [bit_64, bit_128]
  generalize (BitVec.ofInt 64 x).toNat = n
  have e : n &&& 192 = (if n.testBit 6 then 64 else 0) ||| (if n.testBit 7 then 128 else 0) := by
    rw [show (192 : Nat) = 2 ^ 6 ||| 2 ^ 7 by decide, Nat.and_or_distrib_left, nat_and_bit, nat_and_bit]
  rw [e]
  cases n.testBit 6 <;> cases n.testBit 7 <;> simp [one] <;> decide
theorem and_and_192 (x k : Int) : bits .and .i64 (bits .and .i64 x k) 192 = hadOf x k := by
  rw [and_192]
  unfold adOf hadOf
  rw [bit_64, bit_128, bit_64, bit_128, bit_64, bit_128, and_toNat, Nat.testBit_and, Nat.testBit_and]
end Go.Proofs.YtlieommbomjdaaaGreat

namespace Go.Proofs.YtlieommbomjdaaaGreat
open Go.ChangeShapes Go.WideShapes Go.ChangeAt Go.RowKit Go.Deep
set_option linter.unusedVariables false

section
variable {w0 w w' w2 : World} {rb fb n pb gb x : Nat} {R : List Nat} {a r : Int} {s t : MS}

theorem dx_place (h : DX w0 w rb fb n R pb gb x a r s) (v f : Int) (hp : placeW n s.W r v = some f) : Calls Tryz.prog 80 #[.pointer (some ⟨rb, 0, none⟩), .int .i64 r, .int .i64 v] w fun e w' =>
    e = .returned (.tuple #[.int .i64 f, .int .i64 (indexOf v 0), .bool true]) ∧ w.grownBy w' none := by
  obtain ⟨⟨⟨L, c, h1, h2, h3⟩, _⟩, hm, _⟩ := h
  rw [← h2, ← place_words] at hp
  refine (ref_place h1 r v).mono ?_
  rw [hp]
  rintro e w' ⟨rfl, g⟩
  exact ⟨rfl, g⟩
theorem place_ltW {W : WoF} {r v f : Int} (h : placeW n W r v = some f) : 0 ≤ f ∧ f < n := by
  unfold placeW at h
  split at h
  · cases hm : nxW n W r (indexOf v 2) with
    | none => rw [hm] at h; cases h
    | some m => rw [hm] at h; exact nx_lt h
  · cases h

set_option maxHeartbeats 2000000 in
theorem dx_set (h : DX w0 w rb fb n R pb gb x a r s) (v f y : Int) (hp : placeW n s.W r v = some f) (hy : okU y) :
    Calls Tryz.prog 47 #[.pointer (some ⟨x, 0, none⟩), .int .i64 v, .int .u64 y] w fun e w' => e = .returned (.tuple #[]) ∧ DXL w0 w w' rb fb n R pb gb x a r (leafM s f v y) := by
  have hD := h.grow (grown_drew1 w)
  have HP := Lib.hid (dx_place hD v f hp)
  have hc := hD.cells
  have HD := Lib.hid hD
  have HF := Lib.hid (place_ltW hp)
  have HO := Lib.hid (index_okX v 0)
  have HY := Lib.hid hy
  have hlm : leafM s f v y = ⟨updW s.W f (indexOf v 0) y, s.xs, s.N⟩ := rfl
  rw [hlm]
  generalize indexOf v 0 = i0 at *
  clear h hD hp hy hlm
  go_enter Tryz.func47, Tryz.ntmps47
  go_wp2_with fail
  go_region_held3 (fun W => W.cell? ⟨x, 0, none⟩ = some (.pointer (some ⟨rb, 0, none⟩)) ∧ W.cell? ⟨x, 1, none⟩ = some (.pointer (some ⟨pb, 0, none⟩)) ∧ W.cell? ⟨x, 2, none⟩ = some (.int .i64 a) ∧ W.cell? ⟨x, 3, none⟩ = some (.int .i64 r) ∧ W.cell? ⟨x, 4, none⟩ = some (.int .i64 s.N)) (with_reducible exact hc)
    (first
      | (go_at_call 80; (with_reducible refine (HP.out.mono ?_)); rintro e w2 ⟨rfl, g2⟩; have H2 := Lib.hid (HD.out.grow g2); have HT2 := Lib.hid (Turn.grown (O := x :: pb :: R) (grown_trans (grown_drew1 w) g2)); replace hc := H2.out.cells; clear g2))
  all_goals
    obtain ⟨c0, c1, c2, c3, c4⟩ := hc
    go_wp2_with fail
    refine (H2.out.dm.setWord f i0 y HF.out HO.out HY.out).mono ?_
    rintro e w3 ⟨rfl, k1, k2⟩
    have HL := Lib.hid (show DXL w0 w w3 rb fb n R pb gb x a r ⟨updW s.W f i0 y, s.xs, s.N⟩ from ⟨gb, H2.out.words k1 k2, HT2.out.trans' (k2.mono (by simp +contextual)), .inl rfl⟩)
    clear k1 k2
    go_wp2_with fail
    first | go_end0 | refine bodyPost_ret (results_none rfl _ _ _) rfl ?_
    exact ⟨rfl, HL.out⟩

theorem leafE_none {W : WoF} {r v : Int} (h : leafW n W r v = none) : leafE n W r v = none := by unfold leafE; rw [h]; rfl
theorem leafE_some {W : WoF} {r v f y : Int} (h : leafW n W r v = some (f, y)) : leafE n W r v = some (flagOf y, ppnOf y) := by unfold leafE; rw [h]; rfl

set_option maxRecDepth 100000 in
set_option maxHeartbeats 2000000 in
theorem dx_remove (h : DX w0 w rb fb n R pb gb x a r s) (v : Int) (hr : 0 ≤ r ∧ r < n) (hN : 0 ≤ s.N ∧ s.N ≤ 1000) :
    Calls Tryz.prog 14 #[.pointer (some ⟨x, 0, none⟩), .int .i64 v] w fun e w' => e = .returned (.bool (removeM n r v s).1) ∧ DXL w0 w w' rb fb n R pb gb x a r (removeM n r v s).2 := by
  have HD := Lib.hid h
  have hF := dx_find h v
  cases hl : leafW n s.W r v with
  | none =>
    have ha : removeM n r v s = (false, s) := by unfold removeM; rw [hl]
    rw [ha]
    rw [leafE_none hl] at hF
    have HF := Lib.hid (show Calls Tryz.prog 20 #[.pointer (some ⟨x, 0, none⟩), .int .i64 v] w fun e w' => e = .returned (.tuple #[.agg #[.int .i64 0, .int .i64 0], .bool false]) ∧ w.grownBy w' none from hF)
    clear h hF hl ha hr hN
    go_enter Tryz.func14, Tryz.ntmps14
    go_wp2_with fail
    refine HF.out.mono ?_
    rintro e w2 ⟨rfl, g2⟩
    have HL := Lib.hid (HD.out.stay (grown_trans g2 (World.grownBy_alloc w2 (.cells #[.int .i64 0, .int .i64 0] 52 (0, 0)) none)))
    clear g2
    go_wp2_with fail
    go_ret
    exact ⟨rfl, HL.out⟩
  | some q =>
    obtain ⟨f, y⟩ := q
    have ha : removeM n r v s = (true, tidyM n r v (leafM s f v 0)) := by unfold removeM; rw [hl]
    rw [ha]
    rw [leafE_some hl] at hF
    have HPl := Lib.hid (leaf_place hl).1
    generalize flagOf y = A at *
    generalize ppnOf y = B at *
    have HF := Lib.hid (show Calls Tryz.prog 20 #[.pointer (some ⟨x, 0, none⟩), .int .i64 v] w fun e w' => e = .returned (.tuple #[.agg #[.int .i64 A, .int .i64 B], .bool true]) ∧ w.grownBy w' none from hF)
    have HR := Lib.hid hr
    have HN := Lib.hid hN
    clear h hF hl ha hr hN
    go_enter Tryz.func14, Tryz.ntmps14
    go_wp2_with fail
    refine HF.out.mono ?_
    rintro e w2 ⟨rfl, g2⟩
    have g3 := grown_trans g2 (World.grownBy_alloc w2 (.cells #[.int .i64 A, .int .i64 B] 52 (0, 0)) none)
    have HS := Lib.hid (dx_set (HD.out.grow g3) v f 0 HPl.out ⟨by decide, by decide⟩)
    have HG3 := Lib.hid g3
    clear g2 g3
    go_wp2_with fail
    refine HS.out.mono ?_
    rintro e w4 ⟨rfl, g4, k1, k2, k3⟩
    have H4 := Lib.hid k1
    have HT4 := Lib.hid ((Turn.grown (O := x :: pb :: R) HG3.out).trans' k2)
    have HG4 := Lib.hid (show g4 = gb ∨ w.heap.size ≤ g4 from k3.imp id fun q => Nat.le_trans HG3.out.size q)
    clear k1 k2 k3 HS
    go_wp2_with fail
    refine (dx_tidy H4.out v HR.out (by show -900000 ≤ s.N ∧ s.N ≤ 900000; have := HN.out; omega)).mono ?_
    rintro e w5 ⟨rfl, g5, k1, k2, k3⟩
    have HL := Lib.hid (show DXL w0 w w5 rb fb n R pb gb x a r (tidyM n r v (leafM s f v 0)) from ⟨g5, k1, HT4.out.trans' k2, k3.elim (fun e => e ▸ HG4.out) fun q => .inr (Nat.le_trans HT4.out.size q)⟩)
    clear k1 k2 k3
    go_wp2_with fail
    go_ret
    exact ⟨rfl, HL.out⟩
end
end Go.Proofs.YtlieommbomjdaaaGreat

namespace Go.Proofs.YtlieommbomjdaaaGreat
open Go.ChangeShapes Go.WideShapes Go.ChangeAt Go.RowKit Go.Deep
set_option linter.unusedVariables false

theorem flags_range (p : Int) : 0 ≤ flagsOf p true ∧ flagsOf p true ≤ 31 := by
  unfold flagsOf
  split
  · omega
  · have := one_cases (bit p 1 || bit p 2) 2
    have := one_cases (bit p 2) 4
    have := one_cases (bit p 4) 8
    have := one_cases true 16
    omega
theorem flags_zero (p : Int) : flagsOf p true = 0 ↔ p % 8 = 0 := by
  constructor
  · intro h
    apply Classical.byContradiction
    intro hp
    unfold flagsOf at h
    rw [if_neg hp] at h
    have := one_cases (bit p 1 || bit p 2) 2
    have := one_cases (bit p 2) 4
    have := one_cases (bit p 4) 8
    have := one_cases true 16
    omega
  · intro h
    unfold flagsOf
    rw [if_pos h]
theorem ad_range (x : Int) : 0 ≤ adOf x ∧ adOf x ≤ 192 := by
  unfold adOf
  have := one_cases (bit x 64) 64
  have := one_cases (bit x 128) 128
  omega
theorem had_range (x k : Int) : 0 ≤ hadOf x k ∧ hadOf x k ≤ 192 := by
  unfold hadOf
  have := one_cases (bit x 64 && bit k 64) 64
  have := one_cases (bit x 128 && bit k 128) 128
  omega
theorem flag_range (y : Int) : 0 ≤ flagOf y ∧ flagOf y < 256 := by unfold flagOf; omega

section
variable {w0 w w' w2 : World} {rb fb n pb gb x : Nat} {R : List Nat} {a r : Int} {s t : MS}
set_option maxRecDepth 100000 in
set_option maxHeartbeats 4000000 in
theorem dx_protect (h : DX w0 w rb fb n R pb gb x a r s) (v p : Int) (hr : 0 ≤ r ∧ r < n) (hN : 0 ≤ s.N ∧ s.N ≤ 1000) :
    Calls Tryz.prog 16 #[.pointer (some ⟨x, 0, none⟩), .int .i64 v, .int .i64 p] w fun e w' => e = .returned (.bool (protectM n r v p s).1) ∧ DXL w0 w w' rb fb n R pb gb x a r (protectM n r v p s).2 := by
  have HD := Lib.hid h
  have hF := dx_find h v
  cases hl : leafW n s.W r v with
  | none =>
    have ha : protectM n r v p s = (false, s) := by unfold protectM; rw [hl]
    rw [ha]
    rw [leafE_none hl] at hF
    have HF := Lib.hid (show Calls Tryz.prog 20 #[.pointer (some ⟨x, 0, none⟩), .int .i64 v] w fun e w' => e = .returned (.tuple #[.agg #[.int .i64 0, .int .i64 0], .bool false]) ∧ w.grownBy w' none from hF)
    clear h hF hl ha hr hN
    go_enter Tryz.func16, Tryz.ntmps16
    go_wp2_with fail
    refine HF.out.mono ?_
    rintro e w2 ⟨rfl, g2⟩
    have HL := Lib.hid (HD.out.stay (grown_trans g2 (World.grownBy_alloc w2 (.cells #[.int .i64 0, .int .i64 0] 52 (0, 0)) none)))
    clear g2
    go_wp2_with fail
    go_ret
    exact ⟨rfl, HL.out⟩
  | some q =>
    obtain ⟨f, y⟩ := q
    rw [leafE_some hl] at hF
    have HPl := Lib.hid (leaf_place hl).1
    have HFl := Lib.hid (fun W => ref_flags_ok p true W)
    have hfr := flags_range p
    have hA := flag_range y
    have had := and_192 (flagOf y)
    have hadr := ad_range (flagOf y)
    have hz := flags_zero p
    have HR := Lib.hid hr
    have HN := Lib.hid hN
    by_cases hp : p % 8 = 0
    · have ha : protectM n r v p s = removeM n r v s := by unfold protectM; rw [hl]; exact if_pos hp
      rw [ha]
      have b0 : (flagsOf p true == 0) = true := by simpa using hz.2 hp
      generalize flagsOf p true = FL at *
      generalize flagOf y = A at *
      generalize ppnOf y = B at *
      have HF := Lib.hid (show Calls Tryz.prog 20 #[.pointer (some ⟨x, 0, none⟩), .int .i64 v] w fun e w' => e = .returned (.tuple #[.agg #[.int .i64 A, .int .i64 B], .bool true]) ∧ w.grownBy w' none from hF)
      clear h hF hl ha hr hN hp hz hfr hA had hadr
      go_enter Tryz.func16, Tryz.ntmps16
      go_wp2_with fail
      refine HF.out.mono ?_
      rintro e w2 ⟨rfl, g2⟩
      have HG2 := Lib.hid g2
      have g3 := grown_trans g2 (World.grownBy_alloc w2 (.cells #[.int .i64 A, .int .i64 B] 52 (0, 0)) none)
      have hE : EntB (w2.alloc (.cells #[.int .i64 A, .int .i64 B] 52 (0, 0))) w2.heap.size A B := heap_alloc_new w2 _
      have H3 := Lib.hid (HD.out.grow g3)
      have HG3 := Lib.hid g3
      have HE := Lib.hid hE
      obtain ⟨m0, m1⟩ := hE.at
      obtain ⟨z0, z1⟩ := hE.frozen
      have hYge : w.heap.size ≤ w2.heap.size := g2.size
      clear g2 g3 hE
      clear m0 m1 z0 z1 hYge HE
      go_wp2_with fail
      refine (HFl.out _).mono ?_
      rintro e w4 ⟨rfl, e2⟩
      subst e2
      go_wp2_with fail
      refine (dx_remove H3.out v HR.out HN.out).mono ?_
      rintro e w5 ⟨rfl, g5, k1, k2, k3⟩
      have HL := Lib.hid (show DXL w0 w w5 rb fb n R pb gb x a r (removeM n r v s).2 from ⟨g5, k1, (Turn.grown HG3.out).trans' k2, k3.imp id fun q => Nat.le_trans HG3.out.size q⟩)
      clear k1 k2 k3
      go_wp2_with fail
      go_ret
      exact ⟨rfl, HL.out⟩
    · have ha : protectM n r v p s = (true, leafM s f v (encOf (flagsOf p true + adOf (flagOf y)) (ppnOf y))) := by unfold protectM; rw [hl]; exact if_neg hp
      rw [ha]
      have b0 : (flagsOf p true == 0) = false := by simpa using fun e => hp (hz.1 e)
      generalize flagsOf p true = FL at *
      generalize flagOf y = A at *
      generalize ppnOf y = B at *
      generalize adOf A = AD at *
      have HF := Lib.hid (show Calls Tryz.prog 20 #[.pointer (some ⟨x, 0, none⟩), .int .i64 v] w fun e w' => e = .returned (.tuple #[.agg #[.int .i64 A, .int .i64 B], .bool true]) ∧ w.grownBy w' none from hF)
      have HEn := Lib.hid (fun W => ref_encode_ok (FL + AD) B W)
      have HU := Lib.hid (okU_enc (FL + AD) B)
      have f0 := hfr.1
      have f1 := hfr.2
      have e0 := hadr.1
      have e1 := hadr.2
      generalize encOf (FL + AD) B = X at *
      clear h hF hl ha hr hN hp hz hfr hA hadr
      go_enter Tryz.func16, Tryz.ntmps16
      go_wp2_with fail
      refine HF.out.mono ?_
      rintro e w2 ⟨rfl, g2⟩
      have HG2 := Lib.hid g2
      have g3 := grown_trans g2 (World.grownBy_alloc w2 (.cells #[.int .i64 A, .int .i64 B] 52 (0, 0)) none)
      have hE : EntB (w2.alloc (.cells #[.int .i64 A, .int .i64 B] 52 (0, 0))) w2.heap.size A B := heap_alloc_new w2 _
      have H3 := Lib.hid (HD.out.grow g3)
      have HG3 := Lib.hid g3
      have HE := Lib.hid hE
      obtain ⟨m0, m1⟩ := hE.at
      obtain ⟨z0, z1⟩ := hE.frozen
      have hYge : w.heap.size ≤ w2.heap.size := g2.size
      clear g2 g3 hE
      go_wp2_with fail
      refine (HFl.out _).mono ?_
      rintro e w3 ⟨rfl, e2⟩
      rw [e2] at HE HG3 H3 m0 m1 z0 z1
      generalize w2.heap.size = Y at *
      clear e2 H3
      have HE4 := Lib.hid (show EntB (w3.setCell ⟨Y, 0, none⟩ (.int .i64 (FL + AD))) Y (FL + AD) B from heap_setCell_same w3 Y 0 _ _ _ HE.out)
      have HG4 := Lib.hid (grown_at HG3.out (grown_set w3 Y 0 (.int .i64 (FL + AD))) hYge)
      go_wp2_with fail
      refine (HEn.out _).mono ?_
      rintro e w5 ⟨rfl, h5⟩
      have HG5 := Lib.hid (grown_trans HG4.out (grown_of_below' h5))
      have H5 := Lib.hid (HD.out.grow HG5.out)
      clear h5 m0 m1 z0 z1
      go_wp2_with fail
      refine (dx_set H5.out v f X HPl.out HU.out).mono ?_
      rintro e w6 ⟨rfl, g6, k1, k2, k3⟩
      have HL := Lib.hid (show DXL w0 w w6 rb fb n R pb gb x a r (leafM s f v X) from ⟨g6, k1, (Turn.grown HG5.out).trans' k2, k3.imp id fun q => Nat.le_trans HG5.out.size q⟩)
      clear k1 k2 k3
      go_wp2_with fail
      go_ret
      exact ⟨rfl, HL.out⟩

set_option maxRecDepth 100000 in
set_option maxHeartbeats 4000000 in
theorem dx_clear (h : DX w0 w rb fb n R pb gb x a r s) (v k : Int) (hr : 0 ≤ r ∧ r < n) (hN : 0 ≤ s.N ∧ s.N ≤ 1000) :
    Calls Tryz.prog 18 #[.pointer (some ⟨x, 0, none⟩), .int .i64 v, .int .i64 k] w fun e w' => e = .returned (.int .i64 (clearM n r v k s).1) ∧ DXL w0 w w' rb fb n R pb gb x a r (clearM n r v k s).2 := by
  have HD := Lib.hid h
  have hF := dx_find h v
  cases hl : leafW n s.W r v with
  | none =>
    have ha : clearM n r v k s = (0, s) := by unfold clearM; rw [hl]
    rw [ha]
    rw [leafE_none hl] at hF
    have HF := Lib.hid (show Calls Tryz.prog 20 #[.pointer (some ⟨x, 0, none⟩), .int .i64 v] w fun e w' => e = .returned (.tuple #[.agg #[.int .i64 0, .int .i64 0], .bool false]) ∧ w.grownBy w' none from hF)
    clear h hF hl ha hr hN
    go_enter Tryz.func18, Tryz.ntmps18
    go_wp2_with fail
    refine HF.out.mono ?_
    rintro e w2 ⟨rfl, g2⟩
    have HL := Lib.hid (HD.out.stay (grown_trans g2 (World.grownBy_alloc w2 (.cells #[.int .i64 0, .int .i64 0] 52 (0, 0)) none)))
    clear g2
    go_wp2_with fail
    go_ret
    exact ⟨rfl, HL.out⟩
  | some q =>
    obtain ⟨f, y⟩ := q
    rw [leafE_some hl] at hF
    have HPl := Lib.hid (leaf_place hl).1
    have hA := flag_range y
    have had := and_and_192 (flagOf y) k
    have hadr := had_range (flagOf y) k
    have ha : clearM n r v k s = (hadOf (flagOf y) k, leafM s f v (encOf (flagOf y - hadOf (flagOf y) k) (ppnOf y))) := by unfold clearM; rw [hl]
    rw [ha]
    generalize flagOf y = A at *
    generalize ppnOf y = B at *
    generalize hadOf A k = AD at *
    have HF := Lib.hid (show Calls Tryz.prog 20 #[.pointer (some ⟨x, 0, none⟩), .int .i64 v] w fun e w' => e = .returned (.tuple #[.agg #[.int .i64 A, .int .i64 B], .bool true]) ∧ w.grownBy w' none from hF)
    have HEn := Lib.hid (fun W => ref_encode_ok (A - AD) B W)
    have HU := Lib.hid (okU_enc (A - AD) B)
    have f0 := hA.1
    have f1 := hA.2
    have e0 := hadr.1
    have e1 := hadr.2
    generalize encOf (A - AD) B = X at *
    clear h hF hl ha hr hN hA hadr
    go_enter Tryz.func18, Tryz.ntmps18
    go_wp2_with fail
    refine HF.out.mono ?_
    rintro e w2 ⟨rfl, g2⟩
    have HG2 := Lib.hid g2
    have g3 := grown_trans g2 (World.grownBy_alloc w2 (.cells #[.int .i64 A, .int .i64 B] 52 (0, 0)) none)
    have hE : EntB (w2.alloc (.cells #[.int .i64 A, .int .i64 B] 52 (0, 0))) w2.heap.size A B := heap_alloc_new w2 _
    have H3 := Lib.hid (HD.out.grow g3)
    have HG3 := Lib.hid g3
    have HE := Lib.hid hE
    obtain ⟨m0, m1⟩ := hE.at
    obtain ⟨z0, z1⟩ := hE.frozen
    have hYge : w.heap.size ≤ w2.heap.size := g2.size
    clear g2 g3 hE
    clear H3
    have HG4 := Lib.hid (grown_trans HG2.out (World.grownBy_alloc w2 (.cells #[.int .i64 (A - AD), .int .i64 B] 52 (0, 0)) none))
    have hE4 : EntB (w2.alloc (.cells #[.int .i64 (A - AD), .int .i64 B] 52 (0, 0))) w2.heap.size (A - AD) B := heap_alloc_new w2 _
    obtain ⟨m2, m3⟩ := hE4.at
    clear hE4
    go_wp2_with fail
    refine (HEn.out _).mono ?_
    rintro e w5 ⟨rfl, h5⟩
    have HG5 := Lib.hid (grown_trans HG4.out (grown_of_below' h5))
    have H5 := Lib.hid (HD.out.grow HG5.out)
    clear h5 m0 m1 z0 z1 m2 m3
    go_wp2_with fail
    refine (dx_set H5.out v f X HPl.out HU.out).mono ?_
    rintro e w6 ⟨rfl, g6, k1, k2, k3⟩
    have HL := Lib.hid (show DXL w0 w w6 rb fb n R pb gb x a r (leafM s f v X) from ⟨g6, k1, (Turn.grown HG5.out).trans' k2, k3.imp id fun q => Nat.le_trans HG5.out.size q⟩)
    clear k1 k2 k3
    go_wp2_with fail
    go_ret
    exact ⟨rfl, HL.out⟩

set_option maxRecDepth 100000 in
set_option maxHeartbeats 2000000 in
theorem dx_enter_no (h : DX w0 w rb fb n R pb gb x a r s) (v fr p : Int) (hno : ¬ ((0 ≤ v ∧ v < 67108864) ∧ (1 ≤ p ∧ p ≤ 7) ∧ (0 ≤ fr ∧ fr < n))) :
    Calls Tryz.prog 12 #[.pointer (some ⟨x, 0, none⟩), .int .i64 v, .int .i64 fr, .int .i64 p] w fun e w' => e = .returned (.int .i64 2) ∧ DXL w0 w w' rb fb n R pb gb x a r s := by
  have HD := Lib.hid h
  obtain ⟨c0, c1, c2, c3, c4⟩ := h.cells
  rcases (show v < 0 ∨ (¬ v < 0 ∧ 67108864 ≤ v) ∨ (¬ v < 0 ∧ ¬ 67108864 ≤ v ∧ p < 1) ∨ (¬ v < 0 ∧ ¬ 67108864 ≤ v ∧ ¬ p < 1 ∧ 7 < p) ∨ (¬ v < 0 ∧ ¬ 67108864 ≤ v ∧ ¬ p < 1 ∧ ¬ 7 < p ∧ ¬ (0 ≤ fr ∧ fr < n)) by omega) with h1 | ⟨h1, h2⟩ | ⟨h1, h2, h3⟩ | ⟨h1, h2, h3, h4⟩ | ⟨h1, h2, h3, h4, h5⟩
  · have d0 : decide (v < 0) = true := by simpa using h1
    clear h hno h1
    go_enter Tryz.func12, Tryz.ntmps12
    go_wp2_with fail
    go_ret
    exact ⟨rfl, HD.out.stay (grown_refl _ _)⟩
  · have d0 : decide (v < 0) = false := by simpa using h1
    have d1 : decide (v ≥ 67108864) = true := by simpa using h2
    clear h hno h1 h2
    go_enter Tryz.func12, Tryz.ntmps12
    go_wp2_with fail
    go_ret
    exact ⟨rfl, HD.out.stay (grown_refl _ _)⟩
  · have d0 : decide (v < 0) = false := by simpa using h1
    have d1 : decide (v ≥ 67108864) = false := by simpa using h2
    have d2 : decide (p < 1) = true := by simpa using h3
    clear h hno h1 h2 h3
    go_enter Tryz.func12, Tryz.ntmps12
    go_wp2_with fail
    go_ret
    exact ⟨rfl, HD.out.stay (grown_refl _ _)⟩
  · have d0 : decide (v < 0) = false := by simpa using h1
    have d1 : decide (v ≥ 67108864) = false := by simpa using h2
    have d2 : decide (p < 1) = false := by simpa using h3
    have d3 : decide (p > 7) = true := by simpa using h4
    clear h hno h1 h2 h3 h4
    go_enter Tryz.func12, Tryz.ntmps12
    go_wp2_with fail
    go_ret
    exact ⟨rfl, HD.out.stay (grown_refl _ _)⟩
  · have d0 : decide (v < 0) = false := by simpa using h1
    have d1 : decide (v ≥ 67108864) = false := by simpa using h2
    have d2 : decide (p < 1) = false := by simpa using h3
    have d3 : decide (p > 7) = false := by simpa using h4
    have HIs := Lib.hid (h.dm.is fr false (decide_eq_false h5))
    clear h hno h1 h2 h3 h4 h5
    go_enter Tryz.func12, Tryz.ntmps12
    go_wp2_with fail
    refine HIs.out.mono ?_
    rintro e w2 ⟨rfl, e2⟩
    subst w2
    go_wp2_with fail
    go_ret
    exact ⟨rfl, HD.out.stay (grown_refl _ _)⟩
theorem dx_enter (h : DX w0 w rb fb n R pb gb x a r s) (ha : okI a) (v fr p : Int) (hr : 0 ≤ r ∧ r < n) (hN : 0 ≤ s.N ∧ s.N ≤ 1000) :
    Calls Tryz.prog 12 #[.pointer (some ⟨x, 0, none⟩), .int .i64 v, .int .i64 fr, .int .i64 p] w fun e w' => e = .returned (.int .i64 (enterM n a r v fr p s).1) ∧ DXL w0 w w' rb fb n R pb gb x a r (enterM n a r v fr p s).2 := by
  by_cases hc : (0 ≤ v ∧ v < 67108864) ∧ (1 ≤ p ∧ p ≤ 7) ∧ (0 ≤ fr ∧ fr < n)
  · have e : enterM n a r v fr p s = enter1 n a r v (encOf (flagsOf p true) fr) s := if_pos hc
    rw [e]
    exact dx_enter_ok h ha v fr p hr hN hc.1 hc.2.1 hc.2.2
  · have e : enterM n a r v fr p s = (2, s) := if_neg hc
    rw [e]
    exact dx_enter_no h v fr p hc
end
end Go.Proofs.YtlieommbomjdaaaGreat

namespace Go.Proofs.YtlieommbomjdaaaGreat
open Go.ChangeShapes Go.WideShapes Go.ChangeAt Go.RowKit Go.Deep
set_option linter.unusedVariables false

def midTo (n : Nat) (W : WoF) (m : Int) (k : Nat) : List Int := (List.range k).flatMap fun k => (nxW n W m (k : Nat)).toList
def topTo (n : Nat) (W : WoF) (r : Int) (i : Nat) : List Int := (List.range i).flatMap (closeTop n W r)
theorem midTo_succ (n : Nat) (W : WoF) (m : Int) (k : Nat) : midTo n W m (k + 1) = midTo n W m k ++ (nxW n W m (k : Nat)).toList := by
  unfold midTo
  rw [List.range_succ, List.flatMap_append]
  simp
theorem topTo_succ (n : Nat) (W : WoF) (r : Int) (i : Nat) : topTo n W r (i + 1) = topTo n W r i ++ closeTop n W r i := by
  unfold topTo
  rw [List.range_succ, List.flatMap_append]
  simp

section
variable {w0 w w' w2 : World} {rb fb n pb gb x : Nat} {R : List Nat} {a r : Int} {s t : MS}
theorem DXL.give {w1 : World} {ys : List FrV} (h : DXL w0 w w1 rb fb n R pb gb x a r ⟨s.W, ys, s.N⟩) (f : Int) :
    Calls Tryz.prog 58 #[.pointer (some ⟨pb, 0, none⟩), .int .i64 f] w1 fun e w' => e = .returned (.int .i64 (giveF ys f).e) ∧ DXL w0 w w' rb fb n R pb gb x a r ⟨s.W, (giveF ys f).xs, s.N⟩ := by
  obtain ⟨g1, h1, h2, h3⟩ := h
  refine (h1.dm.give f).mono ?_
  rintro e w' ⟨rfl, g2, k1, k2, k3⟩
  have k4 : g2 = gb ∨ w.heap.size ≤ g2 := k3.elim (fun e => e ▸ h3) fun q => .inr (Nat.le_trans h2.size q)
  exact ⟨rfl, g2, h1.pool k1 k2 k3, h2.trans' (k2.mono (by simp)), k4⟩
theorem DXL.grow {w1 w2 : World} (h : DXL w0 w w1 rb fb n R pb gb x a r t) (g : w1.grownBy w2 none) : DXL w0 w w2 rb fb n R pb gb x a r t := by
  obtain ⟨g1, h1, h2, h3⟩ := h
  exact ⟨g1, h1.grow g, h2.trans' (Turn.grown g), h3⟩
theorem DXL.next {w1 : World} (h : DXL w0 w w1 rb fb n R pb gb x a r t) (fr i : Int) :
    Calls Tryz.prog 40 #[.pointer (some ⟨x, 0, none⟩), .int .i64 fr, .int .i64 i] w1 fun e w' => e = .returned (.int .i64 ((nxW n t.W fr i).getD (-1))) ∧ w1.grownBy w' none := by
  obtain ⟨g1, h1, _⟩ := h
  exact dx_next h1 fr i
theorem DXL.cells {w1 : World} (h : DXL w0 w w1 rb fb n R pb gb x a r t) : w1.cell? ⟨x, 0, none⟩ = some (.pointer (some ⟨rb, 0, none⟩)) ∧ w1.cell? ⟨x, 1, none⟩ = some (.pointer (some ⟨pb, 0, none⟩)) ∧ w1.cell? ⟨x, 2, none⟩ = some (.int .i64 a) ∧ w1.cell? ⟨x, 3, none⟩ = some (.int .i64 r) ∧ w1.cell? ⟨x, 4, none⟩ = some (.int .i64 t.N) := by
  obtain ⟨g1, h1, _⟩ := h
  exact h1.cells

/-- What has been given when a loop stands at a place. -/
def Gave (w0 w wr : World) (rb fb n : Nat) (R : List Nat) (pb gb x : Nat) (a r : Int) (s : MS) (c : Int) (fs : List Int) : Prop :=
  (giveAll fs (0, s.xs)).1 = c ∧ DXL w0 w wr rb fb n R pb gb x a r ⟨s.W, (giveAll fs (0, s.xs)).2, s.N⟩
theorem Gave.one {wr w' : World} {c : Int} {fs : List Int} {f : Int} {d : Int} (h : Gave w0 w wr rb fb n R pb gb x a r s c fs) (hd : (giveF (giveAll fs (0, s.xs)).2 f).e = d)
    (k : DXL w0 w w' rb fb n R pb gb x a r ⟨s.W, (giveF (giveAll fs (0, s.xs)).2 f).xs, s.N⟩) : Gave w0 w w' rb fb n R pb gb x a r s (if d = 0 then c + 1 else c) (fs ++ [f]) := by
  unfold Gave
  rw [giveAll_app]
  obtain ⟨h1, h2⟩ := h
  have e : giveAll [f] (giveAll fs (0, s.xs)) = (if (giveF (giveAll fs (0, s.xs)).2 f).e = 0 then (giveAll fs (0, s.xs)).1 + 1 else (giveAll fs (0, s.xs)).1, (giveF (giveAll fs (0, s.xs)).2 f).xs) := rfl
  rw [e, hd, h1]
  exact ⟨rfl, k⟩
theorem Gave.grow {wr w' : World} {c : Int} {fs : List Int} (h : Gave w0 w wr rb fb n R pb gb x a r s c fs) (g : wr.grownBy w' none) : Gave w0 w w' rb fb n R pb gb x a r s c fs := ⟨h.1, h.2.grow g⟩

set_option maxRecDepth 100000 in
set_option maxHeartbeats 4000000 in
theorem dx_close (h : DX w0 w rb fb n R pb gb x a r s) :
    Calls Tryz.prog 25 #[.pointer (some ⟨x, 0, none⟩)] w fun e w' => e = .returned (.int .i64 (closeM n r s).1) ∧ DXL w0 w w' rb fb n R pb gb x a r ⟨s.W, (closeM n r s).2, s.N⟩ := by
  have HS := Lib.hid (show Gave w0 w w rb fb n R pb gb x a r s 0 (topTo n s.W r 0) from ⟨rfl, h.stay (grown_refl _ _)⟩)
  clear h
  go_enter Tryz.func25, Tryz.ntmps25
  go_wp2_with fail
  go_loopw [3, 4, 5, 6, 7] (fun cv iv _ _ _ wr => ∃ (i : Nat) (c : Int), i ≤ 512 ∧ iv = .int .i64 i ∧ cv = .int .i64 c ∧ 0 ≤ c ∧ c ≤ 513 * i ∧ Hid (Gave w0 w wr rb fb n R pb gb x a r s c (topTo n s.W r i))) (fun _ iv _ _ _ _ => 512 - (intOf iv).toNat)
  case atStart => exact ⟨0, 0, by omega, rfl, rfl, by omega, by omega, HS⟩
  case round =>
    obtain ⟨i, c, hi, rfl, rfl, hc0, hc1, HG⟩ := hrel
    obtain ⟨c0, c1, c2, c3, c4⟩ := HG.out.2.cells
    by_cases hlt : i < 512
    · have hN := HG.out.2.next r (i : Int)
      cases hg : nxW n s.W r (i : Int) with
      | none =>
        have HT := Lib.hid (show topTo n s.W r (i + 1) = topTo n s.W r i by rw [topTo_succ]; unfold closeTop; rw [hg]; simp)
        rw [show nxW n (⟨s.W, (giveAll (topTo n s.W r i) (0, s.xs)).2, s.N⟩ : MS).W r i = none from hg] at hN
        have HN := Lib.hid hN
        clear hN hg
        go_wp2_with fail
        refine HN.out.mono ?_
        rintro e w2 ⟨rfl, g2⟩
        have HG2 := Lib.hid (HG.out.grow g2)
        clear g2
        go_wp2_with fail
        go_roundw
        case rel => exact ⟨i + 1, c, by omega, by go_num, rfl, hc0, by omega, by show Gave _ _ _ _ _ _ _ _ _ _ _ _ _ _ (topTo n s.W r (i + 1)); rw [HT.out]; exact HG2.out⟩
        case measure => simp [intOf]; omega
      | some m =>
        have HT := Lib.hid (show topTo n s.W r (i + 1) = topTo n s.W r i ++ midTo n s.W m 512 ++ [m] by rw [topTo_succ]; unfold closeTop; rw [hg]; simp only [List.append_assoc]; rfl)
        rw [show nxW n (⟨s.W, (giveAll (topTo n s.W r i) (0, s.xs)).2, s.N⟩ : MS).W r i = some m from hg] at hN
        have HN := Lib.hid hN
        have hm0 := (nx_lt hg).1
        clear hN hg
        generalize hF0 : topTo n s.W r i = F0 at *
        clear hF0
        go_wp2_with fail
        refine HN.out.mono ?_
        rintro e w2 ⟨rfl, g2⟩
        have HG2 := Lib.hid (show Gave w0 w w2 rb fb n R pb gb x a r s c (F0 ++ midTo n s.W m 0) by
          have := HG.out.grow g2
          rw [show midTo n s.W m 0 = [] from rfl, List.append_nil]
          exact this)
        clear g2 HN HG c0 c1 c2 c3 c4
        go_wp2_with fail
        go_loopw [3, 6, 7] (fun cv kv _ wx => ∃ (k : Nat) (b : Int), k ≤ 512 ∧ kv = .int .i64 k ∧ cv = .int .i64 b ∧ 0 ≤ b ∧ b ≤ 513 * i + k ∧ Hid (Gave w0 w wx rb fb n R pb gb x a r s b (F0 ++ midTo n s.W m k))) (fun _ kv _ _ => 512 - (intOf kv).toNat)
        case atStart => exact ⟨0, c, by omega, rfl, rfl, hc0, by omega, HG2⟩
        case round =>
          obtain ⟨k, b, hk, rfl, rfl, hb0, hb1, HGk⟩ := hrel
          obtain ⟨c0, c1, c2, c3, c4⟩ := HGk.out.2.cells
          by_cases hltk : k < 512
          · have hN := HGk.out.2.next m (k : Int)
            cases hg : nxW n s.W m (k : Int) with
            | none =>
              have HTk := Lib.hid (show midTo n s.W m (k + 1) = midTo n s.W m k by rw [midTo_succ, hg]; simp)
              rw [show nxW n (⟨s.W, (giveAll (F0 ++ midTo n s.W m k) (0, s.xs)).2, s.N⟩ : MS).W m k = none from hg] at hN
              have HN := Lib.hid hN
              clear hN hg
              go_wp2_with fail
              refine HN.out.mono ?_
              rintro e w3 ⟨rfl, g3⟩
              have HG3 := Lib.hid (HGk.out.grow g3)
              clear g3
              go_wp2_with fail
              go_roundw
              case rel => exact ⟨k + 1, b, by omega, by go_num, rfl, hb0, by omega, by show Gave _ _ _ _ _ _ _ _ _ _ _ _ _ _ (F0 ++ midTo n s.W m (k + 1)); rw [HTk.out]; exact HG3.out⟩
              case measure => simp [intOf]; omega
            | some f =>
              have HTk := Lib.hid (show F0 ++ midTo n s.W m (k + 1) = (F0 ++ midTo n s.W m k) ++ [f] by rw [midTo_succ, hg, ← List.append_assoc]; rfl)
              rw [show nxW n (⟨s.W, (giveAll (F0 ++ midTo n s.W m k) (0, s.xs)).2, s.N⟩ : MS).W m k = some f from hg] at hN
              have HN := Lib.hid hN
              have hf0 := (nx_lt hg).1
              clear hN hg
              generalize hF1 : F0 ++ midTo n s.W m k = F1 at *
              clear hF1
              obtain ⟨d, hd⟩ : ∃ d, (giveF (giveAll F1 (0, s.xs)).2 f).e = d := ⟨_, rfl⟩
              have HD := Lib.hid hd
              clear hd
              by_cases hd0 : d = 0
              · have bd : (d == 0) = true := by simpa using hd0
                have HD0 := Lib.hid hd0
                clear hd0
                go_wp2_with fail
                refine HN.out.mono ?_
                rintro e w3 ⟨rfl, g3⟩
                have HG3 := Lib.hid (HGk.out.grow g3)
                have hV := HG3.out.2.give f
                rw [HD.out] at hV
                have HV := Lib.hid hV
                clear g3 hV c0 c1 c2 c3 c4
                obtain ⟨c0, c1, c2, c3, c4⟩ := HG3.out.2.cells
                go_wp2_with fail
                refine HV.out.mono ?_
                rintro e w4 ⟨rfl, h4⟩
                have HG4 := Lib.hid (HG3.out.one HD.out h4)
                rw [if_pos HD0.out] at HG4
                clear h4 HV
                go_wp2_with fail
                go_roundw
                case rel => exact ⟨k + 1, b + 1, by omega, by go_num, rfl, by omega, by omega, by show Gave _ _ _ _ _ _ _ _ _ _ _ _ _ _ (F0 ++ midTo n s.W m (k + 1)); rw [HTk.out]; exact HG4.out⟩
                case measure => simp [intOf]; omega
              · have bd : (d == 0) = false := by simpa using hd0
                have HD0 := Lib.hid hd0
                clear hd0
                go_wp2_with fail
                refine HN.out.mono ?_
                rintro e w3 ⟨rfl, g3⟩
                have HG3 := Lib.hid (HGk.out.grow g3)
                have hV := HG3.out.2.give f
                rw [HD.out] at hV
                have HV := Lib.hid hV
                clear g3 hV c0 c1 c2 c3 c4
                obtain ⟨c0, c1, c2, c3, c4⟩ := HG3.out.2.cells
                go_wp2_with fail
                refine HV.out.mono ?_
                rintro e w4 ⟨rfl, h4⟩
                have HG4 := Lib.hid (HG3.out.one HD.out h4)
                rw [if_neg HD0.out] at HG4
                clear h4 HV
                go_wp2_with fail
                go_roundw
                case rel => exact ⟨k + 1, b, by omega, by go_num, rfl, by omega, by omega, by show Gave _ _ _ _ _ _ _ _ _ _ _ _ _ _ (F0 ++ midTo n s.W m (k + 1)); rw [HTk.out]; exact HG4.out⟩
                case measure => simp [intOf]; omega
          · obtain rfl : k = 512 := by omega
            generalize hF1 : F0 ++ midTo n s.W m 512 = F1 at *
            clear hF1
            obtain ⟨d, hd⟩ : ∃ d, (giveF (giveAll F1 (0, s.xs)).2 m).e = d := ⟨_, rfl⟩
            have hV := HGk.out.2.give m
            rw [hd] at hV
            have HV := Lib.hid hV
            have HD := Lib.hid hd
            clear hd hV
            by_cases hd0 : d = 0
            · have bd : (d == 0) = true := by simpa using hd0
              have HD0 := Lib.hid hd0
              clear hd0
              go_wp2_with fail
              refine HV.out.mono ?_
              rintro e w4 ⟨rfl, h4⟩
              have HG4 := Lib.hid (HGk.out.one HD.out h4)
              rw [if_pos HD0.out] at HG4
              clear h4 HV
              go_wp2_with fail
              go_roundw
              case rel => exact ⟨i + 1, b + 1, by omega, by go_num, rfl, by omega, by omega, by show Gave _ _ _ _ _ _ _ _ _ _ _ _ _ _ (topTo n s.W r (i + 1)); rw [HT.out]; exact HG4.out⟩
              case measure => simp [intOf]; omega
            · have bd : (d == 0) = false := by simpa using hd0
              have HD0 := Lib.hid hd0
              clear hd0
              go_wp2_with fail
              refine HV.out.mono ?_
              rintro e w4 ⟨rfl, h4⟩
              have HG4 := Lib.hid (HGk.out.one HD.out h4)
              rw [if_neg HD0.out] at HG4
              clear h4 HV
              go_wp2_with fail
              go_roundw
              case rel => exact ⟨i + 1, b, by omega, by go_num, rfl, by omega, by omega, by show Gave _ _ _ _ _ _ _ _ _ _ _ _ _ _ (topTo n s.W r (i + 1)); rw [HT.out]; exact HG4.out⟩
              case measure => simp [intOf]; omega
    · obtain rfl : i = 512 := by omega
      have hl : closeM n r s = giveAll (topTo n s.W r 512 ++ [r]) (0, s.xs) := rfl
      have HL := Lib.hid hl
      clear hl
      generalize hF1 : topTo n s.W r 512 = F1 at *
      clear hF1
      have HGd := Lib.hid (HG.out.grow (grown_drew1 wr))
      obtain ⟨d, hd⟩ : ∃ d, (giveF (giveAll F1 (0, s.xs)).2 r).e = d := ⟨_, rfl⟩
      have hV := HGd.out.2.give r
      rw [hd] at hV
      have HV := Lib.hid hV
      have HD := Lib.hid hd
      have hk := HGd.out.2.cells
      clear hd hV c0 c1 c2 c3 c4
      go_wp2_with fail
      go_region_held3 (fun W => W.cell? ⟨x, 0, none⟩ = some (.pointer (some ⟨rb, 0, none⟩)) ∧ W.cell? ⟨x, 1, none⟩ = some (.pointer (some ⟨pb, 0, none⟩)) ∧ W.cell? ⟨x, 2, none⟩ = some (.int .i64 a) ∧ W.cell? ⟨x, 3, none⟩ = some (.int .i64 r) ∧ W.cell? ⟨x, 4, none⟩ = some (.int .i64 s.N)) (with_reducible exact hk)
        (first
          | (go_at_call 58; (with_reducible refine (HV.out.mono ?_)); rintro e w4 ⟨rfl, h4⟩; have HG4 := Lib.hid (HGd.out.one HD.out h4); replace hk := HG4.out.2.cells; clear h4))
      all_goals
        by_cases hd0 : d = 0
        · have bd : (d == 0) = true := by simpa using hd0
          rw [if_pos hd0] at HG4
          clear hd0
          go_wp2_with fail
          go_ret
          rw [HL.out]
          exact ⟨by rw [HG4.out.1]; rfl, HG4.out.2⟩
        · have bd : (d == 0) = false := by simpa using hd0
          rw [if_neg hd0] at HG4
          clear hd0
          go_wp2_with fail
          go_ret
          rw [HL.out]
          exact ⟨by rw [HG4.out.1]; rfl, HG4.out.2⟩
end
end Go.Proofs.YtlieommbomjdaaaGreat
