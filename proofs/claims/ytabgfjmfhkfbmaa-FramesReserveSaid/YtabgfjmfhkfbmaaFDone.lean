/- Package frames: of no pool, and of one that no call made; all that the interface asks. -/
import Derived.Test.YtabgfjmfhkfbmaaFDf
namespace Go.Proofs.Ytabgfjmfhkfbmaa
open Go.ChangeShapes Go.WideShapes Go.ChangeAt Go.RowKit Go.Deep
set_option linter.unusedVariables false

/-- No pool, or one of zeros. -/
def NP (w : World) (v : Value) : Prop := v = .pointer none ∨ ∃ p, v = .pointer (some ⟨p, 0, none⟩) ∧ w.heap[p]? = some poolZero
theorem poolZero_ok (w : World) : NP (w.alloc poolZero) (.pointer (some ⟨w.heap.size, 0, none⟩)) := .inr ⟨_, rfl, heap_alloc_new w _⟩
theorem NP.grow {w w' : World} {v : Value} (h : NP w v) (g : w.grownBy w' none) : NP w' v := by
  rcases h with rfl | ⟨p, rfl, h⟩
  · exact .inl rfl
  · exact .inr ⟨p, rfl, (g.block p (Array.getElem?_eq_some_iff.1 h).1 (by simp)).trans h⟩

section
variable {w : World} {v : Value}
theorem np_made (h : NP w v) : Calls Try.prog 28 #[v] w fun e w' => e = .returned (.bool false) ∧ w' = w := by
  rcases h with rfl | ⟨p, rfl, h⟩
  · exact nil_made w
  · exact zero_made h
theorem np_has (h : NP w v) (fr : Int) : Calls Try.prog 29 #[v, .int .i64 fr] w fun e w' => e = .returned (.bool false) ∧ w' = w := by
  have HM := Lib.hid (np_made h)
  clear h
  go_enter Try.func29, Try.ntmps29
  go_wp2_with fail
  refine HM.out.mono ?_
  rintro e w2 ⟨rfl, e2⟩
  subst w2
  go_wp2_with fail
  go_ret
  exact ⟨rfl, rfl⟩
theorem np_take (h : NP w v) (c o i : Int) : Calls Try.prog 18 #[v, .int .i64 c, .int .i64 o, .int .i64 i] w fun e w' => e = .returned (.tuple #[.int .i64 0, .int .i64 1]) ∧ w.grownBy w' none := by
  have HM := Lib.hid (np_made h)
  clear h
  go_enter Try.func18, Try.ntmps18
  go_wp2_with fail
  refine HM.out.mono ?_
  rintro e w2 ⟨rfl, e2⟩
  subst w2
  go_wp2_with fail
  go_ret2
  exact ⟨rfl, grown_refl _ _⟩
theorem np_change (h : NP w v) (fr : Int) (fv : Value) : Calls Try.prog 34 #[v, .int .i64 fr, fv] w fun e w' => e = .returned (.int .i64 1) ∧ w.grownBy w' none := by
  have HM := Lib.hid (np_made h)
  clear h
  go_enter Try.func34, Try.ntmps34
  go_wp2_with fail
  refine HM.out.mono ?_
  rintro e w2 ⟨rfl, e2⟩
  subst w2
  go_wp2_with fail
  go_ret
  exact ⟨rfl, grown_refl _ _⟩
theorem np_give (h : NP w v) (fr : Int) : Calls Try.prog 19 #[v, .int .i64 fr] w fun e w' => e = .returned (.int .i64 1) ∧ w.grownBy w' none := by
  have HC := Lib.hid (fun f => np_change h fr f)
  clear h
  go_enter Try.func19, Try.ntmps19
  go_wp2_with fail
  refine (HC.out _).mono ?_
  rintro e w2 ⟨rfl, g2⟩
  have HG := Lib.hid g2
  clear g2
  go_wp2_with fail
  go_ret
  exact ⟨rfl, HG.out⟩
theorem np_wire (h : NP w v) (fr b : Int) : Calls Try.prog 20 #[v, .int .i64 fr, .int .i64 b] w fun e w' => e = .returned (.int .i64 1) ∧ w.grownBy w' none := by
  have ga := World.grownBy_alloc w (.cells #[.int .i64 b] 3 (0, 0)) none
  have HC := Lib.hid (fun f => np_change (h.grow ga) fr f)
  have HA := Lib.hid ga
  clear h ga
  go_enter Try.func20, Try.ntmps20
  go_wp2_with fail
  refine (HC.out _).mono ?_
  rintro e w2 ⟨rfl, g2⟩
  have HG := Lib.hid (grown_trans HA.out g2)
  clear g2
  go_wp2_with fail
  go_ret
  exact ⟨rfl, HG.out⟩
theorem np_loan (h : NP w v) (fr b : Int) : Calls Try.prog 21 #[v, .int .i64 fr, .int .i64 b] w fun e w' => e = .returned (.int .i64 1) ∧ w.grownBy w' none := by
  have ga := World.grownBy_alloc w (.cells #[.int .i64 b] 3 (0, 0)) none
  have HC := Lib.hid (fun f => np_change (h.grow ga) fr f)
  have HA := Lib.hid ga
  clear h ga
  go_enter Try.func21, Try.ntmps21
  go_wp2_with fail
  refine (HC.out _).mono ?_
  rintro e w2 ⟨rfl, g2⟩
  have HG := Lib.hid (grown_trans HA.out g2)
  clear g2
  go_wp2_with fail
  go_ret
  exact ⟨rfl, HG.out⟩
theorem np_own (h : NP w v) (fr cl ow ix : Int) : Calls Try.prog 22 #[v, .int .i64 fr, .int .i64 cl, .int .i64 ow, .int .i64 ix] w fun e w' => e = .returned (.int .i64 1) ∧ w.grownBy w' none := by
  have ga := grown_trans (grown_trans (World.grownBy_alloc w (.cells #[.int .i64 cl] 3 (0, 0)) none) (World.grownBy_alloc (w.alloc (.cells #[.int .i64 cl] 3 (0, 0))) (.cells #[.int .i64 ow] 3 (0, 0)) none)) (World.grownBy_alloc ((w.alloc (.cells #[.int .i64 cl] 3 (0, 0))).alloc (.cells #[.int .i64 ow] 3 (0, 0))) (.cells #[.int .i64 ix] 3 (0, 0)) none)
  have HC := Lib.hid (fun f => np_change (h.grow ga) fr f)
  have HA := Lib.hid ga
  clear h ga
  go_enter Try.func22, Try.ntmps22
  go_wp2_with fail
  refine (HC.out _).mono ?_
  rintro e w2 ⟨rfl, g2⟩
  have HG := Lib.hid (grown_trans HA.out g2)
  clear g2
  go_wp2_with fail
  go_ret
  exact ⟨rfl, HG.out⟩
theorem np_get (h : NP w v) (fr : Int) : Calls Try.prog 16 #[v, .int .i64 fr] w fun e w' => e = .returned (.tuple #[.agg #[.int .i64 0, .int .i64 0, .int .i64 0, .int .i64 0, .int .i64 0], .bool false]) ∧ w.grownBy w' none := by
  have ga := World.grownBy_alloc w (.cells #[.int .i64 0, .int .i64 0, .int .i64 0, .int .i64 0, .int .i64 0] 36 (0, 0)) none
  have hB := FrB.new w 36 zeroF
  unfold zeroF at hB
  simp only at hB
  have HH := Lib.hid (np_has (h.grow ga) fr)
  generalize hwA : w.alloc (.cells #[.int .i64 0, .int .i64 0, .int .i64 0, .int .i64 0, .int .i64 0] 36 (0, 0)) = wA at *
  obtain ⟨b0, b1, b2, b3, b4⟩ := hB.at
  obtain ⟨z0, z1, z2, z3, z4⟩ := hB.frozen
  have HB := Lib.hid hB
  have HG := Lib.hid ga
  clear ga hB h
  go_enter Try.func16, Try.ntmps16
  go_wp2_with fail
  refine HH.out.mono ?_
  rintro e w2 ⟨rfl, rfl⟩
  go_wp2_with fail
  refine bodyPost_ret (results_pair_tmp rfl _ _ w.heap.size _ #[.int .i64 0, .int .i64 0, .int .i64 0, .int .i64 0, .int .i64 0] (0, 0) _ rfl (heap_five _ _ _ _ _ _ _ _ HB.out) Try.underlying36 (by kernel_rfl) (by kernel_rfl)) rfl ?_
  exact ⟨rfl, grown_at HG.out (grown_five _ _ _ _ _ _ _) (Nat.le_refl _)⟩
theorem np_count (h : NP w v) (c : Int) : Calls Try.prog 15 #[v, .int .i64 c] w fun e w' => e = .returned (.int .i64 0) ∧ w.grownBy w' none := by
  have HM := Lib.hid (np_made h)
  clear h
  go_enter Try.func15, Try.ntmps15
  go_wp2_with fail
  refine HM.out.mono ?_
  rintro e w2 ⟨rfl, e2⟩
  subst w2
  go_wp2_with fail
  go_ret
  exact ⟨rfl, grown_refl _ _⟩
theorem np_free (h : NP w v) : Calls Try.prog 13 #[v] w fun e w' => e = .returned (.int .i64 0) ∧ w.grownBy w' none := by
  have HC := Lib.hid (np_count h 0)
  clear h
  go_enter Try.func13, Try.ntmps13
  go_wp2_with fail
  refine HC.out.mono ?_
  rintro e w2 ⟨rfl, g2⟩
  have HG := Lib.hid g2
  clear g2
  go_wp2_with fail
  go_ret
  exact ⟨rfl, HG.out⟩
end

theorem noneOk6 : NoneOk6 NP where
  nil _ := .inl rfl
  kept h _ hb := by
    rcases h with rfl | ⟨p, rfl, h⟩
    · exact .inl rfl
    · exact .inr ⟨p, rfl, (hb ⟨p, 0, none⟩ rfl).trans h⟩
  lt h := by
    rcases h with h | ⟨p, e, h⟩
    · cases h
    · cases e
      exact (Array.getElem?_eq_some_iff.1 h).1
  take h c o i _ _ _ := np_take h c o i
  give h fr _ := np_give h fr
  own h fr c o i _ _ _ _ := np_own h fr c o i
  wire h fr b _ _ := np_wire h fr b
  loan h fr b _ _ := np_loan h fr b
  get h fr _ := np_get h fr
  free h := np_free h
  count h c _ := np_count h c

theorem frOk : FrOk PP where
  lt := by rintro w p rs xs O ⟨g, c, rfl, h⟩; exact h.lt
  kept := by rintro w w' p rs xs O ⟨g, c, rfl, h⟩ _ hb; exact ⟨g, c, rfl, h.kept hb⟩
  good := by rintro w p rs xs O ⟨g, c, rfl, h⟩; exact h.good
  size := by rintro w p rs xs O ⟨g, c, rfl, h⟩; exact ⟨h.len0, h.len1, h.rs0, h.rs1⟩
  new w n rs h1 h2 h3 h4 := (fr_new_ok n rs w h1 h2 h3 h4).mono fun e w' => by
    rintro ⟨r, g, c, he, hp, hg, hb⟩
    exact ⟨r, [r, g], he, ⟨g, c, rfl, hp⟩, hg, hb⟩
  newNo w n rs h := (fr_new_no n rs w h).mono fun e w' => by
    rintro ⟨he, rfl⟩
    exact ⟨he, grown_refl _ _⟩
  take := by rintro w p rs xs O ⟨g, c, rfl, h⟩ cl o i _ ho hi; exact fr_take h cl o i ho hi
  give := by rintro w p rs xs O ⟨g, c, rfl, h⟩ fr _; exact fr_give h fr
  own := by rintro w p rs xs O ⟨g, c, rfl, h⟩ fr cl o i _ _ ho hi; exact fr_own h fr cl o i ho hi
  wire := by rintro w p rs xs O ⟨g, c, rfl, h⟩ fr b _ _; exact fr_wire h fr b
  loan := by rintro w p rs xs O ⟨g, c, rfl, h⟩ fr b _ _; exact fr_loan h fr b
  get := by rintro w p rs xs O ⟨g, c, rfl, h⟩ fr _; exact fr_get h fr
  free := by rintro w p rs xs O ⟨g, c, rfl, h⟩; exact fr_free h
  count := by rintro w p rs xs O ⟨g, c, rfl, h⟩ cl _; exact fr_count h cl
end Go.Proofs.Ytabgfjmfhkfbmaa
