/- Package entry (landed): the sort by Start; Whole. -/
import Derived.Test.YtefiiooibbkffaaGreatEyDb
import Derived.Test.YtefiiooibbkffaaGreatEyLay
namespace Go.Proofs.YtefiiooibbkffaaGreat
open Go.ChangeShapes Go.WideShapes Go.ChangeAt Go.RowKit Go.Deep Go.Sort Go.Shelf
set_option linter.unusedVariables false

instance : Inhabited En := ⟨zeroE⟩
theorem isNaN_int (x : Int) (w : World) : Calls Tryz.prog 198 #[.int .i64 x] w fun e w' => e = .returned (.bool false) ∧ w' = w := by
  go_enter Tryz.func198, Tryz.ntmps198
  go_wp2_with fail
  go_ret
  exact ⟨by simp, rfl⟩
theorem compare_int (x y : Int) (w : World) : Calls Tryz.prog 189 #[.int .i64 x, .int .i64 y] w fun e w' => e = .returned (.int .i64 (Lib.compareInt x y)) ∧ w' = w := by
  have hN := isNaN_int
  have HN := Lib.hid hN
  clear hN
  rcases Int.lt_trichotomy x y with h | h | h
  · rw [show Lib.compareInt x y = -1 by unfold Lib.compareInt; simp [h]]
    have d0 : decide (x < y) = true := decide_eq_true h
    clear h
    go_enter Tryz.func189, Tryz.ntmps189
    go_wp2_with (go_at_call 198; refine (HN.out _ _).mono ?_; rintro e w' ⟨rfl, e2⟩; subst w')
    go_ret
    exact ⟨rfl, rfl⟩
  · subst h
    rw [show Lib.compareInt x x = 0 by unfold Lib.compareInt; simp]
    go_enter Tryz.func189, Tryz.ntmps189
    go_wp2_with (go_at_call 198; refine (HN.out _ _).mono ?_; rintro e w' ⟨rfl, e2⟩; subst w')
    go_ret
    exact ⟨rfl, rfl⟩
  · rw [show Lib.compareInt x y = 1 by unfold Lib.compareInt; simp [h]; omega]
    have d0 : decide (x < y) = false := decide_eq_false (by omega)
    have d1 : decide (x > y) = true := decide_eq_true h
    clear h
    go_enter Tryz.func189, Tryz.ntmps189
    go_wp2_with (go_at_call 198; refine (HN.out _ _).mono ?_; rintro e w' ⟨rfl, e2⟩; subst w')
    go_ret
    exact ⟨rfl, rfl⟩
def cfE (x y : En) : Int := Lib.compareInt x.s y.s
theorem closure_en (x y : En) (W : World) : Calls Tryz.prog 188 #[.agg (enCells x).toArray, .agg (enCells y).toArray] W fun e w' => e = .returned (.int .i64 (cfE x y)) ∧ ∃ q os', w' = grow (W.drewN q) os' := by
  have hcon := fun W' => compare_int x.s y.s W'
  have HC := Lib.hid hcon
  clear hcon
  unfold cfE enCells
  generalize Lib.compareInt x.s y.s = r at *
  go_enter Tryz.func188, Tryz.ntmps188
  go_wp2_with (go_at_call 189; refine (HC.out _).mono ?_; rintro e w' ⟨rfl, rfl⟩)
  go_ret
  exact ⟨rfl, 0, _, by rw [alloc_eq_grow, alloc_eq_grow, grow_grow]; rfl⟩
theorem lt_en (x y : En) : ltOf cfE x y = decide (x.s < y.s) := by
  unfold ltOf cfE Lib.compareInt
  by_cases h1 : x.s < y.s
  · simp [h1]
  · by_cases h2 : y.s < x.s <;> simp [h1, h2]
theorem swo_en : SWO (ltOf cfE) where
  irrefl x := by rw [lt_en]; simp
  trans x y z h1 h2 := by rw [lt_en] at *; simp at *; omega
  ntrans x y z h1 h2 := by rw [lt_en] at *; simp at *; omega
theorem getLB {α : Type} [Inhabited α] {l : List α} {i : Nat} {u : α} (h : l[i]? = some u) : l[i]! = u := by rw [List.getElem!_eq_getElem?_getD, h]; rfl
theorem getA {α : Type} [Inhabited α] {d : Array α} {i : Nat} (h : i < d.size) : d[i]! = d[i] := getElem!_pos d i h
theorem getB {xs : List En} {i : Nat} {y : En} (h : xs[i]? = some y) : xs.toArray[i]! = y := by
  have hl := (List.getElem?_eq_some_iff.1 h).1
  rw [getElem!_pos _ _ (by simpa using hl)]
  have := (List.getElem?_eq_some_iff.1 h).2
  simpa using this
theorem holds_own {w : World} {base g c : Nat} {t : TypeId} {xs : List En} (h : OwnOf enCells 10 t w base (.slice (some ⟨g, 0, none⟩) xs.length c) xs) : HoldsK enCells 10 w g 0 xs.toArray := by
  intro j hj
  have hj4 : j < xs.length * 10 := by simpa using hj
  obtain ⟨y, hy⟩ : ∃ y, xs[j / 10]? = some y := ⟨_, List.getElem?_eq_getElem (by omega)⟩
  obtain ⟨u, hu⟩ : ∃ u, (enCells y)[j % 10]? = some u := ⟨_, List.getElem?_eq_getElem (by rw [en_len]; omega)⟩
  refine ⟨?_, OwnOf.frozen h _⟩
  have h1 := OwnOf.at en_len h hy hu
  rw [show j / 10 * 10 + j % 10 = j by omega] at h1
  rw [Nat.zero_add, h1, get_flatK _ _ _ _ (by simpa using hj4), getB hy]
  rw [getLB hu]
  rfl
theorem row_held {w : World} {g c : Nat} {d : Array En} (h : HoldsK enCells 10 w g 0 d) (hg : g < w.heap.size) : RowOf enCells 10 w (.slice (some ⟨g, 0, none⟩) d.toList.length c) d.toList := by
  refine ⟨by rw [flat_len enCells 10 en_len], .inr ⟨g, 0, c, rfl, hg, fun j u hu => ?_⟩⟩
  have hl := (List.getElem?_eq_some_iff.1 hu).1
  rw [flat_len enCells 10 en_len] at hl
  obtain ⟨y, hy⟩ : ∃ y, d.toList[j / 10]? = some y := ⟨_, List.getElem?_eq_getElem (by omega)⟩
  obtain ⟨v, hv⟩ : ∃ v, (enCells y)[j % 10]? = some v := ⟨_, List.getElem?_eq_getElem (by rw [en_len]; omega)⟩
  have h1 := flat_at enCells 10 en_len d.toList (j / 10) y hy (j % 10) v hv
  rw [show j / 10 * 10 + j % 10 = j by omega, hu] at h1
  cases h1
  have h2 := (h j (by simp; simpa using hl)).1
  rw [get_flatK _ _ _ _ (by simpa using hl), show d[j / 10]! = y by have := getB hy; simpa using this] at h2
  rw [Nat.zero_add] at h2 ⊢
  rw [h2, getLB hv]
  rfl
theorem grown_sorted (w : World) (g n : Nat) (d : Array En) (os : Array Obj) : w.grownBy (sortWorldK enCells 10 w g 0 n d os) (some g) := by
  refine ⟨rfl, rfl, rfl, size_sortWorldK_c enCells 10 w g 0 n d os, fun k hk hr => ?_⟩
  have hne : g ≠ k := fun e => hr (by rw [e])
  show (w.heap.modify g _ ++ os)[k]? = _
  rw [Array.getElem?_append_left (by simpa using hk), Array.getElem?_modify, if_neg hne]
theorem sorted_is {L : List En} {d' : Array En} (hl : L.Pairwise fun a b => a.s < b.s) (hp : PermIn 0 L.toArray.size L.toArray d') (hs : SortedIn (ltOf cfE) 0 L.toArray.size d') : d'.toList = L := by
  obtain ⟨hsz, -, hperm⟩ := hp
  have e1 : (d'.extract 0 L.toArray.size).toList = d'.toList := by rw [← hsz]; simp
  have e2 : (L.toArray.extract 0 L.toArray.size).toList = L := by simp
  rw [e1, e2] at hperm
  have hnd : (d'.toList.map (·.s)).Nodup := ((hperm).map _).nodup_iff.2 (List.pairwise_map.2 (hl.imp fun h => by omega))
  refine List.Perm.eq_of_pairwise (le := fun a b : En => a.s < b.s) (fun x y hx hy h1 h2 => by omega) ?_ hl hperm
  rw [List.pairwise_iff_getElem]
  intro i j hi hj hij
  have hi' : i < d'.size := by simpa using hi
  have hj' : j < d'.size := by simpa using hj
  have h1 := hs i j (Nat.zero_le _) hij (by rw [← hsz]; exact hj')
  rw [lt_en, getA hi', getA hj'] at h1
  have h1 : ¬ (d'[j].s < d'[i].s) := by simpa using h1
  have h2 := List.pairwise_iff_getElem.1 hnd i j (by simpa using hi) (by simpa using hj) hij
  simp at h2 ⊢
  omega
/-- The sort's contract, at a row that the call has made of a list that may be. -/
theorem sort_en {wr : World} {base : Nat} {v : Value} {L : List En} (h : EOwn wr base v L) (hr : RF 0 L) (hlen : L.length ≤ 1000000) :
    Calls Tryz.prog 187 #[v, .func (.func 188) #[] #[]] wr fun e w' => e = .returned (.tuple #[]) ∧ ERow w' v L ∧ wr.grownBy w' v.ownBlock := by
  by_cases h0 : L.length = 0
  · have hZ0 := List.length_eq_zero_iff.1 h0
    subst hZ0
    obtain ⟨s, c, rfl⟩ := OwnOf.form h
    have h1 := AnyF.slices_SortFunc_none Tryz.sortP s c (.func (.func 188) #[] #[]) wr
    refine h1.mono ?_
    rintro e w' ⟨rfl, rfl⟩
    exact ⟨rfl, eown_row h, grown_refl _ _⟩
  · obtain ⟨g, c, rfl⟩ := OwnOf.there h (by omega)
    have hl : L.Pairwise fun a b => a.s < b.s := by
      rw [List.pairwise_iff_getElem]
      intro i j hi hj hij
      have h1 := rf_two hr hij (List.getElem?_eq_getElem hi) (List.getElem?_eq_getElem hj)
      have h2 := (rf_at hr (List.getElem?_eq_getElem hi)).lt
      omega
    have eg : ∀ args w, (callFunc 188 args).run Tryz.prog w = .ok (.enter 188 args) w := enters_of Tryz.func188 (by kernel_rfl) rfl
    have hcmp : CmpLays Tryz.prog 188 #[] enCells 10 cfE g 0 L.toArray.size wr := fun _ _ _ _ x y => closure_en x y _
    have hg := (OwnOf.lt h (g := g) rfl).2
    have hcon := AnyQ.slices_SortFunc Tryz.sortP 10 Tryz.isAgg50 Tryz.sizeOf50 enCells en_len (fun x v hv => en_one x v hv) cfE swo_en 188 #[] g 0 c L.toArray wr eg hcmp (holds_own h) hg (by simp; omega)
    have hsz : L.toArray.size = L.length := by simp
    rw [hsz] at hcon
    refine hcon.mono ?_
    rintro e w' ⟨rfl, d', n, os, hp, hs, rfl⟩
    have hd := sorted_is hl (by rw [hsz]; exact hp) (by rw [hsz]; exact hs)
    have hgr := grown_sorted wr g n d' os
    have hds : d'.size = L.toArray.size := by rw [hp.1]
    have hh := holdsK_sortWorldK_c enCells 10 wr g 0 L.toArray d' n os (holds_own h) hg hds
    have hr := row_held (c := c) hh (Nat.lt_of_lt_of_le hg hgr.size)
    refine ⟨rfl, ?_, hgr⟩
    rw [hd] at hr
    exact .inl hr
theorem goW_cons (a : Int) (x : En) (r : List En) : goW a (x :: r) = if a < x.s then a else goW (max a x.e) r := rfl
set_option maxHeartbeats 2000000 in
theorem whole_ok {w : World} {s : Option Addr} {c : Nat} {L : List En} (h : EC w (.slice s L.length c) L) (hr : RF 0 L) (hl : L.length ≤ 1000000) (lo hi : Int) (d : Bool) (hd : wholeB L lo hi = d) :
    Calls Tryz.prog 159 #[.slice s L.length c, .int .i64 lo, .int .i64 hi] w fun e w' => e = .returned (.bool d) ∧ w.grownBy w' none := by
  have HC := Lib.hid (clone_ok h hl)
  have HR := Lib.hid hr
  have HD := Lib.hid hd
  clear h hr hd
  go_enter Tryz.func159, Tryz.ntmps159
  go_wp2_with fail
  refine HC.out.mono ?_
  rintro e w2 ⟨u, rfl, hown, g2⟩
  have HS := Lib.hid (sort_en hown HR.out hl)
  have HG := Lib.hid (show ∀ w3, w2.grownBy w3 u.ownBlock → w.grownBy w3 none from fun w3 g3 => grown_own g2 g3 fun x hx => (OwnOf.lt hown hx).1)
  obtain ⟨a', c', hvf⟩ := OwnOf.form hown
  subst hvf
  clear hown g2
  go_wp2_with fail
  refine HS.out.mono ?_
  rintro e w3 ⟨rfl, hrow, g3⟩
  have HX := Lib.hid hrow
  have HG3 := Lib.hid (HG.out w3 g3)
  clear hrow g3
  go_wp2_with fail
  go_loopw [8, 18] (fun av iv wr => ∃ (q : Nat) (b : Int), q ≤ L.length ∧ av = .int .i64 b ∧ iv = .int .i64 q ∧ Hid (goW lo L = goW b (L.drop q)) ∧ Hid (w3.grownBy wr none)) (fun _ iv _ => L.length - (intOf iv).toNat)
  case atStart => exact ⟨0, lo, by omega, rfl, rfl, rfl, grown_refl _ _⟩
  case round =>
    obtain ⟨q, b, hq, rfl, rfl, HE, HB⟩ := hrel
    by_cases hlt : q < L.length
    · obtain ⟨x, hx⟩ : ∃ x, L[q]? = some x := ⟨_, List.getElem?_eq_getElem hlt⟩
      obtain ⟨g, o, c1, hv1, ka0, ka1, ka2, ka3, ka4, ka5, ka6, ka7, ka8, ka9⟩ := en_cells (erow_grow HX.out HB.out) hx
      injection hv1 with e1 e2 e3
      subst e1 e3
      have HB1 := Lib.hid (grown_trans HB.out (grown_box wr x))
      have hE := HE.out
      rw [get_eq hx, goW_cons] at hE
      by_cases k1 : x.s > b
      · rw [if_pos (by omega)] at hE
        have hb1 : decide (x.s > b) = true := decide_eq_true k1
        have hb2 : decide (b ≥ hi) = d := by rw [← HD.out]; unfold wholeB; rw [hE]
        clear hx hE k1
        go_wp2_with fail
        go_ret
        exact ⟨rfl, grown_trans HG3.out HB1.out⟩
      · rw [if_neg (by omega)] at hE
        have hb1 : decide (x.s > b) = false := decide_eq_false k1
        obtain ⟨m, hm⟩ : ∃ m, max b x.e = m := ⟨_, rfl⟩
        rw [hm] at hE
        have HE2 := Lib.hid hE
        clear hx hE k1
        go_wp2_with fail
        go_roundw
        case rel => exact ⟨q + 1, m, by omega, by first | rfl | (simp [← hm]; done), by go_num, HE2, HB1⟩
        case measure => simp [intOf]; omega
    · obtain rfl : q = L.length := by omega
      have hE := HE.out
      rw [List.drop_length] at hE
      have hb2 : decide (b ≥ hi) = d := by rw [← HD.out]; unfold wholeB; rw [hE]; rfl
      clear hE
      go_wp2_with fail
      go_ret
      exact ⟨rfl, grown_trans HG3.out HB.out⟩
end Go.Proofs.YtefiiooibbkffaaGreat
