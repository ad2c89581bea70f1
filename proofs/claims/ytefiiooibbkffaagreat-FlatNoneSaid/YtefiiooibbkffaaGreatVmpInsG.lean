/- Layer 16: rows of entries, plainly: parts of a block's cells. No program but the type's size. Layer 16: slices.Insert at entries: a row of the call's own, another such row put in. Layer 16: slices.Insert at entries where there is no room: a new row; where there is: the rest goes up. -/
import Derived.Test.YtefiiooibbkffaaGreatVmpCopy
namespace Go.Proofs.YtefiiooibbkffaaGreat
open Go.ChangeShapes Go.WideShapes Go.ChangeAt Go.RowKit Go.Deep
set_option linter.unusedVariables false
set_option linter.unusedSimpArgs false

theorem sl_at (g i j cap : Nat) : ∃ p, sliced (some ⟨g, 0, none⟩) i j cap 10 = .slice (some p) (j - i) (cap - i) ∧ p.block = g ∧ (i < cap → p = ⟨g, i * 10, none⟩) := by
  unfold sliced
  by_cases h : cap = i
  · rw [if_pos h]
    exact ⟨_, rfl, rfl, fun h2 => by omega⟩
  · rw [if_neg h]
    refine ⟨_, rfl, ?_, fun _ => by simp [Addr.add_mid]⟩
    simp [Addr.add_mid]
theorem ens_take (L : List En) (i : Nat) : (L.take i).flatMap enCells = (L.flatMap enCells).take (i * 10) := by
  induction L generalizing i with
  | nil => simp
  | cons x r ih =>
    cases i with
    | zero => simp
    | succ k =>
      rw [List.take_succ_cons, List.flatMap_cons, List.flatMap_cons, ih, List.take_append, en_len]
      rw [List.take_of_length_le (show (enCells x).length ≤ (k + 1) * 10 by rw [en_len]; omega)]
      congr 2
      omega
theorem ens_drop (L : List En) (i : Nat) : (L.drop i).flatMap enCells = (L.flatMap enCells).drop (i * 10) := by
  induction L generalizing i with
  | nil => simp
  | cons x r ih =>
    cases i with
    | zero => simp
    | succ k =>
      rw [List.drop_succ_cons, List.flatMap_cons, ih, List.drop_append, en_len]
      rw [List.drop_eq_nil_of_le (show (enCells x).length ≤ (k + 1) * 10 by rw [en_len]; omega), List.nil_append]
      congr 1
      omega
theorem flat_size (L : List En) : (L.flatMap enCells).length = L.length * 10 := flat_len enCells 10 en_len L
/-- What the cells of a block say from one element on. -/
theorem slab_part {C : List Value} {L : List En} {n : Nat} (hC : C.take (n * 10) = L.flatMap enCells) (hn : L.length = n) (i : Nat) {j : Nat} {v : Value} (hj : ((L.drop i).flatMap enCells)[j]? = some v) : C[i * 10 + j]? = some v := by
  rw [ens_drop, List.getElem?_drop, ← hC, List.getElem?_take] at hj
  split at hj
  · exact hj
  · cases hj
/-- A stretch, the elements that are put in, and the rest behind them: in whatever order they were written. -/
theorem three_take {C : List Value} {A M D : List En} {i m d : Nat} (ha : A.length = i) (hm : M.length = m) (hd : D.length = d)
    (h1 : ∀ j, j < i * 10 → C[j]? = (A.flatMap enCells)[j]?) (h2 : ∀ j, j < m * 10 → C[i * 10 + j]? = (M.flatMap enCells)[j]?) (h3 : ∀ j, j < d * 10 → C[(i + m) * 10 + j]? = (D.flatMap enCells)[j]?) :
    C.take ((A ++ M ++ D).length * 10) = (A ++ M ++ D).flatMap enCells := by
  have e1 : (A.flatMap enCells).length = i * 10 := by rw [flat_size, ha]
  have e2 : (M.flatMap enCells).length = m * 10 := by rw [flat_size, hm]
  have e3 : (D.flatMap enCells).length = d * 10 := by rw [flat_size, hd]
  have hl : (A ++ M ++ D).length = i + m + d := by simp; omega
  rw [hl, List.flatMap_append, List.flatMap_append]
  apply List.ext_getElem?
  intro j
  rw [List.getElem?_take]
  by_cases k0 : j < (i + m + d) * 10
  · rw [if_pos k0]
    by_cases k1 : j < i * 10
    · rw [h1 j k1, List.getElem?_append_left (by rw [List.length_append]; omega), List.getElem?_append_left (by omega)]
    · by_cases k2 : j < (i + m) * 10
      · have := h2 (j - i * 10) (by omega)
        rw [show i * 10 + (j - i * 10) = j by omega] at this
        rw [this, List.getElem?_append_left (by rw [List.length_append]; omega), List.getElem?_append_right (by omega), e1]
      · have := h3 (j - (i + m) * 10) (by omega)
        rw [show (i + m) * 10 + (j - (i + m) * 10) = j by omega] at this
        rw [this, List.getElem?_append_right (by rw [List.length_append]; omega), List.length_append, e1, e2]
        congr 1
        omega
  · rw [if_neg k0, List.getElem?_eq_none]
    rw [List.length_append, List.length_append]
    omega
theorem take_get {C : List Value} {L : List En} {n : Nat} (hC : C.take (n * 10) = L.flatMap enCells) (i j : Nat) (hi : i ≤ n) (hj : j < i * 10) : C[j]? = ((L.take i).flatMap enCells)[j]? := by
  rw [ens_take, ← hC, List.getElem?_take, if_pos hj, List.getElem?_take, if_pos (by omega)]
theorem drop_get {C : List Value} {L : List En} {n : Nat} (hC : C.take (n * 10) = L.flatMap enCells) (i j : Nat) (hj : i * 10 + j < n * 10) : C[i * 10 + j]? = ((L.drop i).flatMap enCells)[j]? := by
  rw [ens_drop, List.getElem?_drop, ← hC, List.getElem?_take, if_pos hj]
theorem eown_grow0 {w w' : World} {base : Nat} {v : Value} {xs : List En} (h : EOwn w base v xs) (g : w.grownBy w' none) : EOwn w' base v xs := OwnOf.grow h g
theorem eown_kept0 {w w' : World} {base : Nat} {v : Value} {xs : List En} {r : Option Nat} (h : EOwn w base v xs) (g : w.grownBy w' r) (hne : ∀ b, v.ownBlock = some b → r ≠ some b) : EOwn w' base v xs := OwnOf.kept h fun b hb => g.block b (OwnOf.lt h hb).2 (fun e => hne b hb e.symm)
theorem grown_at' {a b e : World} {x : Option Nat} (h : a.grownBy b none) (g : b.grownBy e x) : a.grownBy e x := grown_trans (grown_none h) g
end Go.Proofs.YtefiiooibbkffaaGreat

namespace Go.Proofs.YtefiiooibbkffaaGreat
open Go.ChangeShapes Go.WideShapes Go.ChangeAt Go.RowKit Go.Deep
set_option linter.unusedVariables false
set_option linter.unusedSimpArgs false

/-- Two rows of the calls' own have no element in common. -/
theorem overlaps_no {w : World} {g h n m c d : Nat} {C D : List Value} {p q : Addr} (hg : Slab w g C) (hh : Slab w h D) (hne : g ≠ h) (hp : p.block = g) (hq : q.block = h) (hd : D.length ≠ 0) (hsp : p.spot = none) :
    (callFunc 202 #[.slice (some p) n c, .slice (some q) m d]).run Tryz.prog w = .ok (.value (.bool false)) w := by
  subst hp hq
  have hov := Lib.run_overlaps_apart (P := Tryz.prog) w 47 4 50 Tryz.underlying47 10 (fun w => by rw [← en_elem]; exact en_size w) p q n c m d hne _ _ _ _ hg.shape hh.shape hd (by have := hg.frozen p.off; obtain ⟨b, o, s⟩ := p; cases hsp; exact this) (hg.frozen _)
  rw [run_callFunc_extern Tryz.func202 (by kernel_rfl) (by kernel_rfl) (by kernel_rfl) (e := Extern.SlicesOverlaps.overlaps #[47, 47] #[4]) (by kernel_rfl), hov]
  rfl
theorem en_nil {w : World} {base : Nat} {v : Value} {L : List En} (h : EOwn w base v L) (h0 : L.length = 0) : L = [] := List.length_eq_zero_iff.1 h0
theorem row_src {w : World} {b n c : Nat} {s : Option Addr} {M : List En} (h : EOwn w b (.slice s n c) M) : 0 < M.length → ∃ ad, s = some ad ∧ ∀ (j : Nat) v, (M.flatMap enCells)[j]? = some v → w.cell? (ad.add j) = some v := fun h0 => by
  rcases erow_cases (eown_row h) with ⟨e, rfl⟩ | ⟨ad, c', e, hc⟩
  · simp at h0
  · cases e
    exact ⟨ad, rfl, hc⟩
set_option maxHeartbeats 4000000 in
set_option maxRecDepth 100000 in
/-- Put in at the end. -/
theorem insert_end {w : World} {base bu : Nat} {v u : Value} {L M : List En} (h : EOwn w base v L) (hu : EOwn w bu u M) (hb : base ≤ w.heap.size) (hl : L.length ≤ 100000) (hm : M.length ≤ 100000) (h0 : M.length ≠ 0) :
    Calls Tryz.prog 201 #[v, .int .i64 L.length, u] w fun e w' => ∃ v', e = .returned v' ∧ EOwn w' base v' (L ++ M) ∧ New w v v' ∧ w.grownBy w' v.ownBlock := by
  have hc := (EOwn.ec h).2
  obtain ⟨sv, cv, hv⟩ := OwnOf.form h
  obtain ⟨su, cu, hv2⟩ := OwnOf.form hu
  subst hv hv2
  have hle : L.length ≤ cv := hc _ _ _ rfl
  have hz : ¬ ((M.length : Int) = 0) := by omega
  have hs0 := fun W => run_from W sv L.length cv L.length (Nat.le_refl _) hle
  have HV := Lib.hid h
  have HU := Lib.hid hu
  obtain ⟨n, hn⟩ : ∃ n, L.length = n := ⟨_, rfl⟩
  obtain ⟨m, hm'⟩ : ∃ m, M.length = m := ⟨_, rfl⟩
  have HN := Lib.hid hn
  have HM := Lib.hid hm'
  rw [hn] at hl hs0 HV ⊢
  rw [hm'] at hz hm HU ⊢
  obtain ⟨x0, hx0⟩ : ∃ x0, sliced sv n n cv 10 = x0 := ⟨_, rfl⟩
  rw [hx0] at hs0
  clear h hu hc hle h0 hn hm' hx0
  go_enter Tryz.func201, Tryz.ntmps201
  go_wp2_with (at_builtin; refine wpList_eappN w rfl _ _ rfl base _ L rfl HV.out _ M rfl (eown_row HU.out) (by have := HN.out; have := HM.out; omega) hb ?_; intro v8 w8 hown8 hg8 hn8; have HO8 := Lib.hid hown8; have HG8 := Lib.hid hg8; have HN8 := Lib.hid hn8; clear hown8 hg8 hn8)
  go_ret
  exact ⟨_, rfl, HO8.out, HN8.out, HG8.out⟩
/-- Nothing is put in. -/
theorem insert_none {w : World} {base : Nat} {v u : Value} {L : List En} (h : EOwn w base v L) (hu : u = .slice none 0 0 ∨ ∃ a c, u = .slice (some a) 0 c) (i : Nat) (hi : i ≤ L.length) :
    Calls Tryz.prog 201 #[v, .int .i64 i, u] w fun e w' => e = .returned v ∧ w' = w := by
  have hc := (EOwn.ec h).2
  obtain ⟨sv, cv, hv⟩ := OwnOf.form h
  subst hv
  have hle : L.length ≤ cv := hc _ _ _ rfl
  have hs0 := fun W => run_from W sv L.length cv i hi hle
  obtain ⟨x0, hx0⟩ : ∃ x0, sliced sv i L.length cv 10 = x0 := ⟨_, rfl⟩
  rw [hx0] at hs0
  clear h hc hle hx0 hi
  obtain ⟨n, hn⟩ : ∃ n, L.length = n := ⟨_, rfl⟩
  rw [hn] at hs0 ⊢
  clear hn
  rcases hu with rfl | ⟨a, c, rfl⟩ <;>
  · go_enter Tryz.func201, Tryz.ntmps201
    go_wp2_with fail
    go_ret
    exact ⟨rfl, rfl⟩
end Go.Proofs.YtefiiooibbkffaaGreat

namespace Go.Proofs.YtefiiooibbkffaaGreat
open Go.ChangeShapes Go.WideShapes Go.ChangeAt Go.RowKit Go.Deep
set_option linter.unusedVariables false
set_option linter.unusedSimpArgs false

theorem zero_cells_en : (Value.agg #[.int .i64 0, .int .i64 0, .int .i64 0, .int .i64 0, .bool false, .int .i64 0, .int .i64 0, .int .i64 0, .int .i64 0, .bool false]).cells.size = 10 := by rfl
/-- 'append(s[:i], make([]Entry, k)...)' where there is no room. -/
theorem grow_zeros {w : World} {g i cap n : Nat} {C : List Value} {L : List En} (hg : Slab w g C) (hC : C.take (n * 10) = L.flatMap enCells) (hi : i ≤ n) (hLn : L.length = n) (hCl : C.length = cap * 10) (k : Nat) (h0 : 0 < k) (hno : cap < i + k) (hk : i + k ≤ 1000000) :
    ∃ (cc : Nat) (D : List Value), (∀ ty, (Builtin.append_ #[47, 3] ty #[.slice (some ⟨g, 0, none⟩) i cap, .int .i64 (k : Int)]).run Tryz.prog w = .ok (.slice (some ⟨w.heap.size, 0, none⟩) (i + k) cc) (w.drew.alloc (.cells D.toArray 50))) ∧
      i + k ≤ cc ∧ cc ≤ maxLen ∧ D.length = cc * 10 ∧ ∀ j, j < i * 10 → D[j]? = ((L.take i).flatMap enCells)[j]? := by
  obtain ⟨i0, hin, hz0, hz1, hz2⟩ := en_info
  have hcells : ∀ (j : Nat) v, ((L.take i).flatMap enCells)[j]? = some v → w.drew.cell? ((⟨g, 0, none⟩ : Addr).add j) = some v := fun j v hj => by
    have hj2 : j < i * 10 := by
      have := (List.getElem?_eq_some_iff.1 hj).1
      rw [flat_size, List.length_take] at this
      omega
    rw [Addr.add_mid, Nat.zero_add]
    refine Slab.cell (C := C) hg ?_
    rw [take_get hC i j hi hj2]
    exact hj
  have hsz : ((L.take i).flatMap enCells).length = i * 10 := by rw [flat_size, List.length_take]; omega
  have hold := run_firstCells_some (P := Tryz.prog) w.drew 10 i ⟨g, 0, none⟩ i cap ((L.take i).flatMap enCells) hsz hcells
  have hr := fun ty => Lib.run_append_grow_zeros (P := Tryz.prog) w 47 3 ty 50 i0 _ .i64 .i64 Tryz.underlying47 Tryz.underlying3 hin hz0 (some ⟨g, 0, none⟩) i cap ((L.take i).flatMap enCells) (by rw [hz1]; exact hold) k h0 (by rw [hz1]; omega) hno (by omega) (by rw [hz2]; omega)
    (by rw [hz2]; have := nextslicecap_le hno; omega)
  have hge := grownCap_ge w (i + k) cap 50
  have hle := grownCap_le_maxLen w (i + k) cap 50 (by unfold maxLen; omega)
  obtain ⟨cc, hcc⟩ : ∃ cc, grownCap w (i + k) cap 50 = cc := ⟨_, rfl⟩
  rw [hcc] at hge hle
  simp only [hcc] at hr
  refine ⟨cc, (((L.take i).flatMap enCells).toArray ++ Builtin.zeroCells (Value.agg #[.int .i64 0, .int .i64 0, .int .i64 0, .int .i64 0, .bool false, .int .i64 0, .int .i64 0, .int .i64 0, .int .i64 0, .bool false]).cells k ++ Builtin.zeroCells (Value.agg #[.int .i64 0, .int .i64 0, .int .i64 0, .int .i64 0, .bool false, .int .i64 0, .int .i64 0, .int .i64 0, .int .i64 0, .bool false]).cells (cc - (i + k))).toList, fun ty => by rw [Array.toArray_toList]; exact hr ty, hge, hle, ?_, fun j hj => ?_⟩
  · rw [Array.length_toList, Array.size_append, Array.size_append, size_zeroCells, size_zeroCells, zero_cells_en, List.size_toArray, hsz]
    omega
  · rw [Array.toList_append, Array.toList_append, List.append_assoc, List.getElem?_append_left (by rw [hsz]; exact hj)]
set_option maxHeartbeats 4000000 in
set_option maxRecDepth 100000 in
/-- There is no room: a new row. -/
theorem insert_grow {w : World} {base bu g cap : Nat} {u : Value} {L M : List En} {C : List Value} (hg : Slab w g C) (hCl : C.length = cap * 10) (hC : C.take (L.length * 10) = L.flatMap enCells) (hlc : L.length ≤ cap) (hu : EOwn w bu u M) (hb : base ≤ w.heap.size) (hl : L.length ≤ 100000) (hm : M.length ≤ 100000) (h0 : M.length ≠ 0) (i : Nat) (hi : i < L.length) (hno : cap < L.length + M.length) :
    Calls Tryz.prog 201 #[.slice (some ⟨g, 0, none⟩) L.length cap, .int .i64 i, u] w fun e w' => ∃ v', e = .returned v' ∧ EOwn w' base v' (L.take i ++ M ++ L.drop i) ∧ (∀ b, v'.ownBlock = some b → w.heap.size ≤ b) ∧ w.grownBy w' none := by
  obtain ⟨su, cu, hv2⟩ := OwnOf.form hu
  subst hv2
  obtain ⟨n, hn⟩ : ∃ n, L.length = n := ⟨_, rfl⟩
  obtain ⟨m, hm'⟩ : ∃ m, M.length = m := ⟨_, rfl⟩
  rw [hn] at hl hi hno hC hlc ⊢
  rw [hm'] at hm hu h0 hno ⊢
  have hz : ¬ ((m : Int) = 0) := by omega
  have hz2 : ¬ ((i : Int) = (n : Int)) := by omega
  have b1 : decide ((n : Int) + (m : Int) > (cap : Int)) = true := decide_eq_true (by omega)
  have hs0 := fun W => run_from W (some ⟨g, 0, none⟩) n cap i (by omega) hlc
  obtain ⟨p0, e0, -, -⟩ := sl_at g i n cap
  rw [e0] at hs0
  have hs1 := fun W => run_to W (some ⟨g, 0, none⟩) n cap i (by omega)
  obtain ⟨p1, e1, -, q1⟩ := sl_at g 0 i cap
  rw [e1, q1 (by omega)] at hs1
  simp only [Nat.zero_mul, Nat.sub_zero] at hs1
  obtain ⟨cc, D, hap, hcc1, hcc2, hD, hDi⟩ := grow_zeros hg hC (Nat.le_of_lt hi) hn hCl (n + m - i) (by omega) (by omega) (by omega)
  rw [show i + (n + m - i) = n + m by omega] at hcc1
  rw [show ((n + m - i : Nat) : Int) = (n : Int) + (m : Int) - (i : Int) by omega, show i + (n + m - i) = n + m by omega] at hap
  obtain ⟨w1, hw1⟩ : ∃ w1, w.drew.alloc (.cells D.toArray 50) = w1 := ⟨_, rfl⟩
  obtain ⟨G, hG⟩ : ∃ G, w.heap.size = G := ⟨_, rfl⟩
  simp only [hw1] at hap
  rw [hG] at hap
  have g1 : w.grownBy w1 none := by rw [← hw1]; exact grown_trans (grown_drew1 w) (World.grownBy_alloc _ _ _)
  have s1 : Slab w1 G D := by rw [← hw1, ← hG]; exact heap_alloc_new w.drew _
  have hgG : g < G := by rw [← hG]; exact hg.lt
  have gs : Slab w1 g C := hg.grow g1 (by simp)
  have hu1 := eown_grow0 hu g1
  -- the elements that are put in
  have hs2 := fun W => run_from W (some ⟨G, 0, none⟩) (n + m) cc i (by omega) hcc1
  obtain ⟨p2, e2, -, q2⟩ := sl_at G i (n + m) cc
  rw [e2, q2 (by omega)] at hs2
  have hMl : (M.flatMap enCells).length = m * 10 := by rw [flat_size, hm']
  have hcp1 := fun ty => run_copy10 w1 ty (some ⟨G, i * 10, none⟩) su (n + m - i) (cc - i) m cu m G (i * 10) D (M.flatMap enCells) (by simp only [Nat.min_def]; split <;> omega) hMl (fun h => ⟨rfl, row_src hu1 (by rw [hm']; exact h)⟩) s1 (by omega) (en_ones M)
  obtain ⟨w2, hw2⟩ : ∃ w2, w1.setRow G (putC D (i * 10) (M.flatMap enCells)).toArray = w2 := ⟨_, rfl⟩
  simp only [hw2] at hcp1
  have s2 : Slab w2 G (putC D (i * 10) (M.flatMap enCells)) := by rw [← hw2]; exact slab_put s1
  have g2 : w1.grownBy w2 (some G) := by rw [← hw2]; exact grown_put _ _ _
  have gs2 : Slab w2 g C := gs.grow g2 (by simp; omega)
  -- the rest behind them
  have hs3 : ∀ W, (Instr.slice 47 (.slice (some ⟨G, 0, none⟩) (n + m) cc) (some (.int .i64 ((i : Int) + (m : Int)))) none none).run Tryz.prog W = .ok (sliced (some ⟨G, 0, none⟩) (i + m) (n + m) cc 10) W := fun W => by
    have := run_from W (some ⟨G, 0, none⟩) (n + m) cc (i + m) (by omega) hcc1
    rwa [Int.natCast_add] at this
  obtain ⟨p3, e3, -, q3⟩ := sl_at G (i + m) (n + m) cc
  rw [e3, q3 (by omega)] at hs3
  obtain ⟨p4, e4, -, q4⟩ := sl_at g i n cap
  have hq4 := q4 (by omega)
  have hp0 : p0 = p4 := by rw [e0] at e4; injection e4 with z1 z2 z3; exact Option.some.inj z1
  subst hp0
  subst hq4
  have hPl : (putC D (i * 10) (M.flatMap enCells)).length = cc * 10 := by rw [putC_len (by omega), hD]
  have hDl : ((L.drop i).flatMap enCells).length = (n - i) * 10 := by rw [flat_size, List.length_drop, hn]
  have hcp2 := fun ty => run_copy10 w2.drew ty (some ⟨G, (i + m) * 10, none⟩) (some ⟨g, i * 10, none⟩) (n + m - (i + m)) (cc - (i + m)) (n - i) (cap - i) (n - i) G ((i + m) * 10) _ ((L.drop i).flatMap enCells) (by simp only [Nat.min_def]; split <;> omega) hDl
    (fun h => ⟨rfl, _, rfl, fun j v hj => by rw [Addr.add_mid]; exact Slab.cell (C := C) gs2 (slab_part hC hn i hj)⟩) s2 (by omega) (en_ones _)
  obtain ⟨E, hE⟩ : ∃ E, putC (putC D (i * 10) (M.flatMap enCells)) ((i + m) * 10) ((L.drop i).flatMap enCells) = E := ⟨_, rfl⟩
  rw [hE] at hcp2
  obtain ⟨w3, hw3⟩ : ∃ w3, w2.drew.setRow G E.toArray = w3 := ⟨_, rfl⟩
  simp only [hw3] at hcp2
  have s3 : Slab w3 G E := by rw [← hw3]; exact slab_put (w := w2.drew) s2
  have g3 : w2.grownBy w3 (some G) := by rw [← hw3]; exact grown_at' (grown_drew1 w2) (grown_put _ _ _)
  have hEl : E.length = cc * 10 := by rw [← hE, putC_len (by omega), hPl]
  have hlen : (L.take i ++ M ++ L.drop i).length = n + m := by simp; omega
  have hown : EOwn w3 base (.slice (some ⟨G, 0, none⟩) (n + m) cc) (L.take i ++ M ++ L.drop i) := by
    rw [← hlen]
    refine slab_own (by omega) s3 (by omega) hcc2 hEl (three_take (i := i) (m := m) (d := n - i) (by rw [List.length_take]; omega) hm' (by rw [List.length_drop, hn]) (fun j hj => ?_) (fun j hj => ?_) fun j hj => ?_)
    · rw [← hE, putC_get (by omega), if_pos (by omega), putC_get (by omega), if_pos hj]
      exact hDi j hj
    · rw [← hE, putC_get (by omega), if_pos (by omega), putC_get (by omega), if_neg (by omega), if_pos (by omega)]
      congr 1
      omega
    · rw [← hE, putC_get (by omega), if_neg (by omega), if_pos (by omega)]
      congr 1
      omega
  have hw1' : IntKind.i64.wrap ((i : Int) + (m : Int)) = (i : Int) + (m : Int) := by rw [IntKind.wrap_i64]; omega
  have hb1 : (0 : Int) ≤ (i : Int) + (m : Int) := by omega
  have hb3 : (i : Int) + (m : Int) ≤ (n : Int) + (m : Int) := by omega
  have htn : ((i : Int) + (m : Int)).toNat = i + m := by omega
  have hb2 : ¬ (cc = i + m) := by omega
  have HW := Lib.hid (grown_at (grown_at g1 g2 (by omega)) g3 (by omega))
  have HO := Lib.hid hown
  have HAP := Lib.hid hap
  have HC2 := Lib.hid hcp2
  clear hap hcp2 hown g1 s1 gs hu1 s2 g2 gs2 s3 g3 hg hC hu hE hw1 hw2 hw3 hEl hPl hDl hMl hD hDi hn hm' hlen e0 e1 e2 e3 e4 q1 q2 q3 q4
  go_enter Tryz.func201, Tryz.ntmps201
  go_wp2_with (at_builtin; refine Lib.wpList_append_run _ rfl _ _ _ _ rfl _ _ rfl rfl _ _ (HAP.out _) ?_)
  go_region_law (refine step_copyE rfl _ _ rfl _ _ (by simp [Act.eval, Act.put]) (by simp [Act.eval, Act.put]) (HC2.out _) ?_)
  go_wp2_with fail
  go_ret
  exact ⟨_, rfl, HO.out, fun b hb => by have e : G = b := Option.some.inj hb; omega, HW.out⟩
set_option maxHeartbeats 4000000 in
set_option maxRecDepth 100000 in
/-- There is room: the rest goes up. -/
theorem insert_shift {w : World} {base bu g cap : Nat} {u : Value} {L M : List En} {C : List Value} (hbg : base ≤ g) (hg : Slab w g C) (hCl : C.length = cap * 10) (hcm : cap ≤ maxLen) (hC : C.take (L.length * 10) = L.flatMap enCells) (hlc : L.length ≤ cap) (hu : EOwn w bu u M) (hne : u.ownBlock ≠ some g) (hl : L.length ≤ 100000) (hm : M.length ≤ 100000) (h0 : M.length ≠ 0) (i : Nat) (hi : i < L.length) (hno : L.length + M.length ≤ cap) :
    Calls Tryz.prog 201 #[.slice (some ⟨g, 0, none⟩) L.length cap, .int .i64 i, u] w fun e w' => ∃ v', e = .returned v' ∧ EOwn w' base v' (L.take i ++ M ++ L.drop i) ∧ (∀ b, v'.ownBlock = some b → b = g) ∧ w.grownBy w' (some g) := by
  rcases own_slab hu with ⟨-, hnil⟩ | ⟨h, cu, U, hv2, -, hh, -, -, -, -⟩
  · exact (h0 (by rw [hnil]; rfl)).elim
  subst hv2
  have hgh : h ≠ g := fun e => hne (by rw [e]; rfl)
  obtain ⟨n, hn⟩ : ∃ n, L.length = n := ⟨_, rfl⟩
  obtain ⟨m, hm'⟩ : ∃ m, M.length = m := ⟨_, rfl⟩
  rw [hn] at hl hi hno hC hlc ⊢
  rw [hm'] at hm hu h0 hno ⊢
  have hz : ¬ ((m : Int) = 0) := by omega
  have hz2 : ¬ ((i : Int) = (n : Int)) := by omega
  have b1 : decide ((n : Int) + (m : Int) > (cap : Int)) = false := decide_eq_false (by omega)
  have hs0 := fun W => run_from W (some ⟨g, 0, none⟩) n cap i (by omega) hlc
  obtain ⟨p0, e0, -, -⟩ := sl_at g i n cap
  rw [e0] at hs0
  -- s[:n+m]
  have hs1 : ∀ W, (Instr.slice 47 (.slice (some ⟨g, 0, none⟩) n cap) none (some (.int .i64 ((n : Int) + (m : Int)))) none).run Tryz.prog W = .ok (sliced (some ⟨g, 0, none⟩) 0 (n + m) cap 10) W := fun W => by
    have := run_to W (some ⟨g, 0, none⟩) n cap (n + m) hno
    rwa [Int.natCast_add] at this
  obtain ⟨p1, e1, -, q1⟩ := sl_at g 0 (n + m) cap
  rw [e1, q1 (by omega)] at hs1
  simp only [Nat.zero_mul, Nat.sub_zero] at hs1
  have hs3 : ∀ W, (Instr.slice 47 (.slice (some ⟨g, 0, none⟩) (n + m) cap) (some (.int .i64 ((i : Int) + (m : Int)))) none none).run Tryz.prog W = .ok (sliced (some ⟨g, 0, none⟩) (i + m) (n + m) cap 10) W := fun W => by
    have := run_from W (some ⟨g, 0, none⟩) (n + m) cap (i + m) (by omega) hno
    rwa [Int.natCast_add] at this
  obtain ⟨p3, e3, -, q3⟩ := sl_at g (i + m) (n + m) cap
  rw [e3, q3 (by omega)] at hs3
  have hs4 := fun W => run_from W (some ⟨g, 0, none⟩) (n + m) cap i (by omega) hno
  obtain ⟨p4, e4, -, q4⟩ := sl_at g i (n + m) cap
  rw [e4, q4 (by omega)] at hs4
  have hov := fun c d => overlaps_no (w := w) (n := m) (m := n + m - (i + m)) (c := c) (d := d) (p := ⟨h, 0, none⟩) (q := ⟨g, (i + m) * 10, none⟩) hh hg hgh rfl rfl (by omega) rfl
  have hMl : (M.flatMap enCells).length = m * 10 := by rw [flat_size, hm']
  have hDl : ((L.drop i).flatMap enCells).length = (n - i) * 10 := by rw [flat_size, List.length_drop, hn]
  have hcp1 := fun ty => run_copy10 w.drew ty (some ⟨g, (i + m) * 10, none⟩) (some ⟨g, i * 10, none⟩) (n + m - (i + m)) (cap - (i + m)) (n + m - i) (cap - i) (n - i) g ((i + m) * 10) C ((L.drop i).flatMap enCells) (by simp only [Nat.min_def]; split <;> omega) hDl
    (fun h => ⟨rfl, _, rfl, fun j v hj => by rw [Addr.add_mid]; exact Slab.cell (C := C) (w := w.drew) hg (slab_part hC hn i hj)⟩) hg (by omega) (en_ones _)
  obtain ⟨w2, hw2⟩ : ∃ w2, w.drew.setRow g (putC C ((i + m) * 10) ((L.drop i).flatMap enCells)).toArray = w2 := ⟨_, rfl⟩
  simp only [hw2] at hcp1
  have s2 : Slab w2 g (putC C ((i + m) * 10) ((L.drop i).flatMap enCells)) := by rw [← hw2]; exact slab_put (w := w.drew) hg
  have g2 : w.grownBy w2 (some g) := by rw [← hw2]; exact grown_at' (grown_drew1 w) (grown_put _ _ _)
  have hu2 : EOwn w2 bu (.slice (some ⟨h, 0, none⟩) m cu) M := eown_kept0 hu g2 (fun b hb e => hgh (by cases hb; cases e; rfl))
  have hPl : (putC C ((i + m) * 10) ((L.drop i).flatMap enCells)).length = cap * 10 := by rw [putC_len (by omega), hCl]
  have hcp2 := fun ty => run_copy10 w2 ty (some ⟨g, i * 10, none⟩) (some ⟨h, 0, none⟩) (n + m - i) (cap - i) m cu m g (i * 10) _ (M.flatMap enCells) (by simp only [Nat.min_def]; split <;> omega) hMl (fun h => ⟨rfl, row_src hu2 (by rw [hm']; exact h)⟩) s2 (by omega) (en_ones M)
  obtain ⟨E, hE⟩ : ∃ E, putC (putC C ((i + m) * 10) ((L.drop i).flatMap enCells)) (i * 10) (M.flatMap enCells) = E := ⟨_, rfl⟩
  rw [hE] at hcp2
  obtain ⟨w3, hw3⟩ : ∃ w3, w2.setRow g E.toArray = w3 := ⟨_, rfl⟩
  simp only [hw3] at hcp2
  have s3 : Slab w3 g E := by rw [← hw3]; exact slab_put s2
  have g3 : w2.grownBy w3 (some g) := by rw [← hw3]; exact grown_put _ _ _
  have hEl : E.length = cap * 10 := by rw [← hE, putC_len (by omega), hPl]
  have hlen : (L.take i ++ M ++ L.drop i).length = n + m := by simp; omega
  have hown : EOwn w3 base (.slice (some ⟨g, 0, none⟩) (n + m) cap) (L.take i ++ M ++ L.drop i) := by
    rw [← hlen]
    refine slab_own hbg s3 (by omega) hcm hEl (three_take (i := i) (m := m) (d := n - i) (by rw [List.length_take]; omega) hm' (by rw [List.length_drop, hn]) (fun j hj => ?_) (fun j hj => ?_) fun j hj => ?_)
    · rw [← hE, putC_get (by omega), if_pos hj, putC_get (by omega), if_pos (by omega)]
      exact take_get hC i j (by omega) hj
    · rw [← hE, putC_get (by omega), if_neg (by omega), if_pos (by omega)]
      congr 1
      omega
    · rw [← hE, putC_get (by omega), if_neg (by omega), if_neg (by omega), putC_get (by omega), if_neg (by omega), if_pos (by omega)]
      congr 1
      omega
  have hw1' : IntKind.i64.wrap ((i : Int) + (m : Int)) = (i : Int) + (m : Int) := by rw [IntKind.wrap_i64]; omega
  have hb1 : (0 : Int) ≤ (i : Int) + (m : Int) := by omega
  have hb3 : (i : Int) + (m : Int) ≤ (n : Int) + (m : Int) := by omega
  have htn : ((i : Int) + (m : Int)).toNat = i + m := by omega
  have hb2 : ¬ (cap = i + m) := by omega
  have hb4 : ¬ (cap = i) := by omega
  have hb5 : (i : Int) ≤ (n : Int) + (m : Int) := by omega
  have HW := Lib.hid (grown_trans g2 g3)
  have HO := Lib.hid hown
  have HC1 := Lib.hid hcp1
  clear hcp1 hown s2 g2 s3 g3 hu2 hu hg hC hE hw2 hw3 hEl hPl hDl hMl hn hm' hlen hh hcm hbg hne e0 e1 e3 e4 q1 q3 q4 hCl h0
  go_enter Tryz.func201, Tryz.ntmps201
  go_wp2_with (simp only [hov])
  go_region_law (refine step_copyE rfl _ _ rfl _ _ (by simp [Act.eval, Act.put]) (by simp [Act.eval, Act.put]) (HC1.out _) ?_)
  go_wp2_with fail
  go_ret
  exact ⟨_, rfl, HO.out, fun b hb => by have e : g = b := Option.some.inj hb; exact e.symm, HW.out⟩
end Go.Proofs.YtefiiooibbkffaaGreat
