/- Package entry (landed): stretches of lists, slices.Clone, slices.Grow, slices.Concat. -/
import Derived.Test.YtefiiooibbkffaaGreatEyDa
import Derived.Lib.AppendZeros
namespace Go.Proofs.YtefiiooibbkffaaGreat
open Go.ChangeShapes Go.WideShapes Go.ChangeAt Go.RowKit Go.Deep
set_option linter.unusedVariables false

/-- A list, and room not less than it wants. -/
def EC (w : World) (u : Value) (L : List En) : Prop := ERow w u L ∧ ∀ a l c, u = .slice a l c → l ≤ c
section
variable {w w' : World} {u : Value} {L : List En}
theorem EC.nil (w : World) : EC w (.slice none 0 0) [] := ⟨.inl (RowAt.nil _ _), fun a l c e => by cases e; exact Nat.le_refl _⟩
theorem EC.grow (h : EC w u L) (g : w.grownBy w' none) : EC w' u L := ⟨erow_grow h.1 g, h.2⟩
theorem EC.form (h : EC w u L) : (u = .slice none 0 0 ∧ L = []) ∨ ∃ a c, u = .slice (some a) L.length c ∧ L.length ≤ c := by
  rcases erow_cases h.1 with h0 | ⟨a, c, hv, _⟩
  · exact .inl h0
  · exact .inr ⟨a, c, hv, h.2 _ _ _ hv⟩
theorem EC.slice (h : EC w u L) : ∃ a c, u = .slice a L.length c ∧ L.length ≤ c := by
  rcases h.form with ⟨rfl, rfl⟩ | ⟨a, c, hv, hc⟩
  · exact ⟨_, _, rfl, Nat.le_refl _⟩
  · exact ⟨_, c, hv, hc⟩
theorem EOwn.ec {base : Nat} (h : EOwn w base u L) : EC w u L := by
  refine ⟨eown_row h, fun a l c e => ?_⟩
  rcases h.2 with ⟨h0, _⟩ | ⟨g, cap, cur, hv, _, _, h3, _⟩
  · rw [h0] at e; cases e; exact Nat.le_refl _
  · rw [hv] at e; cases e; exact h3
end
/-- What a stretch of a list is. -/
theorem ec_part {w : World} {a : Option Addr} {c i j : Nat} {L M : List En} (h : EC w (.slice a L.length c) L) (hij : i ≤ j) (hj : j ≤ L.length) (hM : (L.drop i).take (j - i) = M) :
    ∃ a', sliced a i j c 10 = .slice a' M.length (c - i) ∧ EC w (.slice a' M.length (c - i)) M := by
  have hc := h.2 _ _ _ rfl
  have hlen : M.length = j - i := by rw [← hM, List.length_take, List.length_drop]; omega
  rw [hlen]
  refine ⟨if c = i then a else a.map (·.add (i * 10)), rfl, ?_, fun a' l c' e => by cases e; omega⟩
  rcases h.1 with hrow | ⟨hn, a0, c0, ha0⟩
  · rcases hrow.2 with ⟨h0, h1⟩ | ⟨g, o, c2, hv, hg, hcc⟩
    · injection h0 with q1 q2 q3
      subst q1 q3
      have : L = [] := List.length_eq_zero_iff.1 h1
      subst this
      have hj0 : j = 0 := by simpa using hj
      have hi0 : i = 0 := by omega
      subst hi0 hj0
      have : M = [] := List.length_eq_zero_iff.1 (by simpa using hlen)
      subst this
      exact .inl (RowAt.nil _ _)
    · cases hv
      by_cases hci : c = i
      · rw [if_pos hci]
        have : M = [] := List.length_eq_zero_iff.1 (by omega)
        subst this
        rw [show j - i = 0 by omega]
        exact .inr ⟨rfl, _, _, rfl⟩
      · rw [if_neg hci]
        refine .inl ⟨by rw [flat_len enCells 10 en_len], .inr ⟨g, o + i * 10, c - i, by simp [Addr.add_mid, hlen], hg, fun q u hu => ?_⟩⟩
        have e : L.flatMap enCells = (L.take i).flatMap enCells ++ (L.drop i).flatMap enCells := by rw [← List.flatMap_append, List.take_append_drop]
        have e2 : (L.drop i).flatMap enCells = M.flatMap enCells ++ ((L.drop i).drop (j - i)).flatMap enCells := by rw [← hM, ← List.flatMap_append, List.take_append_drop]
        have hl1 : ((L.take i).flatMap enCells).length = i * 10 := by rw [flat_len enCells 10 en_len, List.length_take, show min i L.length = i by omega]
        have hq := (List.getElem?_eq_some_iff.1 hu).1
        have := hcc (i * 10 + q) u (by rw [e, List.getElem?_append_right (by omega), hl1, show i * 10 + q - i * 10 = q by omega, e2, List.getElem?_append_left hq]; exact hu)
        rwa [← Nat.add_assoc] at this
  · subst hn
    injection ha0 with q1 q2 q3
    subst q1 q3
    have hj0 : j = 0 := by simpa using hj
    have hi0 : i = 0 := by omega
    subst hi0 hj0
    have : M = [] := List.length_eq_zero_iff.1 (by simpa using hlen)
    subst this
    refine .inr ⟨rfl, ?_⟩
    by_cases hci : c = 0
    · rw [if_pos hci]; exact ⟨_, _, rfl⟩
    · rw [if_neg hci]; exact ⟨_, _, rfl⟩
theorem en_elem : Tryz.prog.elem 47 = 50 := by kernel_rfl
theorem en_under : Tryz.prog.underlying 47 = some (.slice (Tryz.prog.elem 47)) := by kernel_rfl
theorem en_size (w : World) : (sizeOf (Tryz.prog.elem 47)).run Tryz.prog w = .ok 10 w := by
  obtain ⟨i0, hi, hz0, hz1, hz2⟩ := info_parts info_en
  rw [en_elem]
  simp [sizeOf, typeInfo, hi, hz1]
theorem run_to (w : World) (a : Option Addr) (l c j : Nat) (h : j ≤ c) : (Instr.slice 47 (.slice a l c) none (some (.int .i64 (j : Int))) none).run Tryz.prog w = .ok (sliced a 0 j c 10) w := by
  rw [run_slice_h w 47 a l c en_under .i64 j (by omega) (by omega), en_size]
  simp
theorem run_from (w : World) (a : Option Addr) (l c i : Nat) (h : i ≤ l) (hc : l ≤ c) : (Instr.slice 47 (.slice a l c) (some (.int .i64 (i : Int))) none none).run Tryz.prog w = .ok (sliced a i l c 10) w := by
  have hs : (Tryz.prog.info? 50).map (·.size) = some 10 := by kernel_rfl
  have h1 : (i : Int) ≤ l := by omega
  cases hq : Tryz.prog.info? 50 with
  | none => simp [hq] at hs
  | some k =>
    have hi' : k.size = 10 := by simpa [hq] using hs
    simp [Instr.slice, run_underlying Tryz.underlying47, Instr.sliceBounds, run_sliceBound, sizeOf, typeInfo, sliced, *]
theorem run_between (w : World) (a : Option Addr) (l c i j : Nat) (hij : i ≤ j) (h : j ≤ c) : (Instr.slice 47 (.slice a l c) (some (.int .i64 (i : Int))) (some (.int .i64 (j : Int))) none).run Tryz.prog w = .ok (sliced a i j c 10) w := by
  rw [run_slice_lh w 47 a l c en_under .i64 .i64 i j (by omega) (by omega) (by omega), en_size]
  simp
/-- l[:j], l[i:], l[i:j]: what is run, and what it is. -/
theorem ec_to {w : World} {a : Option Addr} {c j : Nat} {L : List En} (h : EC w (.slice a L.length c) L) (hj : j ≤ L.length) :
    ∃ a' c', (∀ W, (Instr.slice 47 (.slice a L.length c) none (some (.int .i64 (j : Int))) none).run Tryz.prog W = .ok (.slice a' (L.take j).length c') W) ∧ EC w (.slice a' (L.take j).length c') (L.take j) := by
  have hc := h.2 _ _ _ rfl
  obtain ⟨a', h1, h2⟩ := ec_part h (Nat.zero_le j) hj (M := L.take j) (by simp)
  exact ⟨a', c - 0, fun W => by rw [run_to W a _ c j (by omega), h1], h2⟩
theorem ec_from {w : World} {a : Option Addr} {c i : Nat} {L : List En} (h : EC w (.slice a L.length c) L) (hi : i ≤ L.length) :
    ∃ a' c', (∀ W, (Instr.slice 47 (.slice a L.length c) (some (.int .i64 (i : Int))) none none).run Tryz.prog W = .ok (.slice a' (L.drop i).length c') W) ∧ EC w (.slice a' (L.drop i).length c') (L.drop i) := by
  have hc := h.2 _ _ _ rfl
  obtain ⟨a', h1, h2⟩ := ec_part h hi (Nat.le_refl _) (M := L.drop i) (List.take_of_length_le (by simp))
  exact ⟨a', c - i, fun W => by rw [run_from W a _ c i hi hc, h1], h2⟩
theorem ec_mid {w : World} {a : Option Addr} {c i j : Nat} {L : List En} (h : EC w (.slice a L.length c) L) (hij : i ≤ j) (hj : j ≤ L.length) :
    ∃ a' c', (∀ W, (Instr.slice 47 (.slice a L.length c) (some (.int .i64 (i : Int))) (some (.int .i64 (j : Int))) none).run Tryz.prog W = .ok (.slice a' ((L.drop i).take (j - i)).length c') W) ∧ EC w (.slice a' ((L.drop i).take (j - i)).length c') ((L.drop i).take (j - i)) := by
  have hc := h.2 _ _ _ rfl
  obtain ⟨a', h1, h2⟩ := ec_part h hij hj rfl
  exact ⟨a', c - i, fun W => by rw [run_between W a _ c i j hij (by omega), h1], h2⟩

/-! ### slices.Clone -/
theorem eql_en_some (w : World) (a : Addr) (n c : Nat) : (binOp .eql 47 (.slice (some a) n c) (.slice none 0 0)).run Tryz.prog w = .ok (.bool false) w := by
  have h1 : ∀ d : Nat, (Op.equalIn (d + 1) 47 (.slice (some a) n c) (.slice none 0 0)).run Tryz.prog w = .ok false w := fun d => by
    simp [Op.equalIn, run_underlying Tryz.underlying47]
  simp only [binOp]
  simp [Op.equal, Op.maxDepth, h1 9999]
theorem eql_en_none (w : World) : (binOp .eql 47 (.slice none 0 0) (.slice none 0 0)).run Tryz.prog w = .ok (.bool true) w := by kernel_rfl
theorem clone_ok {w : World} {u : Value} {L : List En} (h : EC w u L) (hl : L.length ≤ 1000000) : Calls Tryz.prog 112 #[u] w fun e w' => ∃ u', e = .returned u' ∧ EOwn w' w.heap.size u' L ∧ w.grownBy w' none := by
  rcases h.form with ⟨rfl, rfl⟩ | ⟨a, c, rfl, hc⟩
  · have hq := eql_en_none
    clear h
    go_enter Tryz.func112, Tryz.ntmps112
    go_wp2_with fail
    go_ret
    exact ⟨_, rfl, OwnOf.nil _ _, grown_refl _ _⟩
  · have hq := fun wx => eql_en_some wx a L.length c
    have HA := Lib.hid (h.grow (World.grownBy_alloc w (.cells #[] 50) none))
    clear h
    go_enter Tryz.func112, Tryz.ntmps112
    go_wp2_with (at_builtin; refine wpList_ecopy w rfl _ _ rfl _ L w.heap.size rfl rfl rfl HA.out.1 (by omega) ?_; intro g8 c8 w8 hown8 hg8; have HO8 := Lib.hid hown8; have HG8 := Lib.hid hg8; clear hown8 hg8)
    go_ret
    exact ⟨_, rfl, HO8.out, HG8.out⟩

/-! ### slices.Grow of nothing -/
theorem size_zeros (n : Nat) (z : Array Value) : (Builtin.zeroCells z n).size = n * z.size := size_zeroCells _ _
theorem grow_ok (w : World) (n : Nat) (hn : n ≤ 1000000) : Calls Tryz.prog 200 #[.slice none 0 0, .int .i64 n] w fun e w' => ∃ a c, e = .returned (.slice a 0 c) ∧ EOwn w' w.heap.size (.slice a 0 c) [] ∧ w.grownBy w' none := by
  have b0 : decide ((n : Int) < 0) = false := decide_eq_false (by omega)
  by_cases h0 : n = 0
  · subst h0
    go_enter Tryz.func200, Tryz.ntmps200
    go_wp2_with fail
    go_ret
    exact ⟨_, _, rfl, OwnOf.nil _ _, grown_refl _ _⟩
  · have b1 : decide ((n : Int) > 0) = true := decide_eq_true (by omega)
    obtain ⟨i0, hi, hz0, hz1, hz2⟩ := info_parts info_en
    have hsl : ∀ W, (Instr.slice 47 (.slice none 0 0) none (some (.int .i64 0)) none).run Tryz.prog W = .ok (.slice none 0 0) W := fun W => run_to W none 0 0 0 (Nat.le_refl _)
    have hr := fun ty => Lib.run_append_nil_zeros (P := Tryz.prog) w 47 3 ty 50 i0 _ .i64 .i64 Tryz.underlying47 Tryz.underlying3 hi hz0 n (by omega) (by omega) (by omega) (by rw [hz2]; omega)
    obtain ⟨cc, hcc⟩ : ∃ cc, grownCap w n 0 50 = cc := ⟨_, rfl⟩
    have hge := grownCap_ge w n 0 50
    have hle := grownCap_le_maxLen w n 0 50 (by unfold maxLen; omega)
    rw [hcc] at hge hle
    simp only [hcc] at hr
    obtain ⟨ob, hob⟩ : ∃ ob, Builtin.zeroCells (Value.agg #[.int .i64 0, .int .i64 0, .int .i64 0, .int .i64 0, .bool false, .int .i64 0, .int .i64 0, .int .i64 0, .int .i64 0, .bool false]).cells n ++ Builtin.zeroCells (Value.agg #[.int .i64 0, .int .i64 0, .int .i64 0, .int .i64 0, .bool false, .int .i64 0, .int .i64 0, .int .i64 0, .int .i64 0, .bool false]).cells (cc - n) = ob := ⟨_, rfl⟩
    have hsz : ob.size = cc * 10 := by
      rw [← hob, Array.size_append, size_zeroCells, size_zeroCells]
      show n * 10 + (cc - n) * 10 = cc * 10
      omega
    simp only [hob] at hr
    have hsl2 : ∀ W, (Instr.slice 47 (.slice (some ⟨w.heap.size, 0, none⟩) n cc) none (some (.int .i64 0)) none).run Tryz.prog W = .ok (.slice (some ⟨w.heap.size, 0, none⟩) 0 cc) W := fun W => by
      rw [show (0 : Int) = ((0 : Nat) : Int) from rfl, run_to W _ n cc 0 (Nat.zero_le _)]
      unfold sliced
      rw [if_neg (by omega)]
      rfl
    have HO := Lib.hid (show EOwn (w.drew.alloc (.cells ob 50)) w.heap.size (.slice (some ⟨w.heap.size, 0, none⟩) 0 cc) [] from
      ⟨rfl, .inr ⟨w.heap.size, cc, ob, rfl, Nat.le_refl _, heap_alloc_new w.drew _, Nat.zero_le _, hle, hsz, rfl⟩⟩)
    have HR := Lib.hid hr
    clear hr hge hle hsz hob hcc hi hz0 hz1 hz2
    go_enter Tryz.func200, Tryz.ntmps200
    go_wp2_with (at_builtin; refine Lib.wpList_append_run _ rfl _ _ _ _ rfl _ _ rfl rfl _ _ (HR.out _) ?_)
    go_ret
    exact ⟨_, _, rfl, HO.out, grown_trans (grown_drew1 w) (World.grownBy_alloc _ _ _)⟩

/-! ### slices.Concat -/
theorem MkOf.app0 {α : Type} {cells : α → List Value} {size : Nat} {t : TypeId} {w wr w2 : World} {v v2 : Value} {xs zs : List α} (h : MkOf cells size t w wr v xs) (g : wr.grownBy w2 v.ownBlock) (hown : OwnOf cells size t w2 w.heap.size v2 zs) : MkOf cells size t w w2 v2 zs :=
  ⟨grown_own h.grown g fun x hx => (h.own.lt hx).1, hown⟩
/-- 'append(l, m...)' onto a row of the call's own. -/
theorem wpList_eapp {ops : Array Oper} {rest : List Oper} {o : Oper} {a : Act} {Q : Exit → Act → World → Prop} (w : World) (hgd : o.guard = none) (s x : Operand)
    (ho : o.op = .call { callee := .builtin .append, args := #[s, x], argTypes := #[47, 47] }) (base : Nat) (v : Value) (xs : List En) (hs : a.eval s = v) (h : EOwn w base v xs) (v2 : Value) (ys : List En) (hx : a.eval x = v2) (hy : ERow w v2 ys)
    (hl : xs.length + ys.length ≤ 1000000) (hbase : base ≤ w.heap.size)
    (hK : ∀ v' w', EOwn w' base v' (xs ++ ys) → w.grownBy w' v.ownBlock → wpList Tryz.prog ops Q rest (a.put o.dst v') w') :
    wpList Tryz.prog ops Q (o :: rest) a w := by
  obtain ⟨i0, hi, hz0, hz1, hz2⟩ := info_parts info_en
  rcases erow_cases hy with ⟨rfl, h0⟩ | ⟨ad, c, rfl, hc⟩
  · refine wpList_append_own_none hgd s x 47 ho base 50 i0 10 Tryz.underlying47 hi v xs.length (xs.flatMap enCells) hs h hx ?_
    subst h0
    exact hK v w (by rw [List.append_nil]; exact h) (grown_refl _ _)
  · refine wpList_append_own_at _ hgd s x 47 ho base 50 i0 (.agg #[.int .i64 0, .int .i64 0, .int .i64 0, .int .i64 0, .bool false, .int .i64 0, .int .i64 0, .int .i64 0, .int .i64 0, .bool false]) 10 80 Tryz.underlying47 hi hz0 hz1 hz2 rfl (by decide) v xs.length (xs.flatMap enCells) hs h ad ys.length c (ys.flatMap enCells) hx (flat_len enCells 10 en_len ys) hc (en_ones ys) (by unfold maxLen; omega) (by omega) hbase ?_
    intro v' w' hown' hgrow hnil hat
    refine hK v' w' ?_ hgrow
    unfold EOwn OwnOf
    rw [List.length_append, List.flatMap_append]
    exact hown'
/-- Lists, one behind the other. -/
def EParts (w : World) (u : Value) (Ps : List (List En)) : Prop := ∃ B, u = .slice (some ⟨B, 0, none⟩) Ps.length Ps.length ∧ ∀ (i : Nat) P, Ps[i]? = some P → ∃ v, w.cell? ⟨B, i, none⟩ = some v ∧ EC w v P
def lenAll (Ps : List (List En)) : Nat := (Ps.map List.length).sum
theorem lenAll_snoc (Ps : List (List En)) (P : List En) : lenAll (Ps ++ [P]) = lenAll Ps + P.length := by unfold lenAll; simp
theorem lenAll_flat (Ps : List (List En)) : Ps.flatten.length = lenAll Ps := by unfold lenAll; rw [List.length_flatten]
theorem lenAll_take (Ps : List (List En)) (i : Nat) : lenAll (Ps.take i) ≤ lenAll Ps := by
  have : lenAll Ps = lenAll (Ps.take i) + lenAll (Ps.drop i) := by
    unfold lenAll
    rw [← List.sum_append, ← List.map_append, List.take_append_drop]
  omega
section
variable {w w' : World} {u : Value} {Ps : List (List En)}
theorem EParts.grow (h : EParts w u Ps) (g : w.grownBy w' none) : EParts w' u Ps := by
  obtain ⟨B, hv, hc⟩ := h
  refine ⟨B, hv, fun i P hP => ?_⟩
  obtain ⟨v, h1, h2⟩ := hc i P hP
  exact ⟨v, g.cell h1 (by simp), h2.grow g⟩
theorem EParts.at {B i : Nat} {P : List En} (h : EParts w (.slice (some ⟨B, 0, none⟩) Ps.length Ps.length) Ps) (hP : Ps[i]? = some P) : ∃ a c, w.cell? ⟨B, i, none⟩ = some (.slice a P.length c) ∧ EC w (.slice a P.length c) P := by
  obtain ⟨B', hv, hc⟩ := h
  cases hv
  obtain ⟨v, h1, h2⟩ := hc i P hP
  obtain ⟨a, c, rfl, -⟩ := h2.slice
  exact ⟨a, c, h1, h2⟩
set_option maxHeartbeats 4000000 in
theorem concat_ok (h : EParts w u Ps) (h3 : Ps.length ≤ 3) (hl : lenAll Ps ≤ 1000000) :
    Calls Tryz.prog 185 #[u] w fun e w' => ∃ u', e = .returned u' ∧ EOwn w' w.heap.size u' Ps.flatten ∧ w.grownBy w' none := by
  have HH := Lib.hid h
  obtain ⟨B, hv, -⟩ := h
  subst hv
  go_enter Tryz.func185, Tryz.ntmps185
  go_wp2_with fail
  go_loopw [3, 5, 11] (fun sv _ iv wr => ∃ i t : Nat, i ≤ Ps.length ∧ sv = .int .i64 t ∧ iv = .int .i64 i ∧ Hid (lenAll (Ps.take i) = t) ∧ Hid (w.grownBy wr none)) (fun _ _ iv _ => Ps.length - (intOf iv).toNat)
  case atStart => exact ⟨0, 0, by omega, rfl, rfl, rfl, grown_refl _ _⟩
  case round =>
    obtain ⟨i, t, hi, rfl, rfl, HT, HB⟩ := hrel
    by_cases hlt : i < Ps.length
    · obtain ⟨P, hP⟩ : ∃ P, Ps[i]? = some P := ⟨_, List.getElem?_eq_getElem hlt⟩
      obtain ⟨sa, sc, k0, hrun⟩ := (HH.out.grow HB.out).at hP
      have hT2 : lenAll (Ps.take (i + 1)) = t + P.length := by rw [takel_at hP, lenAll_snoc, HT.out]
      have hle := lenAll_take Ps (i + 1)
      rw [hT2] at hle
      have hb1 : t + P.length ≤ 1000000 := by omega
      have b0 : decide ((t : Int) + (P.length : Int) < 0) = false := decide_eq_false (by omega)
      have HT2 := Lib.hid hT2
      clear hrun hP hT2 hle
      go_wp2_with fail
      go_roundw
      case rel => exact ⟨i + 1, t + P.length, by omega, by go_num, by go_num, HT2, HB⟩
      case measure => simp [intOf]; omega
    · obtain rfl : i = Ps.length := by omega
      have hTt : lenAll Ps = t := by have := HT.out; rwa [List.take_length] at this
      have HG := Lib.hid (grow_ok wr t (by omega))
      clear HT hTt
      go_wp2_with fail
      refine HG.out.mono ?_
      rintro e w2 ⟨ga, gc, rfl, hown, g2⟩
      have HM := Lib.hid (show EMk w w2 (.slice ga 0 gc) ((Ps.take 0).flatten) from ⟨grown_trans HB.out g2, OwnOf.lower hown HB.out.size⟩)
      clear hown g2
      go_wp2_with fail
      go_loopw [6, 8, 27] (fun vv _ iv wr => ∃ i : Nat, i ≤ Ps.length ∧ iv = .int .i64 i ∧ Hid (EMk w wr vv ((Ps.take i).flatten))) (fun _ _ iv _ => Ps.length - (intOf iv).toNat)
      case atStart => exact ⟨0, by omega, rfl, HM⟩
      case round =>
        clear HM
        obtain ⟨i, hi, rfl, HJ⟩ := hrel
        by_cases hlt2 : i < Ps.length
        · obtain ⟨P, hP⟩ : ∃ P, Ps[i]? = some P := ⟨_, List.getElem?_eq_getElem hlt2⟩
          obtain ⟨sa, sc, k0, hrun⟩ := (HH.out.grow HJ.out.grown).at hP
          have HP := Lib.hid hrun.1
          have hT2 : (Ps.take (i + 1)).flatten = (Ps.take i).flatten ++ P := by rw [takel_at hP]; simp
          have hle := lenAll_take Ps (i + 1)
          rw [← lenAll_flat, hT2, List.length_append] at hle
          obtain ⟨J, hJ⟩ : ∃ J, (Ps.take i).flatten = J := ⟨_, rfl⟩
          rw [hJ] at HJ hT2 hle
          have HT2 := Lib.hid hT2
          have hb1 : J.length + P.length ≤ 1000000 := by omega
          obtain ⟨va, vc, hvf⟩ := OwnOf.form HJ.out.own
          subst hvf
          clear hrun hP hT2 hle hJ
          go_wp2_with (at_builtin; refine wpList_eapp _ rfl _ _ rfl w.heap.size _ J (by rfl) HJ.out.own _ P (by rfl) HP.out hb1 HJ.out.grown.size ?_; intro v8 w8 hown8 hg8; have HJ8 := Lib.hid (MkOf.app0 HJ.out hg8 hown8); clear hown8 hg8)
          go_roundw
          case rel => exact ⟨i + 1, by omega, by go_num, by rw [HT2.out]; exact HJ8⟩
          case measure => simp [intOf]; omega
        · obtain rfl : i = Ps.length := by omega
          rw [List.take_length] at HJ
          obtain ⟨va, vc, hvf⟩ := OwnOf.form HJ.out.own
          subst hvf
          go_wp2_with fail
          go_ret
          exact ⟨_, rfl, HJ.out.own, HJ.out.grown⟩
end
end Go.Proofs.YtefiiooibbkffaaGreat
