/- TlbAsids, walked out of what package tlb says: it answers true, and nothing that was there has turned. -/
import Derived.Test.YtmddflhacamnaaaTEldest
import Derived.Test.YtmddflhacamnaaaTInts
namespace Go.Proofs.Ytmddflhacamnaaa
open Go.ChangeShapes Go.WideShapes Go.ChangeAt Go.RowKit
set_option linter.unusedVariables false

/-- A row of keys that the law makes. -/
def KeyOwn (w : World) (base : Nat) (v : Value) (xs : List KeptV) : Prop := w.ownsRow base 29 2 v xs.length (xs.flatMap keyCells)
section
variable {w w' : World} {base : Nat} {v : Value} {xs : List KeptV}
theorem KeyOwn.nil (w : World) (base : Nat) : KeyOwn w base (.slice none 0 0) [] := World.ownsRow_nil _ _ _ _
theorem KeyOwn.lt (h : KeyOwn w base v xs) {g : Nat} (hg : v.ownBlock = some g) : base ≤ g ∧ g < w.heap.size := World.ownsRow.lt h g hg
theorem KeyOwn.kept (h : KeyOwn w base v xs) (hb : ∀ g, v.ownBlock = some g → w'.heap[g]? = w.heap[g]?) : KeyOwn w' base v xs := by
  refine ⟨h.1, ?_⟩
  rcases h.2 with hn | ⟨g, cap, cur, rfl, hb2, hgg, rest⟩
  · exact .inl hn
  · exact .inr ⟨g, cap, cur, rfl, hb2, (hb g rfl).trans hgg, rest⟩
end
theorem info_key : (Try.prog.info? 29).map (fun i => (i.zero, i.size, i.bytes)) = some (some (.agg #[.int .i64 0, .int .i64 0]), 2, 16) := by kernel_rfl
theorem wpList_key {ops : Array Oper} {rest : List Oper} {o : Oper} {a : Act} {Q : Exit → Act → World → Prop} (w : World) (hgd : o.guard = none) (s x : Operand)
    (ho : o.op = .call { callee := .builtin .append, args := #[s, x], argTypes := #[44, 44] }) (base : Nat) (v : Value) (xs : List KeptV) (y : KeptV) (hs : a.eval s = v) (h : KeyOwn w base v xs) (H c : Nat)
    (hx : a.eval x = .slice (some ⟨H, 0, none⟩) 1 c) (hH : w.heap.size = H) (hl : xs.length ≤ 134217728) (hbase : base ≤ H)
    (hK : ∀ g cap w', KeyOwn w' base (.slice (some ⟨g, 0, none⟩) (xs.length + 1) cap) (xs ++ [y]) → (w.alloc (.cells #[.int .i64 y.a, .int .i64 y.v] 29)).grownBy w' v.ownBlock → wpList Try.prog ops Q rest (a.put o.dst (.slice (some ⟨g, 0, none⟩) (xs.length + 1) cap)) w') :
    wpList Try.prog ops Q (o :: rest) a (w.alloc (.cells #[.int .i64 y.a, .int .i64 y.v] 29)) := by
  obtain ⟨i0, hi, hz0, hz1, hz2⟩ := info_parts info_key
  subst hH
  refine wpList_append_lies _ hgd s x 44 ho base 29 i0 (.agg #[.int .i64 0, .int .i64 0]) 2 16 Try.underlying44 hi hz0 hz1 hz2 rfl (by decide) v xs.length (xs.flatMap keyCells) hs (World.ownsRow.alloc h _) ⟨w.heap.size, 0, none⟩ 1 c (keyCells y) hx rfl ?_ ?_ (by omega) (by unfold maxLen; omega) (by omega) (by simp; omega) (w.heap.size + 1) (by simp) ?_
  · exact World.news_of_block (heap_alloc_new w _)
  · intro u hu; simp [keyCells] at hu; rcases hu with rfl | rfl <;> rfl
  · intro g cap w' hown hgrow hat hlt
    refine hK g cap w' ?_ hgrow
    unfold KeyOwn
    simp only [List.length_append, List.length_cons, List.length_nil, List.flatMap_append, List.flatMap_cons, List.flatMap_nil, List.append_nil]
    exact hown

/-- In the loop that sorts the keys out. -/
structure WantI (w wr : World) (v : Value) (ys : List KeptV) (j : Nat) : Prop where
  grown : w.grownBy wr none
  own : KeyOwn wr w.heap.size v ys
  len : ys.length ≤ j
section
variable {w wr w2 : World} {v : Value} {ys : List KeptV} {j : Nat}
theorem WantI.grow (h : WantI w wr v ys j) (g : wr.grownBy w2 none) : WantI w w2 v ys j := ⟨grown_trans h.grown g, h.own.kept fun b hb => g.block b (h.own.lt hb).2 (by simp), h.len⟩
theorem WantI.weak {j2 : Nat} (h : WantI w wr v ys j) (hj : j ≤ j2) : WantI w wr v ys j2 := ⟨h.grown, h.own, Nat.le_trans h.len hj⟩
theorem WantI.app {o : Obj} {v2 : Value} {zs : List KeptV} {j2 : Nat} (h : WantI w wr v ys j) (g : (wr.alloc o).grownBy w2 v.ownBlock) (hown : KeyOwn w2 w.heap.size v2 zs) (hl : zs.length ≤ j2) : WantI w w2 v2 zs j2 := by
  have ga := World.grownBy_alloc wr o none
  cases hv : v.ownBlock with
  | none => rw [hv] at g; exact ⟨grown_trans h.grown (grown_trans ga g), hown, hl⟩
  | some x => rw [hv] at g; exact ⟨grown_at (grown_trans h.grown ga) g (h.own.lt hv).1, hown, hl⟩
end

/-- The table, and the row of what is wanted. -/
structure AS (T : World → Nat → Int → List KeptV → List Nat → Prop) (w wr : World) (p : Nat) (xs : List KeptV) (O : List Nat) (v : Value) (W : List KeptV) : Prop where
  tt : T wr p 1024 xs O
  og : ∀ b, b ∈ O → w.heap.size ≤ b
  row : RowOf keyCells 2 wr v W
  ap : ∀ b, v.ownBlock = some b → b ∉ O
  grown : w.grownBy wr none
section
variable {T : World → Nat → Int → List KeptV → List Nat → Prop} {w wr w2 : World} {p : Nat} {xs zs W : List KeptV} {O : List Nat} {v : Value}
theorem AS.grow (H : TlbOk T) (h : AS T w wr p xs O v W) (g : wr.grownBy w2 none) : AS T w w2 p xs O v W := ⟨H.grow h.tt g, h.og, h.row.grow g, h.ap, grown_trans h.grown g⟩
theorem AS.left (H : TlbOk T) (h : AS T w wr p xs O v W) (k : TLeft T wr w2 p 1024 O zs) : ∃ O', AS T w w2 p zs O' v W := by
  obtain ⟨O', h2, g2, o2⟩ := k
  have hlt : ∀ b, v.ownBlock = some b → b < wr.heap.size := by
    intro b hb
    rcases h.row.2 with ⟨rfl, _⟩ | ⟨g, o, c, rfl, hg, _⟩
    · simp [Value.ownBlock] at hb
    · have : g = b := by simpa [Value.ownBlock] using hb
      omega
  refine ⟨O', h2, fun b hb => ?_, h.row.kept g2.size (fun a l c hv => ?_), fun b hb hm => ?_, ((Turn.grown h.grown).trans' g2).noGrown h.og⟩
  · rcases o2 b hb with h3 | h3
    · exact h.og b h3
    · have := h.grown.size; omega
  · have he : v.ownBlock = some a.block := by rw [hv]; rfl
    exact g2.block _ (hlt _ he) (h.ap _ he)
  · rcases o2 b hm with h3 | h3
    · exact h.ap b hb h3
    · have := hlt b hb; omega
end

theorem neq_ptr_nil (w : World) (a : Addr) : (binOp .neq 23 (.pointer (some a)) (.pointer none)).run Try.prog w = .ok (.bool true) w := by
  have h1 : ∀ d : Nat, (Op.equalIn (d + 1) 23 (.pointer (some a)) (.pointer none)).run Try.prog w = .ok false w := fun d => by
    simp [Op.equalIn, run_underlying Try.underlying23]
  simp only [binOp]
  simp [Op.equal, Op.maxDepth, h1 9999]
theorem dropK_twice (p : KeptV → Bool) (xs : List KeptV) : dropK p (dropK p xs) = dropK p xs := by
  unfold dropK
  rw [List.filter_filter]
  congr 1
  funext x
  simp
theorem neq_tkey (w : World) (a b : Int) : (binOp .neq 29 (.agg #[.int .i64 a, .int .i64 b]) (.agg #[.int .i64 a, .int .i64 b])).run Try.prog w = .ok (.bool false) w := by
  go_simp
/-- What is kept when some keys have been put. -/
def askS (zss : List (List Int)) : Nat → List KeptV
  | 0 => []
  | i + 1 => putL 1024 (askS zss i) ⟨(zss.getD i []).getD 0 0, (zss.getD i []).getD 1 0, 0, i⟩

set_option maxRecDepth 100000 in
set_option maxHeartbeats 4000000 in
theorem asids_walk {T : World → Nat → Int → List KeptV → List Nat → Prop} (H : TlbOk T) (w : World) (s : Option Addr) (l c : Nat) (zss : List (List Int)) (hZ : IntRows w s l 2 zss) (asid : Int) (ha : okI asid) :
    Calls Try.prog 7 #[.slice s l c, .int .i64 asid] w fun e w' => e = .returned (.bool true) ∧ w.grownBy w' none := by
  have HLv := Lib.hid (lives5 H)
  have HN := Lib.hid (H.new w 1024 (by decide) (by decide))
  have HT := Lib.hid H
  have HZ := Lib.hid hZ
  have HA := Lib.hid ha
  have hq1 := eql_ptr_nil
  clear H hZ ha
  go_enter Try.func7, Try.ntmps7
  go_wp2_with fail
  refine HN.out.mono ?_
  rintro e w1 ⟨p, O, rfl, h1, g1, o1⟩
  have hne1 := fun (a : Addr) => neq_ptr_nil w1 a
  by_cases hl : 200 < l
  · have d0 : decide ((l : Int) > 200) = true := by simp; omega
    have HG := Lib.hid g1
    clear h1 g1 o1 hl
    go_wp2_with fail
    refine (HLv.out _).mono ?_
    rintro e w6 ⟨rfl, g6⟩
    have HG8 := Lib.hid (grown_trans HG.out g6)
    clear g6
    go_wp2_with fail
    go_ret
    exact ⟨rfl, HG8.out⟩
  · have d0 : decide ((l : Int) > 200) = false := by simp; omega
    have hl3 : l ≤ 200 := by omega
    have HI := Lib.hid (show AS T w w1 p [] O (.slice none 0 0) [] from ⟨h1, o1, RowAt.nil _ _, by simp [Value.ownBlock], g1⟩)
    clear h1 g1 o1 hl HN
    go_wp2_with fail
    clear hq1 hne1
    go_loopw [29] (fun i wr => ∃ (j : Nat) (O' : List Nat), j ≤ l ∧ i = .int .i64 j ∧ Hid (AS T w wr p (askS zss j) O' (.slice none 0 0) [])) (fun i _ => l - (intOf i).toNat)
    case atStart => exact ⟨0, O, by omega, rfl, HI⟩
    case round =>
      obtain ⟨j, O', hj, rfl, HS⟩ := hrel
      by_cases hlt : j < l
      · obtain ⟨zs, hz⟩ : ∃ zs, zss[j]? = some zs := ⟨_, List.getElem?_eq_getElem (by rw [HZ.out.len]; exact hlt)⟩
        obtain ⟨hzl, hzo⟩ := HZ.out.each zs (List.mem_of_getElem? hz)
        obtain ⟨b, o, rfl, hc⟩ := HZ.out.at (fun b hb => HS.out.grown.block b hb (by simp)) hz
        have hst : askS zss (j + 1) = putL 1024 (askS zss j) ⟨zs.getD 0 0, zs.getD 1 0, 0, j⟩ := by
          show putL 1024 (askS zss j) ⟨(zss.getD j []).getD 0 0, (zss.getD j []).getD 1 0, 0, j⟩ = _
          rw [show zss.getD j [] = zs by simp [List.getD, hz]]
        obtain ⟨x, y, rfl⟩ : ∃ x y, zs = [x, y] := by
          match zs, hzl with
          | [x, y], _ => exact ⟨x, y, rfl⟩
        have c0 : wr.cell? ⟨b, o + j * 2, none⟩ = some (.int .i64 x) := by simpa using hc 0 x rfl
        have c1 : wr.cell? ⟨b, o + j * 2 + 1, none⟩ = some (.int .i64 y) := hc 1 y rfl
        have HX := Lib.hid (show okKey ⟨x, y, 0, j⟩ from ⟨hzo x (by simp), hzo y (by simp)⟩)
        have HST := Lib.hid (show askS zss (j + 1) = putL 1024 (askS zss j) ⟨x, y, 0, j⟩ from hst)
        have ga := World.grownBy_alloc wr (.cells #[.int .i64 x, .int .i64 y] 29) none
        have HS2 := Lib.hid (HS.out.grow HT.out ga)
        obtain ⟨b0, b1⟩ := (TwoB.new wr 29 (.int .i64 x) (.int .i64 y)).at
        clear hz hzl hzo hc hst ga
        go_wp2_with fail
        refine (HT.out.put HS2.out.tt ⟨x, y, 0, j⟩ HX.out).mono ?_
        rintro e w3 ⟨rfl, h3⟩
        obtain ⟨O3, h3⟩ := HS2.out.left HT.out h3
        rw [← HST.out] at h3
        have HS3 := Lib.hid h3
        clear h3
        go_wp2_with fail
        go_roundw
        case rel => exact ⟨j + 1, O3, by omega, by go_num, HS3⟩
        case measure => simp [intOf]; omega
      · obtain rfl : j = l := by omega
        obtain ⟨X, hX⟩ : ∃ X, askS zss j = X := ⟨_, rfl⟩
        rw [hX] at HS
        have hxl : X.length ≤ 1024 := by have := (HT.out.size HS.out.tt).1; omega
        clear hX
        go_wp2_with fail
        refine (HT.out.keys HS.out.tt).mono ?_
        rintro e w4 ⟨v4, rfl, hrow, g4, _⟩
        obtain ⟨s4, c4, hv4⟩ := hrow.form
        subst hv4
        have HS4 := Lib.hid (HS.out.grow HT.out g4)
        have HW4 := Lib.hid hrow
        have HSt := Lib.hid (fun j y hy => dropK_step (p := fun x => x.a == asid) (xs := X) (j := j) (y := y) hy)
        obtain ⟨D, hD⟩ : ∃ D : List KeptV → List KeptV, dropK (fun x => x.a == asid) = D := ⟨_, rfl⟩
        have HDD := Lib.hid hD
        have HDL := Lib.hid (show ∀ xs, (D xs).length ≤ xs.length from fun xs => by rw [← hD]; exact dropK_len _ xs)
        have HD2 := Lib.hid (show ∀ xs, D (D xs) = D xs from fun xs => by rw [← hD]; exact dropK_twice _ xs)
        rw [hD] at HSt
        have HWI := Lib.hid (show WantI w4 w4 (.slice none 0 0) (D (X.take 0)) 0 from by rw [← hD]; exact ⟨grown_refl _ _, KeyOwn.nil _ _, Nat.le_refl _⟩)
        have HD0 := Lib.hid (show ((D (X.take 0)).length : Int) = 0 by rw [← hD]; rfl)
        clear hrow g4 hD
        go_wp2_with fail
        go_loopw [8, 9, 43] (fun vv gn i wr => ∃ q : Nat, q ≤ X.length ∧ i = .int .i64 q ∧ gn = .int .i64 ((q : Int) - ((D (X.take q)).length : Int)) ∧ Hid (WantI w4 wr vv (D (X.take q)) q)) (fun _ _ i _ => X.length - (intOf i).toNat)
        case atStart => exact ⟨0, by omega, rfl, by rw [HD0.out]; rfl, HWI⟩
        case round =>
          obtain ⟨q, hq, rfl, rfl, HW⟩ := hrel
          by_cases hqt : q < X.length
          · obtain ⟨y, hy⟩ : ∃ y, X[q]? = some y := ⟨_, List.getElem?_eq_getElem hqt⟩
            obtain ⟨g6, o6, c6, hs6, k0, k1⟩ := key_cells (HW4.out.grow HW.out.grown) hy
            injection hs6 with e1 e2 e3
            subst e1 e3
            have hst := HSt.out q y hy
            have hlq := HW.out.len
            obtain ⟨ya, yv, yf, yp⟩ := y
            simp only at *
            have ga := World.grownBy_alloc wr (.cells #[.int .i64 ya, .int .i64 yv] 29) none
            have HW2 := Lib.hid (HW.out.grow ga)
            obtain ⟨b0, b1⟩ := (TwoB.new wr 29 (.int .i64 ya) (.int .i64 yv)).at
            clear hy ga
            by_cases hae : ya = asid
            · subst hae
              rw [if_pos (by simp)] at hst
              have HE := Lib.hid hst
              clear hst
              go_wp2_with fail
              go_roundw
              case rel => exact ⟨q + 1, by omega, by go_num, by rw [HE.out]; go_num, by rw [HE.out]; exact Lib.hid (HW2.out.weak (by omega))⟩
              case measure => simp [intOf]; omega
            · have hb : (ya == asid) = false := by simpa using hae
              rw [if_neg (by simpa using hae)] at hst
              have HE := Lib.hid hst
              have hbs := HW2.out.grown.size
              clear hst hae
              go_wp2_with (at_builtin; refine wpList_key _ rfl _ _ rfl w4.heap.size _ _ ⟨ya, yv, yf, yp⟩ (by rfl) HW2.out.own (wr.heap.size + 1) _ (by rfl) (by simp) (by omega) (by simp at hbs; omega) ?_; intro g8 cap8 w8 hown8 hg8)
              have HW3 := Lib.hid (HW2.out.app (j2 := q + 1) hg8 hown8 (by simp; omega))
              clear hown8 hg8 hbs
              go_wp2_with fail
              go_roundw
              case rel => exact ⟨q + 1, by omega, by go_num, by rw [HE.out, List.length_append, List.length_singleton]; go_num, by rw [HE.out]; exact HW3⟩
              case measure => simp [intOf]; omega
          · obtain rfl : q = X.length := by omega
            rw [List.take_length] at HW
            rw [List.take_length]
            have hZl := HDL.out X
            obtain ⟨Z, hZ⟩ : ∃ Z, D X = Z := ⟨_, rfl⟩
            have HZ2 := Lib.hid (show D Z = Z by rw [← hZ]; exact HD2.out X)
            rw [hZ] at HW hZl
            rw [hZ]
            obtain ⟨s5, c5, hv5⟩ := (RowAt.own HW.out.own).form
            subst hv5
            have HS5 := Lib.hid (show AS T w wr p X O' (.slice s5 Z.length c5) Z from ⟨HT.out.grow HS4.out.tt HW.out.grown, HS4.out.og, RowAt.own HW.out.own, fun b hb hm => by
              have h1 := (HW.out.own.lt hb).1
              have h2 := HT.out.lt HS4.out.tt b hm
              omega, grown_trans HS4.out.grown HW.out.grown⟩)
            obtain ⟨d, hd⟩ : ∃ d : Int, (X.length : Int) - (Z.length : Int) = d := ⟨_, rfl⟩
            have hf := HT.out.flushAsid HS5.out.tt asid HA.out
            rw [HDD.out, hZ, hd] at hf
            rw [hd]
            have HF := Lib.hid hf
            have hbad := Lib.hid hd
            have hzz : Z.length ≤ 1024 := by omega
            clear hf hZ hd hZl HW HS HS4 HW4 HWI HSt
            go_wp2_with fail
            refine HF.out.mono ?_
            rintro e w6 ⟨rfl, h6⟩
            obtain ⟨O6, h6⟩ := HS5.out.left HT.out h6
            have HS6 := Lib.hid h6
            clear h6
            go_wp2_with fail
            refine (HT.out.len HS6.out.tt).mono ?_
            rintro e w7 ⟨rfl, g7⟩
            have HS7 := Lib.hid (HS6.out.grow HT.out g7)
            have hf := HT.out.flushAsid HS7.out.tt asid HA.out
            rw [HDD.out, HZ2.out, Int.sub_self] at hf
            have HF2 := Lib.hid hf
            clear hf g7
            go_wp2_with fail
            refine HF2.out.mono ?_
            rintro e w8 ⟨rfl, h8⟩
            obtain ⟨O8, h8⟩ := HS7.out.left HT.out h8
            have HS8 := Lib.hid h8
            clear h8
            go_wp2_with fail
            refine (HT.out.keys HS8.out.tt).mono ?_
            rintro e w9 ⟨v9, rfl, hrow, g9, _⟩
            obtain ⟨s9, c9, hv9⟩ := hrow.form
            subst hv9
            have HS9 := Lib.hid (HS8.out.grow HT.out g9)
            have HW9 := Lib.hid hrow
            clear hrow g9
            go_wp2_with fail
            go_loopw [79] (fun i wx => ∃ k : Nat, k ≤ Z.length ∧ i = .int .i64 k ∧ Hid (w9.grownBy wx none)) (fun i _ => Z.length - (intOf i).toNat)
            case atStart => exact ⟨0, by omega, rfl, grown_refl _ _⟩
            case round =>
              obtain ⟨k, hk, rfl, HGk⟩ := hrel
              by_cases hkt : k < Z.length
              · obtain ⟨y, hy⟩ : ∃ y, Z[k]? = some y := ⟨_, List.getElem?_eq_getElem hkt⟩
                obtain ⟨ya, yv, yf, yp⟩ := y
                obtain ⟨g6, o6, c6, hs6, k0, k1⟩ := key_cells (HW9.out.grow HGk.out) hy
                injection hs6 with e1 e2 e3
                subst e1 e3
                simp only at k0 k1
                have ga := World.grownBy_alloc wr (.cells #[.int .i64 ya, .int .i64 yv] 29) none
                obtain ⟨b0, b1⟩ := (TwoB.new wr 29 (.int .i64 ya) (.int .i64 yv)).at
                obtain ⟨g7, o7, c7, hs7, m0, m1⟩ := key_cells ((HS9.out.row.grow HGk.out).grow ga) hy
                injection hs7 with e4 e5 e6
                subst e4 e6
                simp only at m0 m1
                have hne := fun wx => neq_tkey wx ya yv
                have HG2 := Lib.hid (grown_trans HGk.out ga)
                clear hy ga
                go_wp2_with fail
                go_quiet (fail)
                go_wp2_with fail
                go_roundw
                case rel => exact ⟨k + 1, by omega, by go_num, Lib.hid (grown_trans HG2.out (grown_draws _ _ _))⟩
                case measure => simp [intOf]; omega
              · obtain rfl : k = Z.length := by omega
                have HS10 := Lib.hid (HS9.out.grow HT.out HGk.out)
                go_wp2_with fail
                refine (HT.out.flushAll HS10.out.tt).mono ?_
                rintro e w11 ⟨rfl, h11⟩
                obtain ⟨O11, h11⟩ := HS10.out.left HT.out h11
                have HS11 := Lib.hid h11
                clear h11
                go_wp2_with fail
                refine (HT.out.len HS11.out.tt).mono ?_
                rintro e w12 ⟨rfl, g12⟩
                have HG12 := Lib.hid (grown_trans HS11.out.grown g12)
                clear g12
                go_wp2_with fail
                refine (HLv.out _).mono ?_
                rintro e w13 ⟨rfl, g13⟩
                have HG13 := Lib.hid (grown_trans HG12.out g13)
                clear g13
                go_wp2_with fail
                go_ret
                exact ⟨rfl, HG13.out⟩
end Go.Proofs.Ytmddflhacamnaaa
