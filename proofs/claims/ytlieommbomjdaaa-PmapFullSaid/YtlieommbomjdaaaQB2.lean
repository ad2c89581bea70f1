/- Numbers sorted by the library, and compacted where no two are alike. Package pmap: tables, Tables, Root. Package pmap: Find. -/
import Derived.Test.YtlieommbomjdaaaQB1
import Derived.Shelf.Sort.Plain
import Derived.Shelf.Slices.CompactI
import Derived.Sort.OwnSortedInts
import Derived.Lib.OwnBridge
namespace Go.Proofs
open Go.Shelf
def Try.laysSort_ren : Go.Shelf.Ren := ⟨fun | 189 => 72 | 125 => 90 | 257 => 89 | 128 => 101 | 129 => 102 | 294 => 92 | 295 => 93 | 296 => 94 | 297 => 95 | 298 => 96 | 299 => 97 | 216 => 98 | 300 => 99 | 301 => 100 | 328 => 103 | 329 => 104 | 330 => 105 | 331 => 106 | 332 => 107 | 215 => 108 | 343 => 109 | n => n, fun | 28 => 32 | 3 => 3 | 46 => 33 | 0 => 0 | 51 => 148 | 53 => 52 | 4 => 4 | 183 => 142 | 182 => 141 | 131 => 105 | 5 => 5 | 9 => 9 | 218 => 150 | 222 => 154 | 228 => 156 | 229 => 157 | n => n, fun | n => n⟩
theorem Try.laysSort : Go.Proofs.Lays.n189 Try.prog Try.laysSort_ren := {
  mixed := by kernel_rfl
  f125 := Try.func90.trans (congrArg some (by kernel_rfl))
  f128 := Try.func101.trans (congrArg some (by kernel_rfl))
  f129 := Try.func102.trans (congrArg some (by kernel_rfl))
  f189 := Try.func72.trans (congrArg some (by kernel_rfl))
  f215 := Try.func108.trans (congrArg some (by kernel_rfl))
  f216 := Try.func98.trans (congrArg some (by kernel_rfl))
  f257 := Try.func89.trans (congrArg some (by kernel_rfl))
  f294 := Try.func92.trans (congrArg some (by kernel_rfl))
  f295 := Try.func93.trans (congrArg some (by kernel_rfl))
  f296 := Try.func94.trans (congrArg some (by kernel_rfl))
  f297 := Try.func95.trans (congrArg some (by kernel_rfl))
  f298 := Try.func96.trans (congrArg some (by kernel_rfl))
  f299 := Try.func97.trans (congrArg some (by kernel_rfl))
  f300 := Try.func99.trans (congrArg some (by kernel_rfl))
  f301 := Try.func100.trans (congrArg some (by kernel_rfl))
  f328 := Try.func103.trans (congrArg some (by kernel_rfl))
  f329 := Try.func104.trans (congrArg some (by kernel_rfl))
  f330 := Try.func105.trans (congrArg some (by kernel_rfl))
  f331 := Try.func106.trans (congrArg some (by kernel_rfl))
  f332 := Try.func107.trans (congrArg some (by kernel_rfl))
  f343 := Try.func109.trans (congrArg some (by kernel_rfl))
  t0 := Try.underlying0
  a0 := Try.isAgg0
  z0 := Try.sizeOf0
  v0 := Try.zeroValue0
  t3 := Try.underlying3
  a3 := Try.isAgg3
  z3 := Try.sizeOf3
  v3 := Try.zeroValue3
  t4 := Try.underlying4
  a4 := Try.isAgg4
  z4 := Try.sizeOf4
  v4 := Try.zeroValue4
  t5 := Try.underlying5
  a5 := Try.isAgg5
  z5 := Try.sizeOf5
  v5 := Try.zeroValue5
  t9 := Try.underlying9
  a9 := Try.isAgg9
  z9 := Try.sizeOf9
  v9 := Try.zeroValue9
  t28 := Try.underlying32
  a28 := Try.isAgg32
  z28 := Try.sizeOf32
  v28 := Try.zeroValue32
  t46 := Try.underlying33
  a46 := Try.isAgg33
  z46 := Try.sizeOf33
  v46 := Try.zeroValue33
  t51 := Try.underlying148
  a51 := Try.isAgg148
  z51 := Try.sizeOf148
  v51 := Try.zeroValue148
  t53 := Try.underlying52
  a53 := Try.isAgg52
  z53 := Try.sizeOf52
  v53 := Try.zeroValue52
  t131 := Try.underlying105
  a131 := Try.isAgg105
  z131 := Try.sizeOf105
  v131 := Try.zeroValue105
  t182 := Try.underlying141
  a182 := Try.isAgg141
  z182 := Try.sizeOf141
  v182 := Try.zeroValue141
  t183 := Try.underlying142
  a183 := Try.isAgg142
  z183 := Try.sizeOf142
  v183 := Try.zeroValue142
  t218 := Try.underlying150
  a218 := Try.isAgg150
  z218 := Try.sizeOf150
  v218 := Try.zeroValue150
  t222 := Try.underlying154
  a222 := Try.isAgg154
  z222 := Try.sizeOf154
  v222 := Try.zeroValue154
  t228 := Try.underlying156
  a228 := Try.isAgg156
  z228 := Try.sizeOf156
  v228 := Try.zeroValue156
  t229 := Try.underlying157
  a229 := Try.isAgg157
  z229 := Try.sizeOf157
  v229 := Try.zeroValue157 }
def Try.laysCompact_ren : Go.Shelf.Ren := ⟨fun | 20 => 73 | n => n, fun | 22 => 32 | 3 => 3 | 4 => 4 | 0 => 0 | n => n, fun | n => n⟩
theorem Try.laysCompact : Go.Proofs.Lays2.n20 Try.prog Try.laysCompact_ren := {
  mixed := by kernel_rfl
  f20 := Try.func73.trans (congrArg some (by kernel_rfl))
  t0 := Try.underlying0
  a0 := Try.isAgg0
  z0 := Try.sizeOf0
  v0 := Try.zeroValue0
  t3 := Try.underlying3
  a3 := Try.isAgg3
  z3 := Try.sizeOf3
  v3 := Try.zeroValue3
  t4 := Try.underlying4
  a4 := Try.isAgg4
  z4 := Try.sizeOf4
  v4 := Try.zeroValue4
  t22 := Try.underlying32
  a22 := Try.isAgg32
  z22 := Try.sizeOf32
  v22 := Try.zeroValue32
  i3 := by kernel_rfl }
end Go.Proofs
namespace Go.Proofs.Ytlieommbomjdaaa
open Go.ChangeShapes Go.WideShapes Go.ChangeAt Go.RowKit Go.Deep Go.Sort Go.Shelf
set_option linter.unusedVariables false

def sortL (zs : List Int) : List Int := zs.mergeSort fun x y => decide (x ≤ y)
section
variable {w w' : World} {base g c : Nat} {zs : List Int}
theorem IOwn.blk (h : IOwn w base (.slice (some ⟨g, 0, none⟩) zs.length c) zs) : ∃ cur, base ≤ g ∧ w.heap[g]? = some (.cells cur 3 (0, 0)) ∧ zs.length ≤ c ∧ c ≤ maxLen ∧ cur.size = c * 1 ∧ cur.toList.take zs.length = zs.map (Value.int .i64) := by
  rcases h.2 with ⟨e, _⟩ | ⟨g', c', cur, e, hb, h2, h3, h4, h5, h6⟩
  · cases e
  · simp only [Value.slice.injEq, Option.some.injEq, Addr.mk.injEq] at e
    obtain ⟨⟨rfl, _⟩, _, rfl⟩ := e
    exact ⟨cur, hb, h2, h3, h4, h5, by rw [Nat.mul_one] at h6; exact h6⟩
theorem sort_own (h : IOwn w base (.slice (some ⟨g, 0, none⟩) zs.length c) zs) (hl : zs.length ≤ 1000000) :
    Calls Try.prog 72 #[.slice (some ⟨g, 0, none⟩) zs.length c] w fun e w' => e = .returned (.tuple #[]) ∧ IOwn w' base (.slice (some ⟨g, 0, none⟩) (sortL zs).length c) (sortL zs) ∧ w.grownBy w' (some g) := by
  obtain ⟨cur, hb, h2, h3, h4, h5, h6⟩ := h.blk
  have hH := holds_of_blockI h2 h6
  have hcon := Any.slices_Sort_int Try.laysSort g 0 c zs w hH (h.lt rfl).2 (by omega)
  refine Calls.mono hcon ?_
  rintro e w' ⟨rfl, n, os, rfl⟩
  have hlen : (sortL zs).length = zs.length := List.length_mergeSort zs
  refine ⟨rfl, ?_, grownBy_sortedI _⟩
  unfold IOwn
  rw [hlen]
  exact ownsRow_sortedI hlen hb h2 h3 h4 h5
theorem compact_own (h : IOwn w base (.slice (some ⟨g, 0, none⟩) zs.length c) zs) (hr : zs.Pairwise (· < ·)) (hl : zs.length ≤ 1000000) :
    Calls Try.prog 73 #[.slice (some ⟨g, 0, none⟩) zs.length c] w fun e w' => e = .returned (.slice (some ⟨g, 0, none⟩) zs.length c) ∧ IOwn w' base (.slice (some ⟨g, 0, none⟩) zs.length c) zs ∧ w.grownBy w' (some g) := by
  obtain ⟨cur, hb, h2, h3, h4, h5, h6⟩ := h.blk
  have hH := holds_of_blockI h2 h6
  have hcon := Any.slices_Compact_int Try.laysCompact g 0 c zs w hH (by omega) h3
  have hc : Lib.compact zs = zs := Lib.compact_all zs fun j hj => by
    by_cases h0 : j = 0
    · exact Lib.keeps_lt_one _ j (by omega)
    · refine Lib.keeps_pos ?_
      have h1 := List.pairwise_iff_getElem.1 hr (j - 1) j (by omega) hj (by omega)
      rw [getElem!_pos _ j (by simpa using hj), getElem!_pos _ (j - 1) (by simp; omega)]
      simp only [List.getElem_toArray]
      omega
  rw [hc, Nat.sub_self, List.replicate_zero, List.append_nil] at hcon
  refine Calls.mono hcon ?_
  rintro e w' ⟨rfl, q, rfl⟩
  have hg := grownBy_sortedI (w := w) (g := g) (n := q) (os := #[]) zs.toArray
  have ho := ownsRow_sortedI (w := w) (n := q) (os := #[]) (ts := zs) rfl hb h2 h3 h4 h5
  rw [grow_empty] at hg ho
  exact ⟨rfl, ho, hg⟩
theorem sortL_mem {x : Int} : x ∈ sortL zs ↔ x ∈ zs := by unfold sortL; exact List.mem_mergeSort
theorem sortL_len : (sortL zs).length = zs.length := List.length_mergeSort zs
theorem sortL_rise (h : zs.Nodup) : (sortL zs).Pairwise (· < ·) := by
  have h1 : (sortL zs).Pairwise (fun x y => decide (x ≤ y) = true) := List.pairwise_mergeSort (fun a b c h1 h2 => by simp at *; omega) (fun a b => by simp; omega) zs
  have h2 : (sortL zs).Nodup := (List.mergeSort_perm zs _).nodup_iff.2 h
  refine (h1.and h2).imp ?_
  rintro x y ⟨h1, h2⟩
  have h1 := of_decide_eq_true h1
  omega
end
end Go.Proofs.Ytlieommbomjdaaa

namespace Go.Proofs.Ytlieommbomjdaaa
open Go.ChangeShapes Go.WideShapes Go.ChangeAt Go.RowKit Go.Deep
set_option linter.unusedVariables false

/-- The tables of a space, as the program meets them: those below the first k of a row. -/
def tabsK (n : Nat) (W : WoF) (r : Int) (ts : List Int) : List Int := r :: ts.flatMap fun t => t :: belowW n W t 512
def tabsL (n : Nat) (W : WoF) (r : Int) : List Int := tabsK n W r (belowW n W r 512)
theorem tabsK_next (n : Nat) (W : WoF) (r : Int) (ts : List Int) (t : Int) : tabsK n W r (ts ++ [t]) = tabsK n W r ts ++ [t] ++ belowW n W t 512 := by
  unfold tabsK
  rw [List.flatMap_append]
  simp
theorem tabsK_len (n : Nat) (W : WoF) (r : Int) (ts : List Int) : (tabsK n W r ts).length ≤ 1 + ts.length * 513 := by
  induction ts with
  | nil => simp [tabsK]
  | cons t ts ih =>
    have := belowW_len n W t 512
    unfold tabsK at *
    rw [List.flatMap_cons]
    simp only [List.length_cons, List.length_append] at *
    omega

/-- A row in the making beside another one, since w. -/
structure Mk2 (w wr : World) (u v : Value) (xs ys : List Int) : Prop where
  own : IOwn wr w.heap.size v ys
  oth : IOwn wr w.heap.size u xs
  ne : ∀ b, v.ownBlock = some b → u.ownBlock ≠ some b
  grown : w.grownBy wr none
theorem Mk2.grow {w wr w3 : World} {u v : Value} {xs ys : List Int} (h : Mk2 w wr u v xs ys) (g : wr.grownBy w3 none) : Mk2 w w3 u v xs ys := ⟨h.own.grow g, h.oth.grow g, h.ne, grown_trans h.grown g⟩
theorem Mk2.next {w wr w9 : World} {u v v9 : Value} {xs ys zs : List Int} (h : Mk2 w wr u v xs ys) (h9 : IOwn w9 w.heap.size v9 zs) (g9 : wr.grownBy w9 v.ownBlock) (hb : v9.ownBlock = v.ownBlock ∨ v9.ownBlock = some wr.heap.size) : Mk2 w w9 u v9 xs zs :=
  ⟨h9, h.oth.kept fun b hb => g9.block b (h.oth.lt hb).2 fun e => h.ne b e.symm hb, fun b e => by
    rcases hb with k | k
    · exact h.ne b (k ▸ e)
    · intro e2
      rw [k] at e
      have := (h.oth.lt e2).2
      injection e with e
      omega, grown_own h.grown g9 fun k hk => (h.own.lt hk).1⟩

/-- 'append(xs, ys...)'. -/
theorem wpList_ints7 {ops : Array Oper} {rest : List Oper} {o : Oper} {a : Act} {Q : Exit → Act → World → Prop} (w : World) (hgd : o.guard = none) (s x : Operand)
    (ho : o.op = .call { callee := .builtin .append, args := #[s, x], argTypes := #[32, 32] }) (base bu : Nat) (v u : Value) (xs ys : List Int) (hs : a.eval s = v) (h : IOwn w base v xs)
    (hx : a.eval x = u) (hu : IOwn w bu u ys) (hl : xs.length + ys.length ≤ 1000000) (hbase : base ≤ w.heap.size)
    (hK : ∀ v' w', IOwn w' base v' (xs ++ ys) → w.grownBy w' v.ownBlock → (v'.ownBlock = v.ownBlock ∨ v'.ownBlock = some w.heap.size) → wpList Try.prog ops Q rest (a.put o.dst v') w') :
    wpList Try.prog ops Q (o :: rest) a w := by
  obtain ⟨i0, hi, hz0, hz1, hz2⟩ := info_parts info_int7
  rcases hu.2 with ⟨e, h0⟩ | ⟨g, cap, cur, e, hb, hg, _⟩
  · have e0 : ys = [] := List.length_eq_zero_iff.1 h0
    refine wpList_append_own_none hgd s x 32 ho base 3 i0 1 Try.underlying32 hi v xs.length (xs.map (Value.int .i64)) hs h (by rw [hx, e]) ?_
    subst e0
    exact hK v w (by rw [List.append_nil]; exact h) ⟨rfl, rfl, rfl, Nat.le_refl _, fun _ _ _ => rfl⟩ (.inl rfl)
  · refine wpList_append_own_at w hgd s x 32 ho base 3 i0 (.int .i64 0) 1 8 Try.underlying32 hi hz0 hz1 hz2 rfl (by decide) v xs.length (xs.map (Value.int .i64)) hs h ⟨g, 0, none⟩ ys.length cap (ys.map (Value.int .i64)) (by rw [hx, e]) (by simp) ?_ ?_ (by unfold maxLen; omega) (by omega) hbase ?_
    · intro j z hz
      exact hu.cells (g := g) (by rw [e]; rfl) j z hz
    · intro z hz
      obtain ⟨y, _, rfl⟩ := List.mem_map.1 hz
      rfl
    · intro v' w' h1 h2 _ h4
      refine hK v' w' ?_ h2 h4
      unfold IOwn
      rw [List.length_append, List.map_append]
      exact h1
/-- 'append(xs, y)', and where the new one lies. -/
theorem wpList_int8 {ops : Array Oper} {rest : List Oper} {o : Oper} {a : Act} {Q : Exit → Act → World → Prop} (w : World) (hgd : o.guard = none) (s x : Operand)
    (ho : o.op = .call { callee := .builtin .append, args := #[s, x], argTypes := #[32, 32] }) (base : Nat) (v : Value) (xs : List Int) (y : Int) (hs : a.eval s = v) (h : IOwn w base v xs) (H : Nat)
    (hx : a.eval x = .slice (some ⟨H, 0, none⟩) 1 1) (hH : w.heap.size = H) (hl : xs.length ≤ 999999) (hbase : base ≤ w.heap.size)
    (hK : ∀ v' w', IOwn w' base v' (xs ++ [y]) → (w.alloc (.cells #[.int .i64 y] 3)).grownBy w' v.ownBlock → (v'.ownBlock = v.ownBlock ∨ v'.ownBlock = some (w.alloc (.cells #[.int .i64 y] 3)).heap.size) → wpList Try.prog ops Q rest (a.put o.dst v') w') :
    wpList Try.prog ops Q (o :: rest) a (w.alloc (.cells #[.int .i64 y] 3)) := by
  subst hH
  exact wpList_ints7 _ hgd s x ho base w.heap.size v _ xs [y] hs (h.grow (World.grownBy_alloc w _ none)) hx (IOwn.one w y) (by simp; omega) (Nat.le_trans hbase (World.grownBy_alloc w (.cells #[.int .i64 y] 3) none).size) hK

section
variable {w0 w w' : World} {x m d n p : Nat} {a r : Int} {M : List UInt8}
set_option maxRecDepth 100000 in
set_option maxHeartbeats 4000000 in
theorem sp_tabs (h : SpB w x m p a r) (hs : St w0 w m d n M) (hnd : (tabsL n (wordI n M) r).Nodup) :
    Calls Try.prog 43 #[.pointer (some ⟨x, 0, none⟩)] w fun e w' => ∃ g c zs, e = .returned (.slice (some ⟨g, 0, none⟩) zs.length c) ∧ zs = sortL (tabsL n (wordI n M) r) ∧ IOwn w' w.heap.size (.slice (some ⟨g, 0, none⟩) zs.length c) zs ∧ w.grownBy w' none := by
  obtain ⟨W, hW⟩ : ∃ W, wordI n M = W := ⟨_, rfl⟩
  have HMd := Lib.hid (sp_made h)
  have c3 := h.at.2.2.2
  have HP := Lib.hid h
  have HS := Lib.hid hs
  have HND := Lib.hid hnd
  have HWW := Lib.hid hW
  clear h hs hnd hW
  go_enter Try.func43, Try.ntmps43
  go_wp2_with fail
  refine HMd.out.mono ?_
  rintro e w1 ⟨rfl, e1⟩
  subst w1
  have ga := World.grownBy_alloc w (.cells #[.int .i64 r] 3) none
  have HB := Lib.hid (sp_below (HP.out.grow ga) (HS.out.grow ga) r)
  have c3a := ga.cell c3 (by simp)
  have HG := Lib.hid ga
  clear ga
  go_wp2_with fail
  refine HB.out.mono ?_
  rintro e w2 ⟨u, rfl, hu, g2⟩
  rw [HWW.out] at hu
  obtain ⟨s, c, rfl, hf⟩ := hu.form
  have hul := belowW_len n W r 512
  obtain ⟨ts, hts⟩ : ∃ ts, belowW n W r 512 = ts := ⟨_, rfl⟩
  rw [hts] at hu hf hul ⊢
  have HTS := Lib.hid hts
  have HU := Lib.hid hu
  have G2 := Lib.hid (grown_trans HG.out g2)
  have HM0 := Lib.hid (⟨(IOwn.one w r).grow g2, hu.lower HG.out.size, fun b hb => by injection hb with hb; intro e; have := (hu.lt e).1; have h3 : (w.alloc (.cells #[.int .i64 r] 3)).heap.size = w.heap.size + 1 := (by simp); rw [h3] at this; have hb : w.heap.size = b := hb; omega, grown_trans HG.out g2⟩ : Mk2 w w2 (.slice s ts.length c) (.slice (some ⟨w.heap.size, 0, none⟩) 1 1) ts [r])
  have HF := Lib.hid hf
  clear hu hf hts g2
  go_wp2_with fail
  go_loopw [3, 21] (fun ov iv wr => ∃ (k : Nat) (ys : List Int), k ≤ ts.length ∧ iv = .int .i64 k ∧ ys.length ≤ 1 + k * 513 ∧ Hid (ys = tabsK n W r (ts.take k)) ∧ Hid (Mk2 w wr (.slice s ts.length c) ov ts ys)) (fun _ iv _ => ts.length - (intOf iv).toNat)
  case atStart => exact ⟨0, [r], by omega, rfl, by simp, Lib.hid rfl, HM0⟩
  case round =>
    obtain ⟨k, ys, hk, rfl, hyl, HY, HM⟩ := hrel
    by_cases hlt : k < ts.length
    · obtain ⟨t, ht⟩ : ∃ t, ts[k]? = some t := ⟨_, List.getElem?_eq_getElem hlt⟩
      obtain ⟨g, rfl⟩ : ∃ g, s = some ⟨g, 0, none⟩ := by
        rcases HF.out with e | ⟨g, e, _⟩
        · rw [e] at hlt; simp at hlt
        · exact ⟨g, e⟩
      have c0 : wr.cell? ⟨g, k, none⟩ = some (.int .i64 t) := by
        have := HM.out.oth.cells (g := g) rfl k (.int .i64 t) (by simp [ht])
        rw [Addr.add_lit, Nat.zero_add] at this
        exact this
      have htk : ts.take (k + 1) = ts.take k ++ [t] := by rw [List.take_add_one, ht]; rfl
      have hY2 : ys ++ [t] ++ belowW n W t 512 = tabsK n W r (ts.take (k + 1)) := by rw [htk, tabsK_next, HY.out]
      have HY2 := Lib.hid hY2
      have hbl := belowW_len n W t 512
      have HWr := Lib.hid HM.out.grown.size
      clear ht htk hY2
      go_wp2_with (first
        | (at_builtin; refine wpList_int8 wr rfl _ _ rfl w.heap.size _ ys t (by rfl) HM.out.own wr.heap.size (by rfl) rfl (by omega) HWr.out ?_; intro v9 w9 hown9 hg9 hb9; have HM9 := Lib.hid ((HM.out.grow (World.grownBy_alloc wr (.cells #[.int .i64 t] 3) none)).next hown9 hg9 hb9); clear hown9 hg9 hb9; have c3n := HM9.out.grown.cell c3 (by simp))
        | (go_at_call 71; refine (sp_below (HP.out.grow HM9.out.grown) (HS.out.grow HM9.out.grown) t).mono ?_; rintro e w10 ⟨u10, rfl, hu10, g10⟩; rw [HWW.out] at hu10; have HU10 := Lib.hid hu10; have HM10 := Lib.hid (HM9.out.grow g10); have HW10 := Lib.hid HM10.out.grown.size; clear hu10 g10)
        | (at_builtin; refine wpList_ints7 w10 rfl _ _ rfl w.heap.size w9.heap.size _ u10 (ys ++ [t]) (belowW n W t 512) (by rfl) HM10.out.own (by rfl) HU10.out (by rw [List.length_append, List.length_singleton]; omega) HW10.out ?_; intro v11 w11 hown11 hg11 hb11; have HM11 := Lib.hid (HM10.out.next hown11 hg11 hb11); clear hown11 hg11 hb11))
      go_roundw
      case rel => exact ⟨k + 1, ys ++ [t] ++ belowW n W t 512, by omega, by go_num, by simp only [List.length_append, List.length_singleton]; omega, HY2, HM11⟩
      case measure => simp [intOf]; omega
    · obtain rfl : k = ts.length := by omega
      have hL : ys = tabsL n W r := by
        have := HY.out
        rw [List.take_length, ← HTS.out] at this
        exact this
      subst hL
      obtain ⟨s9, c9, hs9, hf9⟩ := HM.out.own.form
      subst hs9
      obtain ⟨g9, rfl⟩ : ∃ g, s9 = some ⟨g, 0, none⟩ := by
        rcases hf9 with e | ⟨g, e, _⟩
        · cases e
        · exact ⟨g, e⟩
      have hL9 : (tabsL n W r).length ≤ 1000000 := by omega
      have hnd := HND.out
      rw [HWW.out] at hnd
      have HRise := Lib.hid (sortL_rise hnd)
      have HGr := Lib.hid HM.out.grown
      have HS1 := Lib.hid (sort_own HM.out.own hL9)
      have hlen : (sortL (tabsL n W r)).length = (tabsL n W r).length := sortL_len
      have hW := HWW.out
      subst hW
      obtain ⟨zs, hzs⟩ : ∃ zs, sortL (tabsL n (wordI n M) r) = zs := ⟨_, rfl⟩
      rw [hzs] at HRise HS1 hlen
      rw [hlen] at HS1
      have hg0 := (HM.out.own.lt (g := g9) rfl).1
      have HZ := Lib.hid hzs
      have HLen := Lib.hid hlen
      clear hf9 HM HY hnd hzs hyl hlen
      obtain ⟨l, hl⟩ : ∃ l, (tabsL n (wordI n M) r).length = l := ⟨_, rfl⟩
      rw [hl] at HS1 HLen hL9 ⊢
      clear hl
      go_wp2_with fail
      refine HS1.out.mono ?_
      rintro e w3 ⟨rfl, h3, g3⟩
      have HLen' := HLen.out
      subst HLen'
      have HC1 := Lib.hid (compact_own h3 HRise.out hL9)
      have HG3 := Lib.hid (grown_own HGr.out g3 fun k hk => by injection hk with hk; subst hk; exact hg0)
      clear h3 g3
      go_wp2_with fail
      refine HC1.out.mono ?_
      rintro e w4 ⟨rfl, h4, g4⟩
      have HG4 := Lib.hid (grown_own HG3.out g4 fun k hk => by injection hk with hk; subst hk; exact hg0)
      have H4 := Lib.hid h4
      clear h4 g4
      go_wp2_with fail
      go_ret
      exact ⟨g9, c9, zs, rfl, HZ.out.symm, H4.out, HG4.out⟩

theorem sp_root (h : SpB w x m p a r) : Calls Try.prog 21 #[.pointer (some ⟨x, 0, none⟩)] w fun e w' => e = .returned (.int .i64 r) ∧ w' = w := by
  have HMd := Lib.hid (sp_made h)
  have c3 := h.at.2.2.2
  clear h
  go_enter Try.func21, Try.ntmps21
  go_wp2_with fail
  refine HMd.out.mono ?_
  rintro e w1 ⟨rfl, e1⟩
  subst w1
  go_wp2_with fail
  go_ret
  exact ⟨rfl, rfl⟩
theorem no_root (v : Value) (HM : Calls Try.prog 33 #[v] w fun e w' => e = .returned (.bool false) ∧ w' = w) : Calls Try.prog 21 #[v] w fun e w' => e = .returned (.int .i64 (-1)) ∧ w' = w := by
  have HMd := Lib.hid HM
  clear HM
  go_enter Try.func21, Try.ntmps21
  go_wp2_with fail
  refine HMd.out.mono ?_
  rintro e w1 ⟨rfl, e1⟩
  subst w1
  go_wp2_with fail
  go_ret
  exact ⟨rfl, rfl⟩
theorem no_tabs (v : Value) (HM : Calls Try.prog 33 #[v] w fun e w' => e = .returned (.bool false) ∧ w' = w) : Calls Try.prog 43 #[v] w fun e w' => e = .returned (.slice none 0 0) ∧ w' = w := by
  have HMd := Lib.hid HM
  clear HM
  go_enter Try.func43, Try.ntmps43
  go_wp2_with fail
  refine HMd.out.mono ?_
  rintro e w1 ⟨rfl, e1⟩
  subst w1
  go_wp2_with fail
  go_ret
  exact ⟨rfl, rfl⟩
theorem no_tables (v : Value) (HM : Calls Try.prog 33 #[v] w fun e w' => e = .returned (.bool false) ∧ w' = w) : Calls Try.prog 18 #[v] w fun e w' => e = .returned (.int .i64 0) ∧ w' = w := by
  have HT := Lib.hid (no_tabs v HM)
  clear HM
  go_enter Try.func18, Try.ntmps18
  go_wp2_with fail
  refine HT.out.mono ?_
  rintro e w1 ⟨rfl, e1⟩
  subst w1
  go_wp2_with fail
  go_ret
  exact ⟨rfl, rfl⟩
theorem sp_tables (h : SpB w x m p a r) (hs : St w0 w m d n M) (hnd : (tabsL n (wordI n M) r).Nodup) :
    Calls Try.prog 18 #[.pointer (some ⟨x, 0, none⟩)] w fun e w' => e = .returned (.int .i64 (tabsL n (wordI n M) r).length) ∧ w.grownBy w' none := by
  have HT := Lib.hid (sp_tabs h hs hnd)
  have hl : (sortL (tabsL n (wordI n M) r)).length = (tabsL n (wordI n M) r).length := sortL_len
  clear h hs hnd
  rw [← hl]
  generalize sortL (tabsL n (wordI n M) r) = zs at *
  clear hl
  go_enter Try.func18, Try.ntmps18
  go_wp2_with fail
  refine HT.out.mono ?_
  rintro e w1 ⟨g, c, zs', rfl, rfl, _, g1⟩
  have G1 := Lib.hid g1
  clear g1
  go_wp2_with fail
  go_ret
  exact ⟨rfl, G1.out⟩
end
end Go.Proofs.Ytlieommbomjdaaa

namespace Go.Proofs.Ytlieommbomjdaaa
open Go.ChangeShapes Go.WideShapes Go.ChangeAt Go.RowKit Go.Deep
set_option linter.unusedVariables false

section
variable {w0 w w' : World} {x m d n p : Nat} {a r : Int} {M : List UInt8}
set_option maxHeartbeats 4000000 in
theorem sp_find_at (h : SpB w x m p a r) (v : Int) (A B : Int) (ok : Bool) (d : Bool) (hk : decide (kindOf A = 2) = d) (hp : ∀ W, w.grownBy W none → Calls Try.prog 45 #[.pointer (some ⟨m, 0, none⟩), .int .i64 r, .int .i64 v] W fun e w' => e = .returned (.tuple #[.agg #[.int .i64 A, .int .i64 B], .bool ok]) ∧ W.grownBy w' none) :
    Calls Try.prog 22 #[.pointer (some ⟨x, 0, none⟩), .int .i64 v] w fun e w' => e = .returned (findV (if ok && d then some (A, B) else none)) ∧ w.grownBy w' none := by
  have ga := World.grownBy_alloc w (.cells #[.int .i64 0, .int .i64 0] 44 (0, 0)) none
  have hA := h.grow ga
  have HP := Lib.hid hp
  have HRs := Lib.hid (show EntB _ w.heap.size 0 0 from heap_alloc_new w _)
  have HG := Lib.hid ga
  generalize hwA : w.alloc (.cells #[.int .i64 0, .int .i64 0] 44 (0, 0)) = wA at *
  have HS := Lib.hid (show ∀ W, wA.grownBy W none → W.cell? ⟨x, 0, none⟩ = some (.pointer (some ⟨m, 0, none⟩)) ∧ W.cell? ⟨x, 3, none⟩ = some (.int .i64 r) from fun W g => ⟨(hA.grow g).at.1, (hA.grow g).at.2.2.2⟩)
  have hc0 := HS.out _ (grown_drew1 wA)
  have gC := Lib.hid (grown_drew1 wA)
  have gA := Lib.hid (show wA.grownBy (wA.alloc (.cells #[.int .i64 0, .int .i64 0] 44 (0, 0))).drew none from grown_trans (World.grownBy_alloc wA (.cells #[.int .i64 0, .int .i64 0] 44 (0, 0)) none) (grown_drew1 _))
  have HN := Lib.hid (show EntB (wA.alloc (.cells #[.int .i64 0, .int .i64 0] 44 (0, 0))).drew wA.heap.size 0 0 from heap_alloc_new wA _)
  have HK2 := Lib.hid (show ∀ W, wA.grownBy W none → ((W.setCell ⟨wA.heap.size, 0, none⟩ (.int .i64 A)).setCell ⟨wA.heap.size, 1, none⟩ (.int .i64 B)).cell? ⟨x, 0, none⟩ = some (.pointer (some ⟨m, 0, none⟩)) ∧ ((W.setCell ⟨wA.heap.size, 0, none⟩ (.int .i64 A)).setCell ⟨wA.heap.size, 1, none⟩ (.int .i64 B)).cell? ⟨x, 3, none⟩ = some (.int .i64 r) from fun W g => HS.out _ (grown_at (grown_at g (grown_set _ _ _ _) (Nat.le_refl _)) (grown_set _ _ _ _) (Nat.le_refl _)))
  have HK0 := Lib.hid (fun W => kind_ok A B W)
  have HRw := Lib.hid (show EntB wA w.heap.size 0 0 from hwA ▸ HRs.out)
  have HKd := Lib.hid hk
  have HMd := Lib.hid (sp_made hA)
  clear h hA hp ga hk HRs
  go_enter Try.func22, Try.ntmps22
  go_wp2_with fail
  refine HMd.out.mono ?_
  rintro e w1 ⟨rfl, e1⟩
  subst w1
  go_wp2_with fail
  go_region_held3 (fun W => W.cell? ⟨x, 0, none⟩ = some (.pointer (some ⟨m, 0, none⟩)) ∧ W.cell? ⟨x, 3, none⟩ = some (.int .i64 r))
    (first | with_reducible exact hc0 | with_reducible exact (HS.out _ gA.out) | with_reducible exact (HS.out _ gB.out) | with_reducible exact (HS.out _ (grown_trans gB.out (World.grownBy_alloc _ _ none))) | with_reducible exact (HK2.out _ gB.out))
    (first
      | (go_at_call 45; (with_reducible refine ((HP.out _ (grown_trans HG.out gC.out)).mono ?_)); rintro e w3 ⟨rfl, g3⟩; have gB := Lib.hid (grown_trans gC.out g3); clear g3)
      | (go_at_call 45; (with_reducible refine ((HP.out _ (grown_trans HG.out gA.out)).mono ?_)); rintro e w3 ⟨rfl, g3⟩; have gB := Lib.hid (grown_trans gA.out g3); have hN := HN.out.grow g3; obtain ⟨n0, n1⟩ := hN.at; obtain ⟨z0, z1⟩ := hN.frozen; have HN3 := Lib.hid hN; clear g3 hN))
  all_goals
    first
      | (have hE : EntB ((w3.setCell ⟨wA.heap.size, 0, none⟩ (.int .i64 A)).setCell ⟨wA.heap.size, 1, none⟩ (.int .i64 B)) wA.heap.size A B := heap_two w3 wA.heap.size _ _ (.int .i64 A) (.int .i64 B) _ HN3.out rfl rfl; have hGz := grown_at (grown_at gB.out (grown_set w3 wA.heap.size 0 (.int .i64 A)) (Nat.le_refl _)) (grown_set _ wA.heap.size 1 (.int .i64 B)) (Nat.le_refl _); obtain ⟨Y, hY⟩ : ∃ Y, wA.heap.size = Y := ⟨_, rfl⟩; rw [hY] at hE hGz; rw [hY]; obtain ⟨wz, hwz⟩ : ∃ wz, (w3.setCell ⟨Y, 0, none⟩ (.int .i64 A)).setCell ⟨Y, 1, none⟩ (.int .i64 B) = wz := ⟨_, rfl⟩; rw [hwz] at hE hGz; rw [hwz]; clear n0 n1 z0 z1 hwz)
      | (have hE : EntB (w3.alloc (.cells #[.int .i64 A, .int .i64 B] 44 (0, 0))) w3.heap.size A B := heap_alloc_new w3 _; have hGz := grown_trans gB.out (World.grownBy_alloc w3 (.cells #[.int .i64 A, .int .i64 B] 44 (0, 0)) none); generalize w3.alloc (.cells #[.int .i64 A, .int .i64 B] 44 (0, 0)) = wz at *; generalize w3.heap.size = Y at *)
    have HE := Lib.hid hE
    have HGz := Lib.hid (grown_trans HG.out hGz)
    have hRz := HRw.out.grow hGz
    have HRz := Lib.hid hRz
    obtain ⟨m0, m1⟩ := hE.at
    obtain ⟨q0, q1⟩ := hRz.at
    obtain ⟨z2, z3⟩ := hRz.frozen
    clear hE hGz hRz HRw
    cases ok
    · go_wp2_with fail
      refine bodyPost_ret (results_row_tmp rfl _ _ w.heap.size _ #[.int .i64 0, .int .i64 0] (0, 0) _ rfl (heap_two _ _ _ _ _ _ _ HRz.out rfl rfl) Try.underlying44 (by kernel_rfl) (by kernel_rfl)) rfl ?_
      exact ⟨rfl, grown_at (grown_at HGz.out (grown_set _ _ _ _) (Nat.le_refl _)) (grown_set _ _ _ _) (Nat.le_refl _)⟩
    · obtain ⟨K, hK⟩ : ∃ K, kindOf A = K := ⟨_, rfl⟩
      rw [hK] at HK0 HKd
      clear hK
      have hkd := HKd.out
      by_cases h2 : K = 2
      · have b2 : (K != 2) = false := by simpa using h2
        rw [decide_eq_true h2] at hkd
        subst hkd
        clear h2
        go_wp2_with fail
        refine (HK0.out _).mono ?_
        rintro e w8 ⟨rfl, g8⟩
        have hE8 := HE.out.grow (grown_of_below' g8)
        have hR8 := HRz.out.grow (grown_of_below' g8)
        have HR8 := Lib.hid hR8
        have HG8 := Lib.hid (grown_trans HGz.out (grown_of_below' g8))
        clear m0 m1 q0 q1 z2 z3 g8
        obtain ⟨m0, m1⟩ := hE8.at
        obtain ⟨q0, q1⟩ := hR8.at
        obtain ⟨z2, z3⟩ := hR8.frozen
        clear hE8 hR8
        go_wp2_with fail
        refine bodyPost_ret (results_row_tmp rfl _ _ w.heap.size _ #[.int .i64 A, .int .i64 B] (0, 0) _ rfl (heap_two _ _ _ _ _ _ _ HR8.out rfl rfl) Try.underlying44 (by kernel_rfl) (by kernel_rfl)) rfl ?_
        exact ⟨rfl, grown_at (grown_at HG8.out (grown_set _ _ _ _) (Nat.le_refl _)) (grown_set _ _ _ _) (Nat.le_refl _)⟩
      · have b2 : (K != 2) = true := by simpa using h2
        rw [decide_eq_false h2] at hkd
        subst hkd
        clear h2
        go_wp2_with fail
        refine (HK0.out _).mono ?_
        rintro e w8 ⟨rfl, g8⟩
        have hR8 := HRz.out.grow (grown_of_below' g8)
        have HR8 := Lib.hid hR8
        have HG8 := Lib.hid (grown_trans HGz.out (grown_of_below' g8))
        clear m0 m1 q0 q1 z2 z3 g8
        obtain ⟨q0, q1⟩ := hR8.at
        obtain ⟨z2, z3⟩ := hR8.frozen
        clear hR8
        go_wp2_with fail
        refine bodyPost_ret (results_row_tmp rfl _ _ w.heap.size _ #[.int .i64 0, .int .i64 0] (0, 0) _ rfl (heap_two _ _ _ _ _ _ _ HR8.out rfl rfl) Try.underlying44 (by kernel_rfl) (by kernel_rfl)) rfl ?_
        exact ⟨rfl, grown_at (grown_at HG8.out (grown_set _ _ _ _) (Nat.le_refl _)) (grown_set _ _ _ _) (Nat.le_refl _)⟩

theorem sp_find (h : SpB w x m p a r) (hs : St w0 w m d n M) (v : Int) :
    Calls Try.prog 22 #[.pointer (some ⟨x, 0, none⟩), .int .i64 v] w fun e w' => e = .returned (findV (leafE n (wordI n M) r v)) ∧ w.grownBy w' none := by
  cases hp : placeW n (wordI n M) r v with
  | none =>
    refine (sp_find_at h v 0 0 false _ rfl fun W g => ?_).mono ?_
    · have := look_any (hs.grow g) r v
      rw [place_words, hp] at this
      exact this
    · rintro e w' ⟨rfl, g⟩
      refine ⟨?_, g⟩
      have e : leafE n (wordI n M) r v = none := by unfold leafE leafW; rw [hp]; rfl
      rw [e]; rfl
  | some f =>
    refine (sp_find_at h v (flagOf ((wordI n M) f (indexOf v 0))) (ppnOf ((wordI n M) f (indexOf v 0))) true _ rfl fun W g => ?_).mono ?_
    · have := look_any (hs.grow g) r v
      rw [place_words, hp] at this
      exact this
    · rintro e w' ⟨rfl, g⟩
      refine ⟨?_, g⟩
      have e : leafE n (wordI n M) r v = if kindOf (flagOf ((wordI n M) f (indexOf v 0))) = 2 then some (flagOf ((wordI n M) f (indexOf v 0)), ppnOf ((wordI n M) f (indexOf v 0))) else none := by
        unfold leafE leafW
        rw [hp]
        show Option.map _ (if kindOf (flagOf ((wordI n M) f (indexOf v 0))) = 2 then _ else _) = _
        split <;> rfl
      rw [e]
      by_cases hk : kindOf (flagOf ((wordI n M) f (indexOf v 0))) = 2
      · rw [if_pos hk]; simp [hk]
      · rw [if_neg hk]; simp [hk]

theorem no_find (v : Value) (HM : ∀ W, w.grownBy W none → Calls Try.prog 33 #[v] W fun e w' => e = .returned (.bool false) ∧ w' = W) (i : Int) : Calls Try.prog 22 #[v, .int .i64 i] w fun e w' => e = .returned (findV none) ∧ w.grownBy w' none := by
  have ga := World.grownBy_alloc w (.cells #[.int .i64 0, .int .i64 0] 44 (0, 0)) none
  have HRs := Lib.hid (show EntB _ w.heap.size 0 0 from heap_alloc_new w _)
  have HMd := Lib.hid (HM _ ga)
  have HG := Lib.hid ga
  generalize hwA : w.alloc (.cells #[.int .i64 0, .int .i64 0] 44 (0, 0)) = wA at *
  have HRz := Lib.hid (show EntB wA w.heap.size 0 0 from hwA ▸ HRs.out)
  obtain ⟨q0, q1⟩ := HRz.out.at
  obtain ⟨z2, z3⟩ := HRz.out.frozen
  clear HM ga HRs
  go_enter Try.func22, Try.ntmps22
  go_wp2_with fail
  refine HMd.out.mono ?_
  rintro e w1 ⟨rfl, e1⟩
  subst w1
  go_wp2_with fail
  refine bodyPost_ret (results_row_tmp rfl _ _ w.heap.size _ #[.int .i64 0, .int .i64 0] (0, 0) _ rfl (heap_two _ _ _ _ _ _ _ HRz.out rfl rfl) Try.underlying44 (by kernel_rfl) (by kernel_rfl)) rfl ?_
  exact ⟨rfl, grown_at (grown_at HG.out (grown_set _ _ _ _) (Nat.le_refl _)) (grown_set _ _ _ _) (Nat.le_refl _)⟩
end
end Go.Proofs.Ytlieommbomjdaaa
