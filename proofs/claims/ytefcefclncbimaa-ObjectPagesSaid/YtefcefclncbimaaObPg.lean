/- ObjectPages: what it asks of the plain list; an iterator of pages that are told to be the object's. -/
import Derived.Test.YtefcefclncbimaaObAct
import Derived.Test.YtefcefclncbimaaObStay
namespace Go.Proofs.Ytefcefclncbimaa
open Go.ChangeShapes Go.WideShapes Go.ChangeAt Go.RowKit Go.Deep
set_option linter.unusedVariables false
attribute [local go_sem] Oper.semAt_some

/-- The pages behind so many puts. -/
def putsTo (ds : List Int) : Nat → PgL
  | 0 => []
  | n + 1 => insO (putsTo ds n) (ds.getD n 0 % 20) ⟨(n : Int), 0, ((n : Int) % 2 == 0)⟩
structure PutsOk (ds : List Int) (j : Nat) (l : PgL) : Prop where
  good : GoodPs l
  each : ∀ n, n ∈ l → ∃ i : Nat, i < j ∧ n.2.fr = (i : Int) ∧ ds.getD i 0 % 20 = n.1 ∧ ∀ m : Nat, i < m → m < j → ds.getD m 0 % 20 ≠ n.1
theorem puts_ok (ds : List Int) (j : Nat) : PutsOk ds j (putsTo ds j) := by
  induction j with
  | zero => exact ⟨GoodPs.nil, fun n hn => by cases hn⟩
  | succ j ih =>
    refine ⟨ih.good.ins (by omega) _, fun n hn => ?_⟩
    have key : n = (ds.getD j 0 % 20, ⟨(j : Int), 0, ((j : Int) % 2 == 0)⟩) ∨ (n ∈ putsTo ds j ∧ n.1 ≠ ds.getD j 0 % 20) := by
      have h1 := (ins_perm (putsTo ds j) (ds.getD j 0 % 20) ⟨(j : Int), 0, ((j : Int) % 2 == 0)⟩).mem_iff.1 hn
      rcases List.mem_cons.1 h1 with h2 | h2
      · exact .inl h2
      · exact .inr ⟨(List.mem_filter.1 h2).1, by simpa using (List.mem_filter.1 h2).2⟩
    rcases key with rfl | ⟨h1, h2⟩
    · exact ⟨j, by omega, rfl, rfl, fun m h3 h4 => by omega⟩
    · obtain ⟨i, i1, i2, i3, i4⟩ := ih.each n h1
      refine ⟨i, by omega, i2, i3, fun m h3 h4 => ?_⟩
      by_cases e : m = j
      · rw [e]; exact fun h => h2 h.symm
      · exact i4 m h3 (by omega)
theorem PutsOk.low {ds : List Int} {j : Nat} {l : PgL} (h : PutsOk ds j l) {n : Int × PgV} (hn : n ∈ l) : 0 ≤ n.1 ∧ n.1 < 20 := by
  obtain ⟨i, _, _, h3, _⟩ := h.each n hn
  omega
/-- How many of the first numbers have a page between the bounds. -/
def wantTo (l : PgL) (lo hi : Int) (K : Nat) : List Int := ((List.range K).map fun k : Nat => (k : Int)).filter fun k => decide ((lookO l k).isSome = true ∧ lo ≤ k ∧ k < hi)
theorem want_step {l : PgL} {lo hi : Int} {K : Nat} : (wantTo l lo hi (K + 1)).length = (wantTo l lo hi K).length + if (lookO l (K : Int)).isSome = true ∧ lo ≤ (K : Int) ∧ (K : Int) < hi then 1 else 0 := by
  unfold wantTo
  rw [List.range_succ, List.map_append, List.filter_append, List.length_append, List.map_cons, List.map_nil]
  congr 1
  by_cases h : (lookO l (K : Int)).isSome = true ∧ lo ≤ (K : Int) ∧ (K : Int) < hi
  · rw [if_pos h, List.filter_cons_of_pos (by simpa using h)]; rfl
  · rw [if_neg h, List.filter_cons_of_neg (by simpa using h)]; rfl
theorem want_all {ds : List Int} {j : Nat} {l : PgL} (h : PutsOk ds j l) (lo hi : Int) : (wantTo l lo hi 20).length = (cutO l lo hi).length := by
  have hp : ((cutO l lo hi).map (·.1)).Perm (wantTo l lo hi 20) := by
    refine (List.perm_ext_iff_of_nodup ?_ ?_).2 fun k => ?_
    · exact (h.good.filter _).nodup
    · refine List.Pairwise.filter _ (List.pairwise_map.2 (List.nodup_range.imp fun {a b} e e2 => e (by omega)))
    · unfold wantTo
      rw [List.mem_filter, List.mem_map, List.mem_map]
      constructor
      · rintro ⟨n, hn, rfl⟩
        obtain ⟨h1, h2⟩ := List.mem_filter.1 hn
        have h2 : lo ≤ n.1 ∧ n.1 < hi := by simpa using h2
        have h3 := h.low h1
        refine ⟨⟨n.1.toNat, List.mem_range.2 (by omega), by omega⟩, ?_⟩
        rw [look_at (x := n.2) h.good h1]
        simp [h2]
      · rintro ⟨_, h2⟩
        have h2 : (lookO l k).isSome = true ∧ lo ≤ k ∧ k < hi := by simpa using h2
        obtain ⟨x, hx⟩ := Option.isSome_iff_exists.1 h2.1
        exact ⟨(k, x), List.mem_filter.2 ⟨look_some hx, by simp [h2.2]⟩, rfl⟩
  rw [← hp.length_eq, List.length_map]
theorem make_one : makeO 1 [] 0 = ⟨1, 0, [some ⟨0, 1, []⟩]⟩ := by rfl
theorem one_pages {o : ObV} {lo hi : Int} : pagesO [some o] 1 lo hi = cutO o.L lo hi := by unfold pagesO; rw [show ofO [some o] 1 = some o from ofO_at (L := [some o]) (i := 0) rfl]

/-! ### the iterator, its pages known to be the row's -/
abbrev PI (zs : PgL) := {x : Int × PgV // x ∈ zs}
def encQ {zs : PgL} (x : PI zs) : Array Value := encP x.1
theorem attach_at {zs : PgL} {k : Nat} {z : Int × PgV} (h : zs[k]? = some z) (hm : z ∈ zs) : zs.attach.take (k + 1) = zs.attach.take k ++ [⟨z, hm⟩] := by
  have hl := (List.getElem?_eq_some_iff.1 h).1
  have he := (List.getElem?_eq_some_iff.1 h).2
  refine takel_at ?_
  rw [List.getElem?_eq_getElem (by simpa using hl)]
  simp only [List.getElem_attach]
  congr 1
  exact Subtype.ext he
set_option maxRecDepth 100000 in
set_option maxHeartbeats 2000000 in
theorem pages2_in (n : Nat) (hn : 1 ≤ n) (l Bs : Nat) (u : Value) (zs : PgL) (hl : zs.length ≤ 4096) (G : List Nat) (hG : ∀ g, u.ownBlock = some g → g ∈ G) (J Jx : List (PI zs) → World → Prop)
    (W0 : World) (hJ : AbidesFrom W0.heap.size J)
    (hY : ∀ pre x W, J pre W → pre.length < zs.length → YieldAt Fence.wide (n - 1) Try.prog l (encQ x) W fun e W' =>
      (e = .returned (.bool true) ∧ J (pre ++ [x]) W' ∧ KpG G W W') ∨ (e = .returned (.bool false) ∧ Jx (pre ++ [x]) W'))
    (W : World) (hBs : W.cell? ⟨Bs, 0, none⟩ = some u) (hU : RowOf atCells 4 W u zs) (h0 : J [] W) :
    CallsIn Fence.wide n Try.prog 40 #[.func (.yield l) #[] #[], .pointer (some ⟨Bs, 0, none⟩)] W fun e W' => (∃ v, e = .returned v) ∧
      ((∃ ys, ys = zs.attach ∧ J ys W') ∨ (∃ pre, pre <+: zs.attach ∧ Jx pre W')) := by
  have HU := Lib.hid hU
  have HG := Lib.hid hG
  have HJa := Lib.hid hJ
  have HY := Lib.hid hY
  obtain ⟨a0, c0, rfl⟩ := rowOf_form hU
  clear hU hG hJ hY
  refine callsIn_of_wp Try.func40 rfl trivial ?_ rfl
  simp only [Try.ntmps40, List.size_toArray, List.length_cons, List.length_nil, Nat.reduceAdd, Nat.reduceSub, Array.replicate_succ, Array.replicate_zero, List.push_toArray, List.append_toArray, List.nil_append, List.cons_append]
  gi_wp2
  gi_loopw [7] (fun i wr => ∃ k : Nat, k ≤ zs.length ∧ i = .int .i64 k ∧ J (zs.attach.take k) wr ∧ Hid (RowOf atCells 4 wr (.slice a0 zs.length c0) zs)) (fun i _ => zs.length - (intOf i).toNat)
  case atStart => exact ⟨0, Nat.zero_le _, rfl, h0, HU⟩
  case round =>
    obtain ⟨k, hk, rfl, hJs, HK⟩ := hrel
    by_cases hlt : k < zs.length
    · obtain ⟨⟨m, f, s, d⟩, hz⟩ : ∃ z, zs[k]? = some z := ⟨_, List.getElem?_eq_getElem hlt⟩
      obtain ⟨g, o, c', hv', k0, k1, k2, k3⟩ := t_cells HK.out hz
      injection hv' with e1 e2 e3
      subst e1 e3
      simp only at k0 k1 k2 k3
      have ga := World.grownBy_alloc wr (.cells #[.int .i64 m, .int .i64 f, .int .i64 s, .bool d] 96 (0, 0)) none
      have HK2 := Lib.hid (rowOf_grow HK.out ga)
      have hJ2 := HJa.out _ _ _ _ hJs ga (by simp)
      have hm := List.mem_of_getElem? hz
      have htk := attach_at hz hm
      have hlen : (zs.attach.take k).length < zs.length := by rw [List.length_take]; omega
      have HM := Lib.hid htk
      have HP := Lib.hid (List.take_prefix (k + 1) zs.attach)
      obtain ⟨fn, tmps, assign, body, hyy, hRr⟩ := HY.out (zs.attach.take k) ⟨(m, ⟨f, s, d⟩), hm⟩ (wr.alloc (.cells #[.int .i64 m, .int .i64 f, .int .i64 s, .bool d] 96 (0, 0))) hJ2 hlen
      simp only [encQ, encP, pgAgg] at hyy
      clear hlen hz htk hJs ga
      gi_wp2
      refine hRr.mono ?_
      rintro e W3 (⟨rfl, hJ3, hk3⟩ | ⟨rfl, hJx3⟩)
      · have HK3 := Lib.hid (row_keptB (w' := W3) HK2.out fun b e => hk3 b (HG.out b e))
        rw [← HM.out] at hJ3
        gi_wp2
        go_roundw
        case rel => exact ⟨k + 1, by omega, by go_num, hJ3, HK3⟩
        case measure => simp [intOf]; omega
      · rw [← HM.out] at hJx3
        gi_wp2
        refine bodyPost_ret (results_none rfl _ _ _) rfl ?_
        exact ⟨⟨_, rfl⟩, .inr ⟨_, HP.out, hJx3⟩⟩
    · obtain rfl : k = zs.length := by omega
      rw [List.take_of_length_le (by rw [List.length_attach]; exact Nat.le_refl _)] at hJs
      gi_wp2
      go_end0
      exact ⟨⟨_, rfl⟩, .inl ⟨_, rfl, hJs⟩⟩
theorem pages2_stops (n : Nat) (hn : 1 ≤ n) (Bs : Nat) (u : Value) (zs : PgL) (hl : zs.length ≤ 4096) (G : List Nat) (hG : ∀ g, u.ownBlock = some g → g ∈ G) (w : World) (hBs : w.cell? ⟨Bs, 0, none⟩ = some u) (hU : RowOf atCells 4 w u zs) :
    SeqStopsK Fence.wide n Try.prog 40 #[.pointer (some ⟨Bs, 0, none⟩)] (encQ (zs := zs)) (KpG G) (fun ys => ys = zs.attach) (fun pre => pre <+: zs.attach) zs.length w := fun l J Jx W hW hJ _ hY h0 =>
  pages2_in n hn l Bs u zs hl G hG J Jx W hJ hY W ((hW.cell (p := ⟨Bs, 0, none⟩) (World.block_lt_of_cell? w _ hBs)).trans hBs) (row_keptB hU fun b e => hW.block b (row_lt hU e)) h0
/-- The last page's index. -/
def lastK {zs : PgL} (pre : List (PI zs)) : Int := match pre.getLast? with | some x => x.1.1 | none => -1
theorem lastK_snoc {zs : PgL} {pre : List (PI zs)} {x : PI zs} : lastK (pre ++ [x]) = x.1.1 := by unfold lastK; simp
/-- Rising pages: each one is behind the last one. -/
theorem last_rise {zs : PgL} (hu : zs.Pairwise fun a b => a.1 < b.1) (h0 : ∀ n, n ∈ zs → 0 ≤ n.1) {pre : List (PI zs)} {x : PI zs} (hp : pre ++ [x] <+: zs.attach) : lastK pre < x.1.1 := by
  unfold lastK
  cases e : pre.getLast? with
  | none => have := h0 x.1 x.2; show (-1 : Int) < x.1.1; omega
  | some y =>
    obtain ⟨pre0, rfl⟩ : ∃ p, pre = p ++ [y] := List.getLast?_eq_some_iff.1 e
    obtain ⟨t, ht⟩ := hp
    have h1 : (zs.attach.map (·.1)).Pairwise fun a b => a.1 < b.1 := by rw [List.attach_map_subtype_val]; exact hu
    rw [← ht] at h1
    simp only [List.map_append, List.map_cons, List.append_assoc, List.cons_append, List.nil_append] at h1
    have h2 := (List.pairwise_append.1 h1).2.1
    exact (List.pairwise_cons.1 h2).1 x.1 (by simp)
end Go.Proofs.Ytefcefclncbimaa
