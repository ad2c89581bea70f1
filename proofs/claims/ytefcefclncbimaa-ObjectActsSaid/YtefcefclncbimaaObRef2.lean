/- The document's objects of layer 14: rows of pages in the making; Pages, Get. -/
import Derived.Test.YtefcefclncbimaaObRef1
import Derived.Laws.ResultCell
namespace Go.Proofs.Ytefcefclncbimaa
open Go.ChangeShapes Go.WideShapes Go.ChangeAt Go.RowKit Go.Deep
set_option linter.unusedVariables false

theorem t_cells {w : World} {v : Value} {L : PgL} (h : RowOf atCells 4 w v L) {j : Nat} {n : Int × PgV} (hn : L[j]? = some n) :
    ∃ g o c, v = .slice (some ⟨g, o, none⟩) L.length c ∧ w.cell? ⟨g, o + j * 4, none⟩ = some (.int .i64 n.1) ∧ w.cell? ⟨g, o + j * 4 + 1, none⟩ = some (.int .i64 n.2.fr) ∧ w.cell? ⟨g, o + j * 4 + 2, none⟩ = some (.int .i64 n.2.sl) ∧ w.cell? ⟨g, o + j * 4 + 3, none⟩ = some (.bool n.2.d) := by
  obtain ⟨g, o, c, hv, hc⟩ := RowOf.at at_len h hn
  exact ⟨g, o, c, hv, hc 0 _ rfl, hc 1 _ rfl, hc 2 _ rfl, hc 3 _ rfl⟩
theorem info_at : (Try.prog.info? 58).map (fun i => (i.zero, i.size, i.bytes)) = some (some (.agg #[.int .i64 0, .int .i64 0, .int .i64 0, .bool false]), 4, 32) := by kernel_rfl
def atBox (n : Int × PgV) : Obj := .cells #[.int .i64 n.1, .int .i64 n.2.fr, .int .i64 n.2.sl, .bool n.2.d] 58 (0, 0)
/-- 'append(l, x)', behind the block in which x is laid. -/
theorem wpList_tpush {ops : Array Oper} {rest : List Oper} {o : Oper} {a : Act} {Q : Exit → Act → World → Prop} (w : World) (hgd : o.guard = none) (s x : Operand)
    (ho : o.op = .call { callee := .builtin .append, args := #[s, x], argTypes := #[52, 52] }) (base : Nat) (v : Value) (xs : PgL) (n f z : Int) (d : Bool) (hs : a.eval s = v) (h : TOwn w base v xs) (H c : Nat)
    (hx : a.eval x = .slice (some ⟨H, 0, none⟩) 1 c) (hH : w.heap.size = H) (hl : xs.length ≤ 1000000) (hbase : base ≤ H)
    (hK : ∀ g cap w', TOwn w' base (.slice (some ⟨g, 0, none⟩) (xs.length + 1) cap) (xs ++ [(n, ⟨f, z, d⟩)]) → (w.alloc (.cells #[.int .i64 n, .int .i64 f, .int .i64 z, .bool d] 58)).grownBy w' v.ownBlock → wpList Try.prog ops Q rest (a.put o.dst (.slice (some ⟨g, 0, none⟩) (xs.length + 1) cap)) w') :
    wpList Try.prog ops Q (o :: rest) a (w.alloc (.cells #[.int .i64 n, .int .i64 f, .int .i64 z, .bool d] 58)) := by
  obtain ⟨i0, hi, hz0, hz1, hz2⟩ := info_parts info_at
  subst hH
  refine wpList_append_lies _ hgd s x 52 ho base 58 i0 (.agg #[.int .i64 0, .int .i64 0, .int .i64 0, .bool false]) 4 32 Try.underlying52 hi hz0 hz1 hz2 rfl (by decide) v xs.length (xs.flatMap atCells) hs (World.ownsRow.alloc h _) ⟨w.heap.size, 0, none⟩ 1 c (atCells (n, ⟨f, z, d⟩)) hx rfl ?_ ?_ (by omega) (by unfold maxLen; omega) (by omega) (by simp; omega) (w.heap.size + 1) (by simp) ?_
  · exact World.news_of_block (heap_alloc_new w _)
  · intro u hu; simp [atCells] at hu; rcases hu with rfl | rfl | rfl | rfl <;> rfl
  · intro g cap w' hown hgrow hat hlt
    refine hK g cap w' ?_ hgrow
    unfold TOwn OwnOf
    simp only [List.length_append, List.length_cons, List.length_nil, List.flatMap_append, List.flatMap_cons, List.flatMap_nil, List.append_nil]
    exact hown
abbrev TMk := MkOf atCells 4 58
theorem cut_take {l : PgL} {j : Nat} {n : Int × PgV} {lo hi : Int} (h : l[j]? = some n) : cutO (l.take (j + 1)) lo hi = cutO (l.take j) lo hi ++ if lo ≤ n.1 ∧ n.1 < hi then [n] else [] := by
  rw [takel_at h]
  unfold cutO
  rw [List.filter_append]
  congr 1
  by_cases e : lo ≤ n.1 ∧ n.1 < hi
  · rw [if_pos e, List.filter_cons_of_pos (by simpa using e)]; rfl
  · rw [if_neg e, List.filter_cons_of_neg (by simpa using e)]; rfl
theorem cut_len {l : PgL} {j : Nat} {lo hi : Int} : (cutO (l.take j) lo hi).length ≤ l.length := by
  unfold cutO
  refine Nat.le_trans (List.length_filter_le _ _) ?_
  rw [List.length_take]
  omega
theorem cut_len2 {l : PgL} {lo hi : Int} : (cutO l lo hi).length ≤ l.length := List.length_filter_le _ _

section
variable {w w' : World} {q most : Nat} {v : Value} {L : ObL} {S : Nat → ObP}
set_option maxHeartbeats 2000000 in
theorem ro_pages (h : RO w q most v L S) (hg : GoodOs most L) (id lo hi : Int) (hid : okI id) : Calls Try.prog 28 #[.pointer (some ⟨q, 0, none⟩), .int .i64 id, .int .i64 lo, .int .i64 hi] w fun e w' => ∃ u, e = .returned u ∧ RowOf atCells 4 w' u (pagesO L id lo hi) ∧ (∀ b, u.ownBlock = some b → w.heap.size ≤ b) ∧ w.grownBy w' none := by
  have hl := Nat.le_trans hg.len hg.most
  rcases of_cases L id with ⟨e, -⟩ | ⟨i, x, rfl, hi2, hx, e⟩
  · rw [show pagesO L id lo hi = [] by unfold pagesO; rw [e]]
    have HO := Lib.hid (ro_object_none h hl hid e)
    clear h e
    go_enter Try.func28, Try.ntmps28
    go_wp2_with fail
    refine HO.out.mono ?_
    rintro e w2 ⟨rfl, e2⟩
    subst w2
    go_wp2_with fail
    go_ret
    exact ⟨_, rfl, RowAt.nil _ _, (fun b e => by cases e), grown_refl _ _⟩
  · rw [show pagesO L ((i : Int) + 1) lo hi = cutO x.L lo hi by unfold pagesO; rw [e]]
    have hlen := (ofO_good hg e).ps.len
    have HO := Lib.hid (ro_object_some h hl hx)
    have hb := h.am.each i x hx
    have c2 := hb.at.2.2
    have hrow := OwnOf.row hb.d.1
    obtain ⟨sv, cv, hv⟩ := rowOf_form hrow
    rw [hv] at c2 hrow
    have HW := Lib.hid hrow
    have hq := neq_rob
    clear h e hx hid hg hb hrow hv
    obtain ⟨l, hxl⟩ : ∃ l, x.L = l := ⟨_, rfl⟩
    rw [hxl] at c2 HW hlen ⊢
    clear hxl
    go_enter Try.func28, Try.ntmps28
    go_wp2_with fail
    refine HO.out.mono ?_
    rintro e w2 ⟨rfl, e2⟩
    subst w2
    go_wp2_with fail
    go_loopw [9, 23] (fun uv iv wr => ∃ j : Nat, j ≤ l.length ∧ iv = .int .i64 j ∧ Hid (TMk w wr uv (cutO (l.take j) lo hi))) (fun _ iv _ => l.length - (intOf iv).toNat)
    case atStart => exact ⟨0, by omega, rfl, MkOf.nil w⟩
    case round =>
      obtain ⟨j, hj, rfl, HM⟩ := hrel
      by_cases hlt : j < l.length
      · obtain ⟨⟨n, f, z, d⟩, hn⟩ : ∃ n, l[j]? = some n := ⟨_, List.getElem?_eq_getElem hlt⟩
        obtain ⟨g, o, cc, hvv, k0, k1, k2, k3⟩ := t_cells (rowOf_grow HW.out HM.out.grown) hn
        injection hvv with e1 e2 e3
        subst e1 e3
        simp only at k0 k1 k2 k3
        have hct := cut_take (lo := lo) (hi := hi) hn
        have hcl := cut_len (l := l) (j := j) (lo := lo) (hi := hi)
        simp only at hct
        have gb := World.grownBy_alloc wr (.cells #[.int .i64 n, .int .i64 f, .int .i64 z, .bool d] 58 (0, 0)) none
        by_cases h1 : lo ≤ n
        · have d1 : decide (n ≥ lo) = true := decide_eq_true h1
          by_cases h2 : n < hi
          · have d2 : decide (n < hi) = true := decide_eq_true h2
            rw [if_pos ⟨h1, h2⟩] at hct
            have HC := Lib.hid hct
            obtain ⟨Z, hZ⟩ : ∃ Z, cutO (l.take j) lo hi = Z := ⟨_, rfl⟩
            rw [hZ] at HM HC hcl
            have HM2 := Lib.hid (MkOf.grow HM.out gb)
            obtain ⟨sa, sc, hu⟩ := OwnOf.form HM.out.own
            subst hu
            have hws : w.heap.size ≤ (wr.alloc (.cells #[.int .i64 n, .int .i64 f, .int .i64 z, .bool d] 58 (0, 0))).heap.size := by rw [World.size_alloc]; have := HM.out.grown.size; omega
            clear c2 hct hZ hn gb HM h1 h2
            go_wp2_with (at_builtin; refine wpList_tpush (wr.alloc (.cells #[.int .i64 n, .int .i64 f, .int .i64 z, .bool d] 58 (0, 0))) rfl _ _ rfl w.heap.size (.slice sa Z.length sc) Z n f z d rfl HM2.out.own (wr.heap.size + 1) 1 rfl (by simp) (by omega) (by rw [World.size_alloc] at hws; exact hws) ?_; intro g9 c9 w9 hown9 hgrow9; have HN := Lib.hid (MkOf.app HM2.out hgrow9 hown9); clear hown9 hgrow9)
            go_roundw
            case rel => exact ⟨j + 1, by omega, by go_num, by rw [HC.out]; exact HN⟩
            case measure => simp [intOf]; omega
          · have d2 : decide (n < hi) = false := decide_eq_false h2
            rw [if_neg (fun k => h2 k.2), List.append_nil] at hct
            have HM2 := Lib.hid (MkOf.grow HM.out gb)
            rw [← hct] at HM2
            clear c2 hct hn gb HM h1 h2 hcl
            go_wp2_with fail
            go_roundw
            case rel => exact ⟨j + 1, by omega, by go_num, HM2⟩
            case measure => simp [intOf]; omega
        · have d1 : decide (n ≥ lo) = false := decide_eq_false h1
          rw [if_neg (fun k => h1 k.1), List.append_nil] at hct
          have HM2 := Lib.hid (MkOf.grow HM.out gb)
          rw [← hct] at HM2
          clear c2 hct hn gb HM h1 hcl
          go_wp2_with fail
          go_roundw
          case rel => exact ⟨j + 1, by omega, by go_num, HM2⟩
          case measure => simp [intOf]; omega
      · obtain rfl : j = l.length := by omega
        rw [List.take_length] at HM
        go_wp2_with fail
        go_ret
        exact ⟨_, rfl, HM.out.row, fun b hb => (OwnOf.lt HM.out.own hb).1, HM.out.grown⟩
end
end Go.Proofs.Ytefcefclncbimaa
