/- What is told of a row that package walk's take made: the leaves, table by table; plain lists. Package walk's tell: what lies below a row is told, in its order, as long as more is wanted; for every body that keeps the blocks that it reads. -/
import Derived.Test.YtlieommbomjdaaaWTake
import Derived.RangeFuncNested
import Derived.RangeFuncBound
import Derived.RangeFuncCalls
import Derived.RangeFuncLeaves
import Derived.RangeFuncBox
import Derived.Shelf.Abstract
import Derived.Shelf.RegionOpen
import Derived.OwnWalkIn
import Derived.TacticsInMore
import Derived.LoopNIn
import Derived.LoopIn
namespace Go.Proofs.Ytlieommbomjdaaa
open Go.ChangeShapes Go.WideShapes Go.ChangeAt Go.RowKit Go.Deep
set_option linter.unusedVariables false

section
variable (n : Nat) (L : List UInt8)
/-- What lies below an entry of a table of a level. -/
def dLN : Nat → Int → Int → Nat → List LeafV
  | 0, f, vp, k => dl0 n L f vp k
  | l + 1, f, vp, k => match nx n L f k with | none => [] | some g => (List.range 512).flatMap (dLN l g (vp * 512 + k))
def allL (l : Nat) (f vp : Int) : List LeafV := if 0 ≤ f ∧ f < n then (List.range 512).flatMap (dLN n L l f vp) else []
/-- What is told of a branch. -/
def yl (l : Nat) (vp : Int) (b : BrV) : List LeafV := match l with | 0 => [⟨vp * 512 + b.i, b.fl, b.pp⟩] | l + 1 => allL n L l b.pp (vp * 512 + b.i)
/-- What is so of each branch of a row. -/
def BrOk (F : Gh) (l : Nat) (b : BrV) : Prop := (0 ≤ b.i ∧ b.i < 512) ∧ (l = 0 → b.u = nilS) ∧ ∀ q, l = q + 1 → b.u ≠ nilS ∧ Sub n L F q b.pp b.u
end

section
variable {n : Nat} {L : List UInt8} {F : Gh}
theorem nxt_lt {f g : Int} {k : Nat} (h : nx n L f k = some g) : 0 ≤ g ∧ g < n ∧ g = ppnOf (wordI n L f k) := by
  unfold nx at h
  split at h
  · rename_i hc
    injection h with h
    subst h
    exact ⟨hc.2.1, hc.2.2, rfl⟩
  · cases h

theorem told_of (l : Nat) (hrec : ∀ q, q + 1 = l → ∀ g vp, Sub n L F q g nilS → allL n L q g vp = []) (f vp : Int) : ∀ (k : Nat), k ≤ 512 → ∀ (bs : List BrV), Itms (itemL n L F l f) k bs →
    (List.range k).flatMap (dLN n L l f vp) = bs.flatMap (yl n L l vp) ∧ ∀ b, b ∈ bs → BrOk n L F l b
  | 0, _, bs, h => by rw [show bs = [] from h]; simp
  | k + 1, hk, bs, ⟨a, x, ha, hx, e⟩ => by
    obtain ⟨h1, h2⟩ := told_of l hrec f vp k (by omega) a ha
    have hkey : dLN n L l f vp k = x.flatMap (yl n L l vp) ∧ ∀ b, b ∈ x → BrOk n L F l b := by
      cases l with
      | zero =>
        have hx' : item0 n L f k x := hx
        unfold item0 at hx'
        show dl0 n L f vp k = _ ∧ _
        unfold dl0
        rw [hx']
        split
        · refine ⟨by simp [yl], fun b hb => ?_⟩
          rw [List.mem_singleton] at hb
          subst hb
          exact ⟨⟨by simp, by show (k : Int) < 512; omega⟩, fun _ => rfl, fun q hq => by cases hq⟩
        · exact ⟨rfl, by simp⟩
      | succ q =>
        have hx' : itemS n L (Sub n L F q) f k x := hx
        unfold itemS at hx'
        show (match nx n L f k with | none => [] | some g => (List.range 512).flatMap (dLN n L q g (vp * 512 + k))) = _ ∧ _
        cases hn : nx n L f k with
        | none =>
          rw [hn] at hx'
          rw [hx']
          exact ⟨rfl, by simp⟩
        | some g =>
          rw [hn] at hx'
          obtain ⟨g0, g1, g2⟩ := nxt_lt hn
          obtain ⟨u, hu, hcase⟩ := hx'
          have hall : ∀ w, allL n L q g w = (List.range 512).flatMap (dLN n L q g w) := fun w => by unfold allL; rw [if_pos ⟨g0, g1⟩]
          rcases hcase with ⟨rfl, rfl⟩ | ⟨hu0, rfl⟩
          · refine ⟨?_, by simp⟩
            have := hrec q rfl g (vp * 512 + k) hu
            rw [hall] at this
            simpa using this
          · refine ⟨?_, fun b hb => ?_⟩
            · show (List.range 512).flatMap (dLN n L q g (vp * 512 + k)) = _
              rw [List.flatMap_cons, List.flatMap_nil, List.append_nil]
              show _ = allL n L q (ppnOf (wordI n L f k)) (vp * 512 + k)
              rw [← g2, hall]
            · rw [List.mem_singleton] at hb
              subst hb
              refine ⟨⟨by simp, by show (k : Int) < 512; omega⟩, (fun h => by omega), fun q' hq => ?_⟩
              obtain rfl : q = q' := by omega
              exact ⟨hu0, by show Sub n L F q (ppnOf (wordI n L f k)) u; rw [← g2]; exact hu⟩
    refine ⟨?_, fun b hb => ?_⟩
    · rw [List.range_succ, List.flatMap_append, h1, e, List.flatMap_append]
      congr 1
      rw [List.flatMap_cons, List.flatMap_nil, List.append_nil]
      exact hkey.1
    · rw [e] at hb
      rcases List.mem_append.1 hb with hb | hb
      · exact h2 b hb
      · exact hkey.2 b hb

theorem told_nil : ∀ (l : Nat) (g vp : Int), Sub n L F l g nilS → allL n L l g vp = [] := by
  intro l
  induction l with
  | zero =>
    intro g vp h
    obtain ⟨bs, hr, hb⟩ := (sub_eq n L F 0 g nilS).1 h
    obtain rfl := hr.nil_iff.1 rfl
    unfold allL
    split
    · rename_i hg
      rw [if_pos hg] at hb
      have := (told_of 0 (fun q hq => by omega) g vp 512 (Nat.le_refl _) [] hb).1
      simpa using this
    · rfl
  | succ l ih =>
    intro g vp h
    obtain ⟨bs, hr, hb⟩ := (sub_eq n L F (l + 1) g nilS).1 h
    obtain rfl := hr.nil_iff.1 rfl
    unfold allL
    split
    · rename_i hg
      rw [if_pos hg] at hb
      have := (told_of (l + 1) (fun q hq g' vp' => (show q = l by omega) ▸ ih g' vp') g vp 512 (Nat.le_refl _) [] hb).1
      simpa using this
    · rfl

/-- A row, by what is told of it. -/
theorem told_row {l : Nat} {f : Int} {v : Value} (vp : Int) (h : Sub n L F l f v) : ∃ bs, RowG F v bs ∧ bs.length ≤ 512 ∧ allL n L l f vp = bs.flatMap (yl n L l vp) ∧ ∀ b, b ∈ bs → BrOk n L F l b := by
  obtain ⟨bs, hr, hb⟩ := (sub_eq n L F l f v).1 h
  unfold allL
  split at hb
  · rename_i hf
    have ht := told_of l (fun q _ g' vp' => told_nil q g' vp') f vp 512 (Nat.le_refl _) bs hb
    rw [if_pos hf]
    exact ⟨bs, hr, itms_len hb, ht.1, ht.2⟩
  · rename_i hf
    rw [if_neg hf]
    subst hb
    exact ⟨[], hr, by simp, rfl, by simp⟩

/-- All leaves, told from the root's table on: the document's list. -/
theorem all_list (r : Int) : allL n L 2 r 0 = listA n L r 512 := by
  unfold allL
  split
  · rename_i hr
    rw [listA_down n L r hr]
    refine flatMap_range_congr 512 _ _ fun a ha => ?_
    show (match nx n L r a with | none => [] | some g => (List.range 512).flatMap (dLN n L 1 g (0 * 512 + a))) = dl2 n L r a
    unfold dl2
    cases nx n L r a with
    | none => rfl
    | some g =>
      rw [show (0 : Int) * 512 + a = a by omega]
      rfl
  · rename_i hr
    rw [listA_none n L r hr]
end
end Go.Proofs.Ytlieommbomjdaaa

namespace Go.Proofs.Ytlieommbomjdaaa
open Go.ChangeShapes Go.WideShapes Go.ChangeAt Go.RowKit Go.Deep
set_option linter.unusedVariables false
attribute [local go_sem] Oper.semAt_some

/-- What a body must keep: all cells but those of its own boxes. -/
def KpX (X : List Nat) (W W' : World) : Prop := ∀ k cs t fr, k ∉ X → W.heap[k]? = some (.cells cs t fr) → W'.heap[k]? = some (.cells cs t fr)
theorem kpX_t {X : List Nat} {A B C : World} (h : KpX X A B) (k : KpX X B C) : KpX X A C := fun i cs t fr hi hA => k i cs t fr hi (h i cs t fr hi hA)
theorem kpX_b {X : List Nat} (W : World) (l : Nat) (o o' : Obj) (hl : W.heap[l]? = some o) (ho : o.isCells = false) : KpX X W (W.putObj l o') := fun k cs t fr _ hk => by
  by_cases e : k = l
  · subst e; rw [hl] at hk; cases hk; cases ho
  · exact (World.putObj_heap_other e).trans hk

theorem yield_wide {n m : Nat} {P : Program} {l : Nat} {args : Array Value} {W : World} {R : Ending → World → Prop} (h : YieldAt Fence.wide n P l args W R) : YieldAt Fence.wide m P l args W R := by
  obtain ⟨fn, tmps, assign, body, h1, h2, h3⟩ := h
  exact ⟨fn, tmps, assign, body, h1, h2, fun c cs _ => h3 c cs (room_wide _)⟩
theorem callsIn_wide' {n m : Nat} {P : Program} {f : FuncId} {args : Array Value} {W : World} {R : Ending → World → Prop} (h : CallsIn Fence.wide n P f args W R) : CallsIn Fence.wide m P f args W R := callsIn_wide.2 (callsIn_wide.1 h)

/-- What tell reads: finished rows, the box of yield, the box of tell itself. -/
structure Rd (W : World) (F : Gh) (By Bt ly : Nat) : Prop where
  fin : Stands W F
  ybox : W.heap[By]? = some (.cells #[.func (.yield ly) #[] #[]] 82 (0, 0))
  tbox : W.heap[Bt]? = some (.cells #[.func (.func 70) #[] #[.pointer (some ⟨By, 0, none⟩), .pointer (some ⟨Bt, 0, none⟩)]] 121 (0, 0))

section
variable {W W' : World} {F : Gh} {By Bt ly : Nat} {X : List Nat}
theorem Rd.kp (h : Rd W F By Bt ly) (k : KpX X W W') (hX : (∀ b o, F b = some o → b ∉ X) ∧ By ∉ X ∧ Bt ∉ X) : Rd W' F By Bt ly :=
  ⟨fun b o hb => by
    obtain ⟨h1, cs, t, rfl⟩ := h.fin b o hb
    exact ⟨k _ _ _ _ (hX.1 b _ hb) h1, cs, t, rfl⟩, k _ _ _ _ hX.2.1 h.ybox, k _ _ _ _ hX.2.2 h.tbox⟩
theorem Rd.grow (h : Rd W F By Bt ly) (g : W.grownBy W' none) : Rd W' F By Bt ly :=
  ⟨fun b o hb => ⟨(g.block _ (h.fin.lt hb) (by simp)).trans (h.fin b o hb).1, (h.fin b o hb).2⟩, (g.block _ (Array.getElem?_eq_some_iff.1 h.ybox).1 (by simp)).trans h.ybox, (g.block _ (Array.getElem?_eq_some_iff.1 h.tbox).1 (by simp)).trans h.tbox⟩
theorem Rd.at (h : Rd W F By Bt ly) : W.cell? ⟨By, 0, none⟩ = some (.func (.yield ly) #[] #[]) ∧ W.cell? ⟨Bt, 0, none⟩ = some (.func (.func 70) #[] #[.pointer (some ⟨By, 0, none⟩), .pointer (some ⟨Bt, 0, none⟩)]) :=
  ⟨by rw [cell_of_row _ _ _ _ _ _ h.ybox]; rfl, by rw [cell_of_row _ _ _ _ _ _ h.tbox]; rfl⟩
end

theorem flat_cells (bs : List BrV) (j : Nat) (y : BrV) (h : bs[j]? = some y) (q : Nat) (c : Value) (hq : (brCells y)[q]? = some c) : (bs.flatMap brCells)[j * 4 + q]? = some c := by
  have hq4 : q < 4 := by have := (List.getElem?_eq_some_iff.1 hq).1; simpa [brCells] using this
  induction bs generalizing j with
  | nil => simp at h
  | cons x bs ih =>
    cases j with
    | zero =>
      simp only [List.getElem?_cons_zero, Option.some.injEq] at h
      subst h
      rw [List.flatMap_cons, Nat.zero_mul, Nat.zero_add, List.getElem?_append_left (by simpa [brCells] using hq4)]
      exact hq
    | succ j =>
      rw [List.getElem?_cons_succ] at h
      rw [List.flatMap_cons, List.getElem?_append_right (by simp [brCells]; omega)]
      have : (j + 1) * 4 + q - (brCells x).length = j * 4 + q := by simp [brCells]; omega
      rw [this]
      exact ih j h

/-- A branch of a finished row, as its cells. -/
theorem row_cells {W : World} {F : Gh} {v : Value} {bs : List BrV} (hr : RowG F v bs) (hf : Stands W F) {j : Nat} {y : BrV} (hy : bs[j]? = some y) :
    ∃ g cap, v = .slice (some ⟨g, 0, none⟩) bs.length cap ∧ W.cell? ⟨g, j * 4, none⟩ = some (.int .i64 y.i) ∧ W.cell? ⟨g, j * 4 + 1, none⟩ = some (.int .i64 y.fl) ∧ W.cell? ⟨g, j * 4 + 2, none⟩ = some (.int .i64 y.pp) ∧ W.cell? ⟨g, j * 4 + 3, none⟩ = some y.u := by
  have hj : j < bs.length := (List.getElem?_eq_some_iff.1 hy).1
  rcases hr with ⟨rfl, _⟩ | ⟨g, cap, cells, _, rfl, hF, ht⟩
  · simp at hj
  · have hg := (hf g _ hF).1
    have key : ∀ q c, (brCells y)[q]? = some c → W.cell? ⟨g, j * 4 + q, none⟩ = some c := fun q c hq => by
      have hq4 : q < 4 := by have := (List.getElem?_eq_some_iff.1 hq).1; simpa [brCells] using this
      have h1 := flat_cells bs j y hy q c hq
      rw [← ht, List.getElem?_take_of_lt (by omega), Array.getElem?_toList] at h1
      rw [cell_of_row _ _ _ _ _ _ hg]
      exact h1
    exact ⟨g, cap, rfl, key 0 _ rfl, key 1 _ rfl, key 2 _ rfl, key 3 _ rfl⟩

/-- Above whom a table of a level may stand. -/
def bnd : Nat → Int
  | 0 => 262144
  | 1 => 512
  | _ => 1

section
variable (nn n : Nat) (L : List UInt8) (F : Gh) (By Bt ly : Nat) (X : List Nat) (zs : List LeafV) (J Jx : List LeafV → World → Prop)
def TellOk (l : Nat) : Prop := ∀ (f vp : Int) (v : Value) (pre rest : List LeafV) (W : World), Sub n L F l f v → 0 ≤ vp → vp < bnd l → zs = pre ++ allL n L l f vp ++ rest → Rd W F By Bt ly → J pre W →
  CallsIn Fence.wide nn Try.prog 70 #[v, .int .i64 vp, .pointer (some ⟨By, 0, none⟩), .pointer (some ⟨Bt, 0, none⟩)] W fun e W' =>
    (e = .returned (.bool true) ∧ J (pre ++ allL n L l f vp) W' ∧ Rd W' F By Bt ly) ∨ (e = .returned (.bool false) ∧ ∃ p, p <+: zs ∧ Jx p W')
end

theorem tell_split {l : Nat} {n : Nat} {L : List UInt8} {bs : List BrV} {j : Nat} {y : BrV} {vp : Int} (hy : bs[j]? = some y) : bs.flatMap (yl n L l vp) = (bs.take j).flatMap (yl n L l vp) ++ (yl n L l vp y ++ (bs.drop (j + 1)).flatMap (yl n L l vp)) := by
  have hj : j < bs.length := (List.getElem?_eq_some_iff.1 hy).1
  have e : bs = bs.take j ++ y :: bs.drop (j + 1) := by
    have h1 : bs.drop j = y :: bs.drop (j + 1) := by
      rw [List.drop_eq_getElem_cons hj]
      congr 1
      have := (List.getElem?_eq_some_iff.1 hy).2
      exact this
    rw [← h1, List.take_append_drop]
  conv => lhs; rw [e]
  rw [List.flatMap_append, List.flatMap_cons]

theorem eql_nil_nil (w : World) : (binOp .eql 117 (.slice none 0 0) (.slice none 0 0)).run Try.prog w = .ok (.bool true) w := by
  have h1 : ∀ d : Nat, (Op.equalIn (d + 1) 117 (.slice none 0 0) (.slice none 0 0)).run Try.prog w = .ok true w := fun d => by
    simp [Op.equalIn, run_underlying Try.underlying117]
  simp only [binOp]
  simp [Op.equal, Op.maxDepth, h1 9999]
theorem eql_some_nil (w : World) (a : Addr) (l c : Nat) : (binOp .eql 117 (.slice (some a) l c) (.slice none 0 0)).run Try.prog w = .ok (.bool false) w := by
  have h1 : ∀ d : Nat, (Op.equalIn (d + 1) 117 (.slice (some a) l c) (.slice none 0 0)).run Try.prog w = .ok false w := fun d => by
    simp [Op.equalIn, run_underlying Try.underlying117]
  simp only [binOp]
  simp [Op.equal, Op.maxDepth, h1 9999]

set_option maxRecDepth 100000 in
set_option maxHeartbeats 4000000 in
theorem tell_ok (nn n : Nat) (L : List UInt8) (F : Gh) (By Bt ly : Nat) (X : List Nat) (zs : List LeafV) (J Jx : List LeafV → World → Prop) (B : Nat) (hJ : AbidesFrom B J) (hX : (∀ b o, F b = some o → b ∉ X) ∧ By ∉ X ∧ Bt ∉ X)
    (hY : ∀ pre x W1, J pre W1 → pre.length < zs.length → YieldAt Fence.wide (nn - 1) Try.prog ly #[.int .i64 x.v, .agg #[.int .i64 x.fl, .int .i64 x.pp]] W1 fun e W' =>
      (e = .returned (.bool true) ∧ J (pre ++ [x]) W' ∧ KpX X W1 W') ∨ (e = .returned (.bool false) ∧ Jx (pre ++ [x]) W'))
    (l : Nat) (hl2 : l ≤ 2) (IH : ∀ q, q + 1 = l → TellOk (nn - 1) n L F By Bt ly zs J Jx q) : TellOk nn n L F By Bt ly zs J Jx l := by
  intro f vp v pre rest W hs hv0 hv1 hz hrd h0
  obtain ⟨bs, hr, hln, hall, hok⟩ := told_row vp hs
  rw [hall] at hz ⊢
  have hJ' := Lib.hid hJ
  have HY := Lib.hid hY
  have HX := Lib.hid hX
  have HR := Lib.hid hr
  have HOK := Lib.hid hok
  have HZ := Lib.hid hz
  have HV : v = .slice none 0 0 ∨ ∃ g cap, v = .slice (some ⟨g, 0, none⟩) bs.length cap := by
    rcases hr with ⟨_, rfl⟩ | ⟨g, cap, cells, _, rfl, _, _⟩
    · exact .inl rfl
    · exact .inr ⟨g, cap, rfl⟩
  obtain ⟨s, cp, rfl⟩ : ∃ s cp, v = .slice s bs.length cp := by
    rcases hr with ⟨hb, rfl⟩ | ⟨g, cap, cells, _, rfl, _, _⟩
    · exact ⟨none, 0, by rw [hb]; rfl⟩
    · exact ⟨_, _, rfl⟩
  have hvb : vp < 262144 := by
    have : bnd l ≤ 262144 := by
      match l, hl2 with
      | 0, _ => simp [bnd]
      | 1, _ => simp [bnd]
      | 2, _ => simp [bnd]
    omega
  have HB := Lib.hid hv1
  have HRd := Lib.hid hrd
  clear hs hall hok hz hr HV hJ hY hX hv1 hrd
  refine callsIn_of_wp Try.func70 rfl trivial ?_ rfl
  simp only [Try.ntmps70, List.size_toArray, List.length_cons, List.length_nil, Nat.reduceAdd, Nat.reduceSub, Array.replicate_succ, Array.replicate_zero, List.push_toArray, List.append_toArray, List.nil_append, List.cons_append]
  gi_wp2
  gi_loopw [13] (fun i wr => ∃ j : Nat, j ≤ bs.length ∧ i = .int .i64 j ∧ J (pre ++ (bs.take j).flatMap (yl n L l vp)) wr ∧ Hid (Rd wr F By Bt ly))
    (fun i _ => bs.length - (intOf i).toNat)
  case atStart => exact ⟨0, Nat.zero_le _, rfl, by simpa using h0, HRd⟩
  case round =>
    obtain ⟨j, hj, rfl, hJs, HD⟩ := hrel
    by_cases hlt : j < bs.length
    · obtain ⟨y, hy⟩ : ∃ y, bs[j]? = some y := ⟨_, List.getElem?_eq_getElem hlt⟩
      obtain ⟨⟨hi0, hi1⟩, hzero, hsucc⟩ := HOK.out y (List.mem_of_getElem? hy)
      obtain ⟨g, cap, hsl, c0, c1, c2, c3⟩ := row_cells HR.out HD.out.fin hy
      injection hsl with hs1 hs2 hs3
      subst hs1
      have HSp := Lib.hid (tell_split (l := l) (n := n) (L := L) (vp := vp) hy)
      have HTk := Lib.hid (show (bs.take (j + 1)).flatMap (yl n L l vp) = (bs.take j).flatMap (yl n L l vp) ++ yl n L l vp y by rw [List.take_add_one, hy]; simp)
      have HG := Lib.hid (World.grownBy_alloc wr (.cells #[.int .i64 y.i, .int .i64 y.fl, .int .i64 y.pp, y.u] 123) none)
      have HD2 := Lib.hid (HD.out.grow HG.out)
      have HJ2 := Lib.hid (hJ'.out _ _ _ _ hJs HG.out (by simp))
      have hb8 : (wr.alloc (.cells #[.int .i64 y.i, .int .i64 y.fl, .int .i64 y.pp, y.u] 123)).heap[wr.heap.size]? = some (.cells #[.int .i64 y.i, .int .i64 y.fl, .int .i64 y.pp, y.u] 123 (0, 0)) := heap_alloc_new wr _
      have HY8 := Lib.hid (show BrB (wr.alloc (.cells #[.int .i64 y.i, .int .i64 y.fl, .int .i64 y.pp, y.u] 123)) wr.heap.size y.i y.fl y.pp y.u from hb8)
      clear hJs hy hb8 hs2 hs3
      by_cases hz : l = 0
      · have hu : y.u = .slice none 0 0 := hzero hz
        have hyl : yl n L l vp y = [⟨vp * 512 + y.i, y.fl, y.pp⟩] := by subst hz; rfl
        have HYL := Lib.hid hyl
        rw [hyl] at HSp HTk
        rw [hu] at c3 HG HD2 HJ2 HY8
        clear hzero hsucc hyl hz
        obtain ⟨yi, yf, yp, yu⟩ := y
        simp only at hu
        subst hu
        simp only at *
        obtain ⟨b0, b1, b2, b3⟩ := HY8.out.at
        obtain ⟨d0, d1⟩ := HD2.out.at
        have hlen : (pre ++ (bs.take j).flatMap (yl n L l vp)).length < zs.length := by rw [HZ.out, HSp.out]; simp
        obtain ⟨fn, tmps, assign, body, hyy, hR⟩ := yield_wide (m := nn - 1) (HY.out _ ⟨vp * 512 + yi, yf, yp⟩ _ HJ2.out hlen)
        clear hlen
        have hq := eql_nil_nil (wr.alloc (.cells #[.int .i64 yi, .int .i64 yf, .int .i64 yp, .slice none 0 0] 123))
        gi_wp2
        refine ⟨(fun h => by cases h), ?_⟩
        refine hR.mono ?_
        rintro e W3 (⟨rfl, hJ3, hk3⟩ | ⟨rfl, hJx3⟩)
        · have HD3 := Lib.hid (HD2.out.kp hk3 HX.out)
          gi_wp2
          go_roundw
          case rel => exact ⟨j + 1, by omega, by go_num, by rw [HTk.out, ← List.append_assoc]; exact hJ3, HD3⟩
          case measure => simp [intOf]; omega
        · gi_wp2
          refine bodyPost_ret (results_tmp rfl _ _ _) rfl ?_
          refine .inr ⟨rfl, _, ⟨(bs.drop (j + 1)).flatMap (yl n L l vp) ++ rest, ?_⟩, hJx3⟩
          rw [HZ.out, HSp.out]
          simp
      · obtain ⟨q, rfl⟩ : ∃ q, l = q + 1 := ⟨l - 1, by omega⟩
        obtain ⟨hu, hsub⟩ := hsucc q rfl
        have hyl : yl n L (q + 1) vp y = allL n L q y.pp (vp * 512 + y.i) := rfl
        rw [hyl] at HSp HTk
        obtain ⟨bs5, hr5, _⟩ := (sub_eq _ _ _ _ _ _).1 hsub
        have hb1 := HB.out
        have hvq : 0 ≤ vp * 512 + y.i ∧ vp * 512 + y.i < bnd q := by
          match q, hl2 with
          | 0, _ => simp [bnd] at hb1 ⊢; omega
          | 1, _ => simp [bnd] at hb1 ⊢; omega
        have HC := Lib.hid (IH q rfl y.pp (vp * 512 + y.i) y.u (pre ++ (bs.take j).flatMap (yl n L (q + 1) vp)) ((bs.drop (j + 1)).flatMap (yl n L (q + 1) vp) ++ rest) _ hsub hvq.1 hvq.2 (by rw [HZ.out, HSp.out]; simp) HD2.out HJ2.out)
        clear hzero hsucc hyl hz hsub hb1 hvq IH
        obtain ⟨yi, yf, yp, yu⟩ := y
        simp only at *
        rcases hr5 with ⟨_, rfl⟩ | ⟨b9, cap9, cells9, hne, rfl, _, _⟩
        · exact absurd rfl hu
        clear hu hne
        obtain ⟨b0, b1, b2, b3⟩ := HY8.out.at
        obtain ⟨d0, d1⟩ := HD2.out.at
        have hq := eql_some_nil (wr.alloc (.cells #[.int .i64 yi, .int .i64 yf, .int .i64 yp, .slice (some ⟨b9, 0, none⟩) bs5.length cap9] 123)) ⟨b9, 0, none⟩ bs5.length cap9
        gi_wp2_with fail
        refine ⟨trivial, (fun h => by cases h), ?_⟩
        refine HC.out.mono ?_
        rintro e W3 (⟨rfl, hJ3, hd3⟩ | ⟨rfl, p, hp, hJx3⟩)
        · have HD3 := Lib.hid hd3
          gi_wp2
          go_roundw
          case rel => exact ⟨j + 1, by omega, by go_num, by rw [HTk.out, ← List.append_assoc]; exact hJ3, HD3⟩
          case measure => simp [intOf]; omega
        · gi_wp2
          refine bodyPost_ret (results_tmp rfl _ _ _) rfl ?_
          exact .inr ⟨rfl, p, hp, hJx3⟩
    · obtain rfl : j = bs.length := by omega
      rw [List.take_length] at hJs
      gi_wp2
      refine bodyPost_ret (results_tmp rfl _ _ _) rfl ?_
      exact .inl ⟨rfl, hJs, HD.out⟩
end Go.Proofs.Ytlieommbomjdaaa
