/- WalkLeaves, walked: it answers true, and nothing that was there has turned. -/
import Derived.Test.YtomkhdefjfjlnaaWIter
import Derived.Test.YtomkhdefjfjlnaaWQuiet
import Derived.Laws.StructEq
namespace Go.Proofs.Ytomkhdefjfjlnaa
open Go.ChangeShapes Go.WideShapes Go.ChangeAt Go.RowKit Go.Deep
set_option linter.unusedVariables false
attribute [local go_sem] Oper.semAt_some

theorem results_cell_bool {fn : Func} {p : Tmp} (h : fn.results = #[.cell p 4]) (tmps : Array Value) (w : World) (g : Nat) (v : Value) (hp : tmps.getD p undef = .pointer (some ⟨g, 0, none⟩)) (hc : w.cell? ⟨g, 0, none⟩ = some v) :
    (results fn tmps).run Try.prog w = .ok v w := by
  have hp' : tmps[p]?.getD undef = .pointer (some ⟨g, 0, none⟩) := by simpa using hp
  have hagg : (isAgg 4).run Try.prog w = .ok false w := by
    unfold isAgg
    rw [Sem.run_bind, run_underlying Try.underlying4 w]
    rfl
  simp [results, h, hp', asAddr, loadVar, hagg, hc, go_sem]

theorem eql_seq_nil (w : World) (fn : Fn) (a b : Array Value) : (binOp .eql 49 (.func fn a b) .nilFunc).run Try.prog w = .ok (.bool false) w := by
  have h1 : ∀ d : Nat, (Op.equalIn (d + 1) 49 (.func fn a b) .nilFunc).run Try.prog w = .ok false w := fun d => by
    simp [Op.equalIn, run_underlying Try.underlying49]
  simp only [binOp]
  simp [Op.equal, Op.maxDepth, h1 9999]

/-- A block turns that was not there at the beginning. -/
theorem below_turn {w a b : World} {x : Nat} (h : Below w.heap.size w a) (g : a.grownBy b (some x)) (hx : w.heap.size ≤ x) : Below w.heap.size w b := h.grown g h.size (by simpa using hx)

/-- The two blocks in which the law's own names lie. -/
structure Own2 (w wr : World) (most : Int) : Prop where
  below : Below w.heap.size w wr
  most : Boxed wr w.heap.size 3 (.int .i64 most)
  res : Boxed wr (w.heap.size + 1) 4 (.bool false)
theorem Own2.grow {w wr w2 : World} {most : Int} (h : Own2 w wr most) (g : wr.grownBy w2 none) : Own2 w w2 most :=
  ⟨h.below.grown g h.below.size (by simp), h.most.kept g (by simp), h.res.kept g (by simp)⟩
theorem Own2.new (w : World) (most : Int) : Own2 w ((w.alloc (.cells #[.int .i64 most] 3)).alloc (.cells #[.bool false] 4)) most :=
  ⟨((Below.refl _ w).alloc (Nat.le_refl _) _).alloc (by simp) _, (Boxed.new w _ _).alloc _, by have := Boxed.new (w.alloc (.cells #[.int .i64 most] 3)) 4 (.bool false); rwa [World.size_alloc] at this⟩
/-- The result is written. -/
theorem Own2.told {w wr : World} {most : Int} (h : Own2 w wr most) : Below w.heap.size w (wr.setCell ⟨w.heap.size + 1, 0, none⟩ (.bool true)) ∧ Boxed (wr.setCell ⟨w.heap.size + 1, 0, none⟩ (.bool true)) (w.heap.size + 1) 4 (.bool true) :=
  ⟨below_turn h.below (grownBy_setCell' _ _ _) (Nat.le_succ _), h.res.set _⟩

set_option maxRecDepth 100000 in
set_option maxHeartbeats 1000000 in
theorem leaves_long (HWalk : WalkOk) (w : World) (s : Option Addr) (l c : Nat) (root most : Int) (hl : 40 < l) :
    Calls Try.prog 5 #[.slice s l c, .int .i64 root, .int .i64 most] w fun e w' => e = .returned (.bool true) ∧ Below w.heap.size w w' := by
  have HLv := Lib.hid (lives4 HWalk)
  have d0 : decide ((l : Int) > 40) = true := by simp; omega
  have HO := Lib.hid (Own2.new w most)
  generalize hwa : (w.alloc (.cells #[.int .i64 most] 3)).alloc (.cells #[.bool false] 4) = wa at *
  clear HWalk hl
  go_enter Try.func5, Try.ntmps5
  go_wp2_with fail
  refine (HLv.out _).mono ?_
  rintro e w2 ⟨rfl, g2⟩
  have HO2 := Lib.hid (HO.out.grow g2)
  have hc := HO2.out.res.cell
  have hf := HO2.out.res.frozen
  clear g2
  go_wp2_with fail
  refine bodyPost_ret (results_cell_bool rfl _ _ (w.heap.size + 1) _ rfl HO2.out.told.2.cell) rfl ?_
  exact ⟨rfl, HO2.out.told.1⟩

theorem Own2.grow' {w wr w2 : World} {most : Int} {x : Nat} (h : Own2 w wr most) (g : wr.grownBy w2 (some x)) (hx : w.heap.size + 2 ≤ x) : Own2 w w2 most :=
  ⟨below_turn h.below g (by omega), h.most.kept g (fun e => by have := Option.some.inj e; omega), h.res.kept g (fun e => by have := Option.some.inj e; omega)⟩

/-- What the loop reads. -/
structure LawW (w W : World) (most : Int) (Bw base : Nat) (sv : Option Addr) (cv : Nat) (zs : List LeafV) : Prop where
  own : Own2 w W most
  box : Boxed W Bw 46 (.slice sv zs.length cv)
  row : LeafsOwn W base (.slice sv zs.length cv) zs
theorem LawW.grow' {w W W2 : World} {most : Int} {Bw base x : Nat} {sv : Option Addr} {cv : Nat} {zs : List LeafV} (h : LawW w W most Bw base sv cv zs) (g : W.grownBy W2 (some x)) (hx : w.heap.size + 2 ≤ x) (h1 : x ≠ Bw) (h2 : (Value.slice sv zs.length cv).ownBlock ≠ some x) : LawW w W2 most Bw base sv cv zs :=
  ⟨h.own.grow' g hx, h.box.kept g (fun e => h1 (Option.some.inj e).symm), h.row.kept fun b hb => g.block b (h.row.lt hb).2 (fun e => h2 (by rw [hb, e]))⟩

theorem flat_leaf (zs : List LeafV) (j : Nat) (y : LeafV) (h : zs[j]? = some y) (q : Nat) (c : Value) (hq : (leafCells y)[q]? = some c) : (zs.flatMap leafCells)[j * 3 + q]? = some c := by
  have hq3 : q < 3 := by have := (List.getElem?_eq_some_iff.1 hq).1; simpa [leafCells] using this
  induction zs generalizing j with
  | nil => simp at h
  | cons x zs ih =>
    cases j with
    | zero =>
      simp only [List.getElem?_cons_zero, Option.some.injEq] at h
      subst h
      rw [List.flatMap_cons, Nat.zero_mul, Nat.zero_add, List.getElem?_append_left (by simpa [leafCells] using hq3)]
      exact hq
    | succ j =>
      rw [List.getElem?_cons_succ] at h
      rw [List.flatMap_cons, List.getElem?_append_right (by simp [leafCells]; omega)]
      have : (j + 1) * 3 + q - (leafCells x).length = j * 3 + q := by simp [leafCells]; omega
      rw [this]
      exact ih j h

/-- A leaf of the row, as its cells. -/
theorem leaf_cells {W : World} {base : Nat} {sv : Option Addr} {cv : Nat} {zs : List LeafV} (hr : LeafsOwn W base (.slice sv zs.length cv) zs) {j : Nat} {y : LeafV} (hy : zs[j]? = some y) :
    ∃ g, sv = some ⟨g, 0, none⟩ ∧ W.cell? ⟨g, j * 3, none⟩ = some (.int .i64 y.v) ∧ W.cell? ⟨g, j * 3 + 1, none⟩ = some (.int .i64 y.fl) ∧ W.cell? ⟨g, j * 3 + 2, none⟩ = some (.int .i64 y.pp) := by
  have hj : j < zs.length := (List.getElem?_eq_some_iff.1 hy).1
  rcases hr.2 with ⟨_, h0⟩ | ⟨g, cap, cur, hv, _, hg, _, _, _, ht⟩
  · omega
  · injection hv with e1 e2 e3
    have key : ∀ q c, (leafCells y)[q]? = some c → W.cell? ⟨g, j * 3 + q, none⟩ = some c := fun q c hq => by
      have hq3 : q < 3 := by have := (List.getElem?_eq_some_iff.1 hq).1; simpa [leafCells] using this
      have h1 := flat_leaf zs j y hy q c hq
      rw [← ht, List.getElem?_take_of_lt (by omega), Array.getElem?_toList] at h1
      rw [cell_of_row _ _ _ _ _ _ hg]
      exact h1
    exact ⟨g, e1, key 0 _ rfl, key 1 _ rfl, key 2 _ rfl⟩

theorem grown_row {a b e : World} {x : Nat} {row : Option Nat} (h : a.grownBy b (some x)) (g : b.grownBy e row) (hr : ∀ r, row = some r → a.heap.size ≤ r) : a.grownBy e (some x) :=
  ⟨g.os.trans h.os, g.tape.trans h.tape, g.output.trans h.output, Nat.le_trans h.size g.size, fun k hk hx => (g.block k (Nat.lt_of_lt_of_le hk h.size) (fun e => by have := hr k e.symm; omega)).trans (h.block k hk hx)⟩

theorem next_pre {pre zs : List LeafV} {y : LeafV} (hp : pre <+: zs) (hy : zs[pre.length]? = some y) (x : LeafV) : (y = x → (pre ++ [x]) <+: zs) ∧ (y ≠ x → ¬ (pre ++ [x]) <+: zs) := by
  obtain ⟨t, rfl⟩ := hp
  rw [List.getElem?_append_right (Nat.le_refl _), Nat.sub_self] at hy
  cases t with
  | nil => simp at hy
  | cons z t =>
    simp at hy
    subst hy
    constructor
    · rintro rfl
      exact ⟨t, by simp⟩
    · rintro hne ⟨t2, h2⟩
      rw [List.append_assoc] at h2
      have h3 := List.append_cancel_left h2
      simp at h3
      exact hne h3.1.symm

theorem neq_entry (w : World) (a b c d : Int) : (binOp .neq 40 (.agg #[.int .i64 a, .int .i64 b]) (.agg #[.int .i64 c, .int .i64 d])).run Try.prog w = .ok (.bool (!(decide (a = c ∧ b = d)))) w := by
  go_simp
  by_cases h1 : a = c <;> by_cases h2 : b = d <;> simp [h1, h2]

set_option maxRecDepth 100000 in
set_option maxHeartbeats 4000000 in
theorem leaves_walk (HWalk : WalkOk) (w : World) (s : Option Addr) (l c : Nat) (Ws : List WordV) (hW : WordsAre w s l Ws) (root most : Int) (hr : okI root) :
    Calls Try.prog 5 #[.slice s l c, .int .i64 root, .int .i64 most] w fun e w' => e = .returned (.bool true) ∧ Below w.heap.size w w' := by
  by_cases hl : 40 < l
  · exact leaves_long HWalk w s l c root most hl
  · have HLv := Lib.hid (lives4 HWalk)
    have d0 : decide ((l : Int) > 40) = false := by simp; omega
    have hl3 : l ≤ 1000 := by omega
    have HO := Lib.hid (Own2.new w most)
    have HW := Lib.hid hW
    have HR := Lib.hid hr
    generalize hwa : (w.alloc (.cells #[.int .i64 most] 3)).alloc (.cells #[.bool false] 4) = wa at *
    clear HWalk hl hW hr
    have HWa := Lib.hid (HW.out.below HO.out.below)
    refine (callsIn_wide (n := 9)).1 ?_
    refine callsIn_of_wp_marks Try.func5 rfl trivial ?_ rfl
    simp only [Try.ntmps5, List.size_toArray, List.length_cons, List.length_nil, Nat.reduceAdd, Nat.reduceSub, Array.replicate_succ, Array.replicate_zero, List.push_toArray, List.append_toArray, List.nil_append, List.cons_append]
    refine wpIn_wide.2 ?_
    go_wp2_with fail
    refine (loops_any wa s l c Ws HWa.out hl3).mono ?_
    rintro e w2 ⟨⟨b, rfl⟩, g2⟩
    have HO2 := Lib.hid (HO.out.grow g2)
    have HW2 := Lib.hid (HW.out.below HO2.out.below)
    clear g2
    cases b with
    | true =>
      go_wp2_with fail
      refine (HLv.out _).mono ?_
      rintro e w3 ⟨rfl, g3⟩
      have HO3 := Lib.hid (HO2.out.grow g3)
      have hc := HO3.out.res.cell
      have hf := HO3.out.res.frozen
      clear g3
      go_wp2_with fail
      exact ⟨_, results_cell_bool rfl _ _ (w.heap.size + 1) _ rfl HO3.out.told.2.cell, rfl, HO3.out.told.1⟩
    | false =>
      go_wp2_with fail
      refine (made_ok w2 s l c Ws HW2.out hl3).mono ?_
      rintro e w3 ⟨m, d, r, f, R, rfl, h3⟩
      have HT3 := Lib.hid h3
      have HO3 := Lib.hid (HO2.out.grow (grown_of_below h3.st.below none))
      clear h3
      go_wp2_with fail
      refine (ref_leaves HT3.out.rs root).mono ?_
      obtain ⟨L, hL⟩ : ∃ L, madeL noL Ws = L := ⟨_, rfl⟩
      rw [hL]
      rw [hL] at HT3
      clear hL
      obtain ⟨zs, hzs⟩ : ∃ zs, listA 8 L root 512 = zs := ⟨_, rfl⟩
      rw [hzs]
      have HZ := Lib.hid ((all_list (n := 8) (L := L) root).trans hzs)
      clear hzs
      rintro e w4 ⟨v, rfl, h4⟩
      obtain ⟨sv, cv, rfl⟩ := h4.own.form
      have HL4 := Lib.hid (h4.own.grow (World.grownBy_alloc w4 (.cells #[.slice sv zs.length cv] 46) none))
      have HT4 := Lib.hid ((HT3.out.st.grow h4.grown).grow (World.grownBy_alloc w4 (.cells #[.slice sv zs.length cv] 46) none))
      have HO4 := Lib.hid ((HO3.out.grow h4.grown).grow (World.grownBy_alloc w4 (.cells #[.slice sv zs.length cv] 46) none))
      have HB4 := Lib.hid (Boxed.new w4 46 (.slice sv zs.length cv))
      have HN := Lib.hid h4.len
      clear h4
      go_wp2_with fail
      refine (leaves_of HT4.out root HR.out).mono ?_
      rintro e w5 ⟨Ba, vb, F, rfl, hb5, hf5, hs5, hF5, hst5, g5⟩
      have hq := eql_seq_nil w5 (.func 48) #[] #[.pointer (some ⟨Ba, 0, none⟩)]
      go_wp2_with fail
      have hbn : w4.heap.size < w5.heap.size := by have := g5.size; simp at this; omega
      have hw2 : w.heap.size + 2 ≤ w5.heap.size := by
        have := (Array.getElem?_eq_some_iff.1 (HO4.out.grow g5).res).1
        omega
      have HLW := Lib.hid (show LawW w (w5.alloc (.cells #[.int .i64 0] 3)) most w4.heap.size w3.heap.size sv cv zs from
        ⟨(HO4.out.grow g5).grow (World.grownBy_alloc _ _ _), (HB4.out.kept g5 (by simp)).alloc _, (HL4.out.grow g5).grow (World.grownBy_alloc _ _ _)⟩)
      have hrow5 : (Value.slice sv zs.length cv).ownBlock ≠ some w5.heap.size := fun e => by have := ((HL4.out.grow g5).lt e).2; omega
      have hBN := Boxed.new w5 3 (.int .i64 0)
      have ga := World.grownBy_alloc w5 (.cells #[.int .i64 0] 3) none
      have hb9 := (ga.block Ba (Array.getElem?_eq_some_iff.1 hb5).1 (by simp)).trans hb5
      have hf9 : Stands (w5.alloc (.cells #[.int .i64 0] 3)) F := fun b o hb => ⟨(ga.block b (hf5.lt hb) (by simp)).trans (hf5 b o hb).1, (hf5 b o hb).2⟩
      have hFX : ∀ b o, F b = some o → b ∉ [w5.heap.size] := fun b o hb hm => by
        have h1 := hf5.lt hb
        simp at hm
        omega
      have hsz9 : (w5.alloc (.cells #[.int .i64 0] 3)).heap.size = w5.heap.size + 1 := by simp
      have HSQ := Lib.hid (leaves_stops 8 8 L F root vb Ba [w5.heap.size] (w5.alloc (.cells #[.int .i64 0] 3)) zs HZ.out hb9 hf9 hs5 hFX (fun k hk => by simp at hk; omega))
      clear hb9 hf9 hFX hb5 hf5 hs5 hF5 hst5 g5 ga hq HL4 HT4 HO4 HB4 HZ HT3 HO3 HO2 HW2 HWa HO
      generalize w5.alloc (.cells #[.int .i64 0] 3) = w9 at *
      generalize w5.heap.size = Bn at *
      generalize w4.heap.size = Bw at *
      generalize w3.heap.size = base at *
      refine (wpIn_wide (n := 9)).1 ?_
      refine wpIn_rangeFunc_ownH rfl (by omega) (gf := 48) (lb := #[.pointer (some ⟨Ba, 0, none⟩)]) rfl trivial (enters_of Try.func48 (by kernel_rfl) rfl)
        HSQ.out (fun h k => kpX_t h k) (fun W lo o o' _ hl ho _ => kpX_b W lo o o' hl ho) (Below.refl _ _) (fun _ => rfl)
        (fun (pre : List LeafV) W => (w9.grownBy W (some Bn) ∧ Boxed W Bn 3 (.int .i64 pre.length)) ∧ pre <+: zs)
        (fun cx (pre : List LeafV) W => (∃ b, Boxed W (w.heap.size + 1) 4 (.bool b) ∧ (b = true ∨ ¬ pre <+: zs)) ∧ cx = .ret ∧ Below w.heap.size w W)
        (OwnFrom.and (OwnFrom.and (fun s A B row hs hg hr => grown_row hs hg (fun r e => (hr r e).1)) (Own.from (boxed_own _ _ _) _)) (ownFrom_pure _ _))
        (fun cx => OwnFrom.and (fun s A B row hs hg hr => by
          obtain ⟨b, h1, h2⟩ := hs
          exact ⟨b, boxed_own (w.heap.size + 1) 4 (fun (_ : Unit) => Value.bool b) () A B row h1 hg (fun r e => (hr r e).2), h2⟩) (OwnFrom.and (ownFrom_pure _ _) (ownFrom_below (Nat.le_refl _) (by omega))))
        ⟨⟨grown_refl _ _, hBN⟩, by simp⟩
        (fun (x : LeafV) a' W => ∃ Be, w9.heap.size ≤ Be ∧ EntB W Be x.fl x.pp ∧ a' = { tmps := #[.slice s l c, .int .i64 root, .int .i64 most, undef, undef, .pointer (some ⟨w.heap.size, 0, none⟩), .pointer (some ⟨w.heap.size + 1, 0, none⟩), .pointer (some ⟨m, 0, none⟩), .pointer (some ⟨r, 0, none⟩), .pointer (some ⟨Bw, 0, none⟩), .func (.func 48) #[] #[.pointer (some ⟨Ba, 0, none⟩)], .pointer (some ⟨Bn, 0, none⟩), .int .i64 x.v, .pointer (some ⟨Be, 0, none⟩), .slice s l c, .int .i64 l, .bool false, .bool false, .slice s l c, .bool false, .bool false, undef, .tuple #[.pointer (some ⟨m, 0, none⟩), .pointer (some ⟨r, 0, none⟩)], .slice s l c, .tuple #[.pointer (some ⟨m, 0, none⟩), .pointer (some ⟨r, 0, none⟩)], .pointer (some ⟨m, 0, none⟩), .pointer (some ⟨r, 0, none⟩), .pointer (some ⟨r, 0, none⟩), .int .i64 root, .slice sv zs.length cv, .pointer (some ⟨m, 0, none⟩), .int .i64 root, .func (.func 48) #[] #[.pointer (some ⟨Ba, 0, none⟩)], .func (.func 48) #[] #[.pointer (some ⟨Ba, 0, none⟩)], .bool false, .func (.func 48) #[] #[.pointer (some ⟨Ba, 0, none⟩)], .int .i64 x.v, .agg #[.int .i64 x.fl, .int .i64 x.pp], undef, undef, undef, undef, undef, undef, undef, undef, undef, undef, undef, undef, undef, undef, undef, undef, undef, undef, undef, undef, undef, undef, undef, undef, undef, undef, undef, undef, undef, undef, undef, undef, undef, undef, undef], defers := [] })
        (fun x a' _ A B row hs hg hr => by
          obtain ⟨Be, h1, h2, h3⟩ := hs
          refine ⟨Be, h1, (hg.block Be h2.lt (fun e => ?_)).trans h2, h3⟩
          obtain ⟨o, ho, hc⟩ := (hr Be e.symm).2
          rw [show A.heap[Be]? = _ from h2] at ho
          cases ho
          cases hc)
        ?assign ?body ?done ?stop
      case assign =>
        rintro lp pre x W K ⟨⟨hg, hn⟩, hp⟩ hK
        gi_wp2
        have ga := World.grownBy_alloc W (.cells #[.int .i64 x.fl, .int .i64 x.pp] 40) none
        exact hK _ _ ((KeepsOthers.alloc _ _).from _) (fun k cs t fr _ hk => (ga.block k (Array.getElem?_eq_some_iff.1 hk).1 (by simp)).trans hk) ⟨⟨grown_M hg ga, hn.alloc _⟩, hp⟩ ⟨W.heap.size, hg.size, heap_alloc_new W _, rfl⟩
      case body =>
        rintro lp pre x a' W hlw hlp ⟨⟨hg, hn⟩, hp⟩ ⟨Be, hBe, hE, rfl⟩ hlt
        have HL := Lib.hid (HLW.out.grow' hg hw2 (by omega) hrow5)
        obtain ⟨y, hy⟩ : ∃ y, zs[pre.length]? = some y := ⟨_, List.getElem?_eq_getElem hlt⟩
        obtain ⟨gr, rfl, k0, k1, k2⟩ := leaf_cells HL.out.row hy
        obtain ⟨e0, e1⟩ := hE.at
        have c0 := hn.cell
        have c1 := HL.out.own.most.cell
        have c2 := HL.out.box.cell
        have HY := Lib.hid hy
        have HG := Lib.hid hg
        have HNN := Lib.hid hn
        have HP := Lib.hid hp
        clear hlw hlp hg hn hp hE hy
        by_cases hm : (pre.length : Int) = most
        · have hmb : ((pre.length : Int) == most) = true := by simpa using hm
          clear hm
          gi_wp2_with fail
          refine ⟨trivial, ?_⟩
          refine (CallsIn.inRound lp (callsIn_wide.2 (HLv.out W))).mono ?_
          rintro e w8 ⟨rfl, g8⟩
          have HO8 := Lib.hid (HL.out.own.grow g8)
          have HK8 := Lib.hid (((KeepsOthers.of_grownBy g8 (by simp)).trans (KeepsOthers.setCell w8 ⟨w.heap.size + 1, 0, none⟩ (.bool true))).from w9.heap.size)
          have hc := HO8.out.res.cell
          have hf := HO8.out.res.frozen
          clear g8 k0 k1 k2 e0 e1 c0 c1 c2
          gi_wp2
          exact ⟨HK8.out, ⟨true, HO8.out.told.2, .inl rfl⟩, rfl, HO8.out.told.1⟩
        · have hmb : ((pre.length : Int) == most) = false := by simpa using hm
          clear hm
          have hd : decide ((pre.length : Int) ≥ (zs.length : Int)) = false := by simp; omega
          have hd2 : decide (zs.length ≤ pre.length) = false := by simp; omega
          have hyx := next_pre HP.out HY.out x
          obtain ⟨yv, yf, yp⟩ := y
          obtain ⟨xv, xf, xp⟩ := x
          simp only at *
          by_cases hxv : yv = xv
          · subst hxv
            have hne := fun wx => neq_entry wx yf yp xf xp
            by_cases hxe : yf = xf ∧ yp = xp
            · have HPX := Lib.hid (hyx.1 (by simp [hxe]))
              rw [decide_eq_true hxe] at hne
              clear hxe hyx
              gi_wp2_with fail
              refine wpIn_quiet_round (F := Fence.wide) (by kernel_rfl) (by kernel_rfl) (by kernel_rfl) ?_
              repeat (gi_big_quiet_step (fail))
              refine wpQuietIn_nil ?_
              rintro _ ⟨nq, rfl⟩
              have HBd := Lib.hid (show Boxed (W.drewN nq) Bn 3 (.int .i64 pre.length) from HNN.out)
              have hc := HBd.out.cell
              have hf := HBd.out.frozen
              have HKd := Lib.hid ((((KeepsOthers.of_grownBy (grown_drewN W nq none) (by simp))).trans (KeepsOthers.setCell (W.drewN nq) ⟨Bn, 0, none⟩ (.int .i64 ((pre.length : Int) + 1)))).from w9.heap.size)
              clear k0 k1 k2 e0 e1 c0 c1 c2
              have hln := HN.out
              gi_wp2
              refine ⟨HKd.out, fun k cs t fr hk hc => ?_, ⟨⟨?_, ?_⟩, HPX.out⟩⟩
              · have hk2 : k ≠ Bn := by simpa using hk
                rw [heap_setCell_other _ _ _ _ hk2]
                exact hc
              · exact grown_trans (grown_trans HG.out (grown_drewN W nq (some Bn))) (grownBy_setCell' _ _ _)
              · have := HBd.out.set (.int .i64 ((pre.length : Int) + 1))
                rw [List.length_append, List.length_singleton]
                exact this
            · have HNP := Lib.hid (hyx.2 (fun e => hxe (by injection e with e1 e2 e3; exact ⟨e2, e3⟩)))
              rw [decide_eq_false hxe] at hne
              clear hxe hyx
              gi_wp2_with fail
              refine wpIn_quiet_round (F := Fence.wide) (by kernel_rfl) (by kernel_rfl) (by kernel_rfl) ?_
              repeat (gi_big_quiet_step (fail))
              refine wpQuietIn_nil ?_
              rintro _ ⟨nq, rfl⟩
              have HOd := Lib.hid (HL.out.own.grow (grown_drewN W nq none))
              have hc := HOd.out.res.cell
              have hf := HOd.out.res.frozen
              have HKd := Lib.hid ((((KeepsOthers.of_grownBy (grown_drewN W nq none) (by simp))).trans (KeepsOthers.setCell (W.drewN nq) ⟨w.heap.size + 1, 0, none⟩ (.bool false))).from w9.heap.size)
              clear k0 k1 k2 e0 e1 c0 c1 c2
              gi_wp2
              exact ⟨HKd.out, ⟨false, HOd.out.res.set _, .inr HNP.out⟩, rfl, below_turn HOd.out.below (grownBy_setCell' _ _ _) (Nat.le_succ _)⟩
          · have hb : (yv == xv) = false := by simpa using hxv
            have hb2 : (yv != xv) = true := by simpa using hxv
            have HNP := Lib.hid (hyx.2 (fun e => hxv (by injection e)))
            clear hxv hyx
            gi_wp2_with fail
            refine wpIn_quiet_round (F := Fence.wide) (by kernel_rfl) (by kernel_rfl) (by kernel_rfl) ?_
            repeat (gi_big_quiet_step (fail))
            refine wpQuietIn_nil ?_
            rintro _ ⟨nq, rfl⟩
            have HOd := Lib.hid (HL.out.own.grow (grown_drewN W nq none))
            have hc := HOd.out.res.cell
            have hf := HOd.out.res.frozen
            have HKd := Lib.hid ((((KeepsOthers.of_grownBy (grown_drewN W nq none) (by simp))).trans (KeepsOthers.setCell (W.drewN nq) ⟨w.heap.size + 1, 0, none⟩ (.bool false))).from w9.heap.size)
            clear k0 k1 k2 e0 e1 c0 c1 c2
            gi_wp2
            exact ⟨HKd.out, ⟨false, HOd.out.res.set _, .inr HNP.out⟩, rfl, below_turn HOd.out.below (grownBy_setCell' _ _ _) (Nat.le_succ _)⟩
      case done =>
        rintro D ys W hD hS ⟨⟨hg, hn⟩, hp⟩ hK
        rw [hS] at hn
        have HL := Lib.hid (HLW.out.grow' hg hw2 (by omega) hrow5)
        have c0 := hn.cell
        have c2 := HL.out.box.cell
        have HKD := Lib.hid hK
        have hb1D : w.heap.size + 1 ≠ D := by have := (Array.getElem?_eq_some_iff.1 HLW.out.own.res).1; omega
        have hwD : w.heap.size ≤ D := by have := (Array.getElem?_eq_some_iff.1 HLW.out.own.res).1; omega
        clear hg hn hp hK hS
        go_wp2_with fail
        refine (HLv.out W).mono ?_
        rintro e w8 ⟨rfl, g8⟩
        have HO8 := Lib.hid (HL.out.own.grow g8)
        have hc := HO8.out.res.cell
        have hf := HO8.out.res.frozen
        have HK8 := Lib.hid ((g8.block D (Array.getElem?_eq_some_iff.1 HKD.out).1 (by simp)).trans HKD.out)
        clear g8 c0 c2
        go_wp2_with fail
        have hK9 : (w8.setCell ⟨w.heap.size + 1, 0, none⟩ (.bool true)).heap[D]? = some (.deferred (some [])) := (heap_setCell_other _ _ _ _ (fun e => hb1D e.symm)).trans HK8.out
        refine ⟨by simp, .inl ⟨_, _, rfl, run_takeDeferred hK9, ?_⟩⟩
        refine ⟨_, results_cell_bool rfl _ _ (w.heap.size + 1) (.bool true) rfl (Boxed.cell ((World.putObj_heap_other hb1D).trans HO8.out.told.2)), rfl, ?_⟩
        exact HO8.out.told.1.trans (belowK_b (w := w) (Nat.le_refl _) _ D _ _ hwD hK9 rfl rfl)
      case stop =>
        rintro D cx pre W hD hpre ⟨⟨b, hb, hbor⟩, rfl, hB⟩ hK
        obtain rfl : b = true := by
          rcases hbor with h | h
          · exact h
          · exact absurd hpre h
        have hb1D : w.heap.size + 1 ≠ D := by have := (Array.getElem?_eq_some_iff.1 HLW.out.own.res).1; omega
        have hwD : w.heap.size ≤ D := by have := (Array.getElem?_eq_some_iff.1 HLW.out.own.res).1; omega
        gi_wp2
        refine ⟨by simp, .inl ⟨_, _, rfl, run_takeDeferred hK, ?_⟩⟩
        refine ⟨_, results_cell_bool rfl _ _ (w.heap.size + 1) (.bool true) rfl (Boxed.cell ((World.putObj_heap_other hb1D).trans hb)), rfl, ?_⟩
        exact hB.trans (belowK_b (w := w) (Nat.le_refl _) _ D _ _ hwD hK rfl rfl)
end Go.Proofs.Ytomkhdefjfjlnaa
