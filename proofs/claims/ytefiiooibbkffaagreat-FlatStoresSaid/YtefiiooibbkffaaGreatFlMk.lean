/- Layer 17 (landed): worlds that New did not make; isMade, namesProc. Layer 17 (landed): act, kind by kind. Written by wip/genflact.py. Layer 17 (landed): Do. Layer 17 (landed): what lives does, computed. Layer 17 (landed): the five operations of lives. Layer 17 (landed): lives. Layer 17: what the arguments of the laws read as: operations, lists of them, numbers. Written by wip/genflsay.py. -/
import Derived.Test.YtefiiooibbkffaaGreatFlMj
import Derived.Test.YtefiiooibbkffaaGreatTFlat
namespace Go.Proofs.YtefiiooibbkffaaGreat
open Go.ChangeShapes Go.WideShapes Go.ChangeAt Go.RowKit Go.Deep Go.Sort
set_option linter.unusedVariables false
set_option linter.unusedSimpArgs false

def nmCells : Obj := .cells #[.map none, .slice none 0 0, .map none, .map none, .int .i64 0] 58 (0, 0)
/-- No call made it. -/
def NMf (w : World) (pv : Value) : Prop := pv = .pointer none ∨ ∃ r, pv = .pointer (some ⟨r, 0, none⟩) ∧ w.heap[r]? = some nmCells
section
variable {w w' : World} {pv : Value}
theorem NMf.grow (h : NMf w pv) (g : w.grownBy w' none) : NMf w' pv := h.imp id fun ⟨r, e, hb⟩ => ⟨r, e, (g.block r (heap_lt hb) (by simp)).trans hb⟩
theorem neq_nil_nil (w : World) : (binOp .neq 52 (.map none) (.map none)).run Tryz.prog w = .ok (.bool false) w := by
  have h1 : ∀ d : Nat, (Op.equalIn (d + 1) 52 (.map none) (.map none)).run Tryz.prog w = .ok true w := fun d => by
    simp [Op.equalIn, run_underlying Tryz.underlying52]
  simp only [binOp]
  simp [Op.equal, Op.maxDepth, h1 9999]
set_option maxRecDepth 100000 in
theorem isMade_no (h : NMf w pv) : Calls Tryz.prog 51 #[pv] w fun e w' => e = .returned (.bool false) ∧ w' = w := by
  rcases h with rfl | ⟨r, rfl, hb⟩
  · go_enter Tryz.func51, Tryz.ntmps51
    go_wp2_with fail
    go_ret
    exact ⟨rfl, rfl⟩
  · have c0 : w.cell? ⟨r, 0, none⟩ = some (.map none) := by rw [cell_of_row _ _ _ _ _ _ hb]; rfl
    clear hb
    have hq := neq_nil_nil
    go_enter Tryz.func51, Tryz.ntmps51
    go_wp2_with fail
    go_ret
    exact ⟨rfl, rfl⟩
set_option maxRecDepth 100000 in
set_option maxHeartbeats 1000000 in
theorem act_no (h : NMf w pv) (o : FOp) : Calls Tryz.prog 32 #[pv, .agg #[.int .i64 o.k, .int .i64 o.proc, .int .i64 o.addr, .int .i64 o.n, .int .i64 o.prot, .bool o.sh, .int .i64 o.file, .int .i64 o.off, .bool o.fixed, .int .i64 o.how, .int .i64 o.ati, .int .i64 o.v, .int .i64 o.hd, .int .i64 o.to]] w fun e w' => e = .returned (.tuple #[.int .i64 0, .int .i64 1]) ∧ w.grownBy w' none := by
  have ga := World.grownBy_alloc w (.cells #[.int .i64 o.k, .int .i64 o.proc, .int .i64 o.addr, .int .i64 o.n, .int .i64 o.prot, .bool o.sh, .int .i64 o.file, .int .i64 o.off, .bool o.fixed, .int .i64 o.how, .int .i64 o.ati, .int .i64 o.v, .int .i64 o.hd, .int .i64 o.to] 34) none
  have HM := Lib.hid (isMade_no (h.grow ga))
  have HG := Lib.hid ga
  clear h ga
  go_enter Tryz.func32, Tryz.ntmps32
  go_wp2_with fail
  refine HM.out.mono ?_
  rintro e w2 ⟨rfl, rfl⟩
  go_wp2_with fail
  go_ret2
  exact ⟨rfl, HG.out⟩
theorem procs_no (h : NMf w pv) : Calls Tryz.prog 20 #[pv] w fun e w' => e = .returned (.slice none 0 0) ∧ w.grownBy w' none := by
  have HM := Lib.hid (isMade_no h)
  clear h
  go_enter Tryz.func20, Tryz.ntmps20
  go_wp2_with fail
  refine HM.out.mono ?_
  rintro e w2 ⟨rfl, rfl⟩
  go_wp2_with fail
  go_ret
  exact ⟨rfl, grown_refl _ _⟩
theorem handles_no (h : NMf w pv) : Calls Tryz.prog 25 #[pv] w fun e w' => e = .returned (.slice none 0 0) ∧ w.grownBy w' none := by
  have HM := Lib.hid (isMade_no h)
  clear h
  go_enter Tryz.func25, Tryz.ntmps25
  go_wp2_with fail
  refine HM.out.mono ?_
  rintro e w2 ⟨rfl, rfl⟩
  go_wp2_with fail
  go_ret
  exact ⟨rfl, grown_refl _ _⟩
theorem entries_no (h : NMf w pv) (id : Int) : Calls Tryz.prog 23 #[pv, .int .i64 id] w fun e w' => e = .returned (.slice none 0 0) ∧ w.grownBy w' none := by
  have HM := Lib.hid (isMade_no h)
  clear h
  go_enter Tryz.func23, Tryz.ntmps23
  go_wp2_with fail
  refine HM.out.mono ?_
  rintro e w2 ⟨rfl, rfl⟩
  go_wp2_with fail
  go_ret
  exact ⟨rfl, grown_refl _ _⟩
theorem byte_no (h : NMf w pv) (id pg a : Int) : Calls Tryz.prog 21 #[pv, .int .i64 id, .int .i64 pg, .int .i64 a] w fun e w' => e = .returned (.tuple #[.int .i64 0, .int .i64 1]) ∧ w.grownBy w' none := by
  have HM := Lib.hid (isMade_no h)
  clear h
  go_enter Tryz.func21, Tryz.ntmps21
  go_wp2_with fail
  refine HM.out.mono ?_
  rintro e w2 ⟨rfl, rfl⟩
  go_wp2_with fail
  go_ret2
  exact ⟨rfl, grown_refl _ _⟩
theorem fileByte_no (h : NMf w pv) (f n a : Int) : Calls Tryz.prog 24 #[pv, .int .i64 f, .int .i64 n, .int .i64 a] w fun e w' => e = .returned (.tuple #[.int .i64 0, .int .i64 1]) ∧ w.grownBy w' none := by
  have HM := Lib.hid (isMade_no h)
  clear h
  go_enter Tryz.func24, Tryz.ntmps24
  go_wp2_with fail
  refine HM.out.mono ?_
  rintro e w2 ⟨rfl, rfl⟩
  go_wp2_with fail
  go_ret2
  exact ⟨rfl, grown_refl _ _⟩
theorem set_new17 {w0 w : World} {y : Nat} (o : Nat) (v : Value) (g : w0.grownBy w none) (hy : w0.heap.size ≤ y) : w0.grownBy (w.setCell ⟨y, o, none⟩ v) none :=
  Turn.noGrown ((Turn.grown (O := [y]) g).trans' (Turn.setCell [y] _ _ _ _ (by simp))) fun b hb => by
    have : b = y := by simpa using hb
    omega
def ansCells (e n : Int) : Obj := .cells #[.int .i64 e, .int .i64 n] 36 (0, 0)
theorem do_no (h : NMf w pv) (o : FOp) : Calls Tryz.prog 15 #[pv, .agg #[.int .i64 o.k, .int .i64 o.proc, .int .i64 o.addr, .int .i64 o.n, .int .i64 o.prot, .bool o.sh, .int .i64 o.file, .int .i64 o.off, .bool o.fixed, .int .i64 o.how, .int .i64 o.ati, .int .i64 o.v, .int .i64 o.hd, .int .i64 o.to]] w fun e w' => e = .returned (.agg #[.int .i64 1, .int .i64 0]) ∧ w.grownBy w' none := by
  have ga := World.grownBy_alloc w (.cells #[.int .i64 o.k, .int .i64 o.proc, .int .i64 o.addr, .int .i64 o.n, .int .i64 o.prot, .bool o.sh, .int .i64 o.file, .int .i64 o.off, .bool o.fixed, .int .i64 o.how, .int .i64 o.ati, .int .i64 o.v, .int .i64 o.hd, .int .i64 o.to] 34) none
  have gb := World.grownBy_alloc (w.alloc (.cells #[.int .i64 o.k, .int .i64 o.proc, .int .i64 o.addr, .int .i64 o.n, .int .i64 o.prot, .bool o.sh, .int .i64 o.file, .int .i64 o.off, .bool o.fixed, .int .i64 o.how, .int .i64 o.ati, .int .i64 o.v, .int .i64 o.hd, .int .i64 o.to] 34)) (ansCells 0 0) none
  have bb := heap_alloc_new (w.alloc (.cells #[.int .i64 o.k, .int .i64 o.proc, .int .i64 o.addr, .int .i64 o.n, .int .i64 o.prot, .bool o.sh, .int .i64 o.file, .int .i64 o.off, .bool o.fixed, .int .i64 o.how, .int .i64 o.ati, .int .i64 o.v, .int .i64 o.hd, .int .i64 o.to] 34)) (ansCells 0 0)
  have es := World.size_alloc w (.cells #[.int .i64 o.k, .int .i64 o.proc, .int .i64 o.addr, .int .i64 o.n, .int .i64 o.prot, .bool o.sh, .int .i64 o.file, .int .i64 o.off, .bool o.fixed, .int .i64 o.how, .int .i64 o.ati, .int .i64 o.v, .int .i64 o.hd, .int .i64 o.to] 34)
  have gab := grown_trans ga gb
  obtain ⟨c0, c1, c2, c3, c4, c5, c6, c7, c8, c9, c10, c11, c12, c13⟩ := ((OpB.new w o).grow gb).at
  have HM := Lib.hid (act_no (h.grow gab) o)
  have HG := Lib.hid gab
  rw [es] at bb
  have HB := Lib.hid bb
  clear h ga gb bb gab
  go_enter Tryz.func15, Tryz.ntmps15
  unfold ansCells at *
  go_wp2_with fail
  refine HM.out.mono ?_
  rintro e w2 ⟨rfl, g2⟩
  have b2 := (g2.block _ (heap_lt HB.out) (by simp)).trans HB.out
  have a0 : w2.cell? ⟨w.heap.size + 1, 0, none⟩ = some (.int .i64 0) := by rw [cell_of_row _ _ _ _ _ _ b2]; rfl
  have f0 : w2.frozen? ⟨w.heap.size + 1, 0, none⟩ = false := frozen_of_row _ _ _ _ _ b2
  have b3 := fun v => heap_setCell_same w2 (w.heap.size + 1) 0 _ _ v b2
  have a1 : ∀ v, (w2.setCell ⟨w.heap.size + 1, 0, none⟩ v).cell? ⟨w.heap.size + 1, 1, none⟩ = some (.int .i64 0) := fun v => by rw [cell_of_row _ _ _ _ _ _ (b3 v)]; rfl
  have f1 : ∀ v, (w2.setCell ⟨w.heap.size + 1, 0, none⟩ v).frozen? ⟨w.heap.size + 1, 1, none⟩ = false := fun v => frozen_of_row _ _ _ _ _ (b3 v)
  have B4 := Lib.hid (fun v v' => heap_setCell_same (w2.setCell ⟨w.heap.size + 1, 0, none⟩ v) (w.heap.size + 1) 1 _ _ v' (b3 v))
  have HB2 := Lib.hid b2
  have HG2 := Lib.hid g2
  clear b2 b3 g2 c0 c1 c2 c3 c4 c5 c6 c7 c8 c9 c10 c11 c12 c13 es HM HB
  go_wp2_with fail
  have b4 := B4.out (.int .i64 1) (.int .i64 0)
  refine bodyPost_ret (results_cell_row rfl _ _ (w.heap.size + 1) _ #[.int .i64 1, .int .i64 0] (0, 0) _ rfl b4 Tryz.underlying36 (by kernel_rfl) (by kernel_rfl)) rfl ?_
  exact ⟨rfl, set_new17 1 _ (set_new17 0 _ (grown_trans HG.out HG2.out) (by omega)) (by omega)⟩
end
end Go.Proofs.YtefiiooibbkffaaGreat

namespace Go.Proofs.YtefiiooibbkffaaGreat
open Go.ChangeShapes Go.WideShapes Go.ChangeAt Go.RowKit Go.Deep Go.Sort
set_option linter.unusedVariables false
set_option linter.unusedSimpArgs false

section
variable {w w' : World} {kd kd' : Nat → Ro} {t r : Nat} {h : Gh} {S S' : Fl} {id : Int} {p : Pr}
theorem Dn.of_grown {W : World} (g : w.grownBy W none) (d : Dn t r kd W w' S') : Dn t r kd w w' S' := by
  obtain ⟨kd', h', f, c⟩ := d
  exact ⟨kd', h', f, (Ch.grown g).trans c⟩
theorem PM.look {ids : List Int} (k : PM w kd t h ids) {x : Int} (hx : x ∈ ids) (hi : okI x) :
    (Instr.lookup 52 (.map (some h.pm)) (.int .i64 x) false).run Tryz.prog w = .ok (.pointer (some ⟨(h.g x).b, 0, none⟩)) w := by
  have h1 := k.pm.look lawsP (zd := .held (.pointer none)) (x := x) (okW_of hi)
  have h2 : lookV (ids.map fun id => (id, Value.pointer (some ⟨(h.g id).b, 0, none⟩))) x = some (.pointer (some ⟨(h.g x).b, 0, none⟩)) := by
    clear h1 k
    induction ids with
    | nil => cases hx
    | cons y ids ih =>
      unfold lookV at ih ⊢
      rw [List.map_cons, List.find?_cons]
      by_cases e : y = x
      · subst e; simp
      · rw [decide_eq_false e]
        refine ih ?_
        rcases List.mem_cons.1 hx with e2 | e2
        · exact (e e2.symm).elim
        · exact e2
  rw [h2] at h1
  exact h1
theorem geA_ids {ps : List (Int × Pr)} (hp : geA ps id = some p) : id ∈ ps.map (·.1) := List.mem_map.2 ⟨_, geA_some hp, rfl⟩
set_option maxRecDepth 100000 in
set_option maxHeartbeats 8000000 in
theorem act_lay (k : FW w kd t r h S) (o : FOp) (hk : o.k = 1) (hi : okI o.proc) (hp : geA S.ps o.proc = some p) {n er : Int}
    (hD : ∀ W, w.grownBy W none → Calls Tryz.prog 66 #[.pointer (some ⟨r, 0, none⟩), .pointer (some ⟨(h.g o.proc).b, 0, none⟩), .agg #[.int .i64 o.k, .int .i64 o.proc, .int .i64 o.addr, .int .i64 o.n, .int .i64 o.prot, .bool o.sh, .int .i64 o.file, .int .i64 o.off, .bool o.fixed, .int .i64 o.how, .int .i64 o.ati, .int .i64 o.v, .int .i64 o.hd, .int .i64 o.to]] W fun e w' => e = .returned (.tuple #[.int .i64 n, .int .i64 er]) ∧ Dn t r kd W w' S') :
    Calls Tryz.prog 32 #[.pointer (some ⟨r, 0, none⟩), .agg #[.int .i64 o.k, .int .i64 o.proc, .int .i64 o.addr, .int .i64 o.n, .int .i64 o.prot, .bool o.sh, .int .i64 o.file, .int .i64 o.off, .bool o.fixed, .int .i64 o.how, .int .i64 o.ati, .int .i64 o.v, .int .i64 o.hd, .int .i64 o.to]] w fun e w' => e = .returned (.tuple #[.int .i64 n, .int .i64 er]) ∧ Dn t r kd w w' S' := by
  have ga := World.grownBy_alloc w (.cells #[.int .i64 o.k, .int .i64 o.proc, .int .i64 o.addr, .int .i64 o.n, .int .i64 o.prot, .bool o.sh, .int .i64 o.file, .int .i64 o.off, .bool o.fixed, .int .i64 o.how, .int .i64 o.ati, .int .i64 o.v, .int .i64 o.hd, .int .i64 o.to] 34) none
  have hB := OpB.new w o
  generalize hwB : w.alloc (.cells #[.int .i64 o.k, .int .i64 o.proc, .int .i64 o.addr, .int .i64 o.n, .int .i64 o.prot, .bool o.sh, .int .i64 o.file, .int .i64 o.off, .bool o.fixed, .int .i64 o.how, .int .i64 o.ati, .int .i64 o.v, .int .i64 o.hd, .int .i64 o.to] 34) = wB at *
  have kB := k.grow ga
  have hB2 := hB.grow (grown_drew1 wB)
  have k0 := kB.hw.at.1
  have hlk := (kB.grow (grown_drew1 wB)).pm.look (geA_ids hp) hi
  have HM := Lib.hid (isMade_ok k0)
  have HG := Lib.hid (grown_trans ga (grown_drew1 wB))
  have HC := Lib.hid (hD wB.drew (grown_trans ga (grown_drew1 wB)))
  obtain ⟨c0, c1, c2, c3, c4, c5, c6, c7, c8, c9, c10, c11, c12, c13⟩ := hB.at
  obtain ⟨d0, d1, d2, d3, d4, d5, d6, d7, d8, d9, d10, d11, d12, d13⟩ := hB2.at
  rw [hk] at c0 d0 HC
  clear k kB ga hB hB2 hD hp hi hk
  go_enter Tryz.func32, Tryz.ntmps32
  go_upto_region 1 with fail
  try simp only [hwB]
  clear hwB
  go_wp2_with fail
  refine HM.out.mono ?_
  rintro e wX ⟨rfl, eX⟩
  subst eX
  go_upto_region 3 with fail
  go_region
  clear k0 hlk c0 c1 c2 c3 c4 c5 c6 c7 c8 c9 c10 c11 c12 c13 HM
  go_wp2_with fail
  refine HC.out.mono ?_
  rintro e w5 ⟨rfl, hD5⟩
  have HD5 := Lib.hid (hD5.of_grown HG.out)
  clear hD5 d0 d1 d2 d3 d4 d5 d6 d7 d8 d9 d10 d11 d12 d13 HC HG
  go_wp2_with fail
  go_ret2
  exact ⟨rfl, HD5.out⟩
set_option maxRecDepth 100000 in
set_option maxHeartbeats 8000000 in
theorem act_load (k : FW w kd t r h S) (o : FOp) (hk : o.k = 8) (hi : okI o.proc) (hp : geA S.ps o.proc = some p) {n er : Int}
    (hD : ∀ W, w.grownBy W none → Calls Tryz.prog 72 #[.pointer (some ⟨r, 0, none⟩), .pointer (some ⟨(h.g o.proc).b, 0, none⟩), .agg #[.int .i64 o.k, .int .i64 o.proc, .int .i64 o.addr, .int .i64 o.n, .int .i64 o.prot, .bool o.sh, .int .i64 o.file, .int .i64 o.off, .bool o.fixed, .int .i64 o.how, .int .i64 o.ati, .int .i64 o.v, .int .i64 o.hd, .int .i64 o.to]] W fun e w' => e = .returned (.tuple #[.int .i64 n, .int .i64 er]) ∧ Dn t r kd W w' S') :
    Calls Tryz.prog 32 #[.pointer (some ⟨r, 0, none⟩), .agg #[.int .i64 o.k, .int .i64 o.proc, .int .i64 o.addr, .int .i64 o.n, .int .i64 o.prot, .bool o.sh, .int .i64 o.file, .int .i64 o.off, .bool o.fixed, .int .i64 o.how, .int .i64 o.ati, .int .i64 o.v, .int .i64 o.hd, .int .i64 o.to]] w fun e w' => e = .returned (.tuple #[.int .i64 n, .int .i64 er]) ∧ Dn t r kd w w' S' := by
  have ga := World.grownBy_alloc w (.cells #[.int .i64 o.k, .int .i64 o.proc, .int .i64 o.addr, .int .i64 o.n, .int .i64 o.prot, .bool o.sh, .int .i64 o.file, .int .i64 o.off, .bool o.fixed, .int .i64 o.how, .int .i64 o.ati, .int .i64 o.v, .int .i64 o.hd, .int .i64 o.to] 34) none
  have hB := OpB.new w o
  generalize hwB : w.alloc (.cells #[.int .i64 o.k, .int .i64 o.proc, .int .i64 o.addr, .int .i64 o.n, .int .i64 o.prot, .bool o.sh, .int .i64 o.file, .int .i64 o.off, .bool o.fixed, .int .i64 o.how, .int .i64 o.ati, .int .i64 o.v, .int .i64 o.hd, .int .i64 o.to] 34) = wB at *
  have kB := k.grow ga
  have hB2 := hB.grow (grown_drew1 wB)
  have k0 := kB.hw.at.1
  have hlk := (kB.grow (grown_drew1 wB)).pm.look (geA_ids hp) hi
  have HM := Lib.hid (isMade_ok k0)
  have HG := Lib.hid (grown_trans ga (grown_drew1 wB))
  have HC := Lib.hid (hD wB.drew (grown_trans ga (grown_drew1 wB)))
  obtain ⟨c0, c1, c2, c3, c4, c5, c6, c7, c8, c9, c10, c11, c12, c13⟩ := hB.at
  obtain ⟨d0, d1, d2, d3, d4, d5, d6, d7, d8, d9, d10, d11, d12, d13⟩ := hB2.at
  rw [hk] at c0 d0 HC
  clear k kB ga hB hB2 hD hp hi hk
  go_enter Tryz.func32, Tryz.ntmps32
  go_upto_region 1 with fail
  try simp only [hwB]
  clear hwB
  go_wp2_with fail
  refine HM.out.mono ?_
  rintro e wX ⟨rfl, eX⟩
  subst eX
  go_upto_region 3 with fail
  go_region
  clear k0 hlk c0 c1 c2 c3 c4 c5 c6 c7 c8 c9 c10 c11 c12 c13 HM
  go_wp2_with fail
  refine HC.out.mono ?_
  rintro e w5 ⟨rfl, hD5⟩
  have HD5 := Lib.hid (hD5.of_grown HG.out)
  clear hD5 d0 d1 d2 d3 d4 d5 d6 d7 d8 d9 d10 d11 d12 d13 HC HG
  go_wp2_with fail
  go_ret2
  exact ⟨rfl, HD5.out⟩
set_option maxRecDepth 100000 in
set_option maxHeartbeats 8000000 in
theorem act_store (k : FW w kd t r h S) (o : FOp) (hk : o.k = 9) (hi : okI o.proc) (hp : geA S.ps o.proc = some p) {n er : Int}
    (hD : ∀ W, w.grownBy W none → Calls Tryz.prog 73 #[.pointer (some ⟨r, 0, none⟩), .pointer (some ⟨(h.g o.proc).b, 0, none⟩), .agg #[.int .i64 o.k, .int .i64 o.proc, .int .i64 o.addr, .int .i64 o.n, .int .i64 o.prot, .bool o.sh, .int .i64 o.file, .int .i64 o.off, .bool o.fixed, .int .i64 o.how, .int .i64 o.ati, .int .i64 o.v, .int .i64 o.hd, .int .i64 o.to]] W fun e w' => e = .returned (.int .i64 er) ∧ Dn t r kd W w' S') :
    Calls Tryz.prog 32 #[.pointer (some ⟨r, 0, none⟩), .agg #[.int .i64 o.k, .int .i64 o.proc, .int .i64 o.addr, .int .i64 o.n, .int .i64 o.prot, .bool o.sh, .int .i64 o.file, .int .i64 o.off, .bool o.fixed, .int .i64 o.how, .int .i64 o.ati, .int .i64 o.v, .int .i64 o.hd, .int .i64 o.to]] w fun e w' => e = .returned (.tuple #[.int .i64 0, .int .i64 er]) ∧ Dn t r kd w w' S' := by
  have ga := World.grownBy_alloc w (.cells #[.int .i64 o.k, .int .i64 o.proc, .int .i64 o.addr, .int .i64 o.n, .int .i64 o.prot, .bool o.sh, .int .i64 o.file, .int .i64 o.off, .bool o.fixed, .int .i64 o.how, .int .i64 o.ati, .int .i64 o.v, .int .i64 o.hd, .int .i64 o.to] 34) none
  have hB := OpB.new w o
  generalize hwB : w.alloc (.cells #[.int .i64 o.k, .int .i64 o.proc, .int .i64 o.addr, .int .i64 o.n, .int .i64 o.prot, .bool o.sh, .int .i64 o.file, .int .i64 o.off, .bool o.fixed, .int .i64 o.how, .int .i64 o.ati, .int .i64 o.v, .int .i64 o.hd, .int .i64 o.to] 34) = wB at *
  have kB := k.grow ga
  have hB2 := hB.grow (grown_drew1 wB)
  have k0 := kB.hw.at.1
  have hlk := (kB.grow (grown_drew1 wB)).pm.look (geA_ids hp) hi
  have HM := Lib.hid (isMade_ok k0)
  have HG := Lib.hid (grown_trans ga (grown_drew1 wB))
  have HC := Lib.hid (hD wB.drew (grown_trans ga (grown_drew1 wB)))
  obtain ⟨c0, c1, c2, c3, c4, c5, c6, c7, c8, c9, c10, c11, c12, c13⟩ := hB.at
  obtain ⟨d0, d1, d2, d3, d4, d5, d6, d7, d8, d9, d10, d11, d12, d13⟩ := hB2.at
  rw [hk] at c0 d0 HC
  clear k kB ga hB hB2 hD hp hi hk
  go_enter Tryz.func32, Tryz.ntmps32
  go_upto_region 1 with fail
  try simp only [hwB]
  clear hwB
  go_wp2_with fail
  refine HM.out.mono ?_
  rintro e wX ⟨rfl, eX⟩
  subst eX
  go_upto_region 3 with fail
  go_region
  clear k0 hlk c0 c1 c2 c3 c4 c5 c6 c7 c8 c9 c10 c11 c12 c13 HM
  go_wp2_with fail
  refine HC.out.mono ?_
  rintro e w5 ⟨rfl, hD5⟩
  have HD5 := Lib.hid (hD5.of_grown HG.out)
  clear hD5 d0 d1 d2 d3 d4 d5 d6 d7 d8 d9 d10 d11 d12 d13 HC HG
  go_wp2_with fail
  go_ret2
  exact ⟨rfl, HD5.out⟩
set_option maxRecDepth 100000 in
set_option maxHeartbeats 8000000 in
theorem act_fork (k : FW w kd t r h S) (o : FOp) (hk : o.k = 10) (hi : okI o.proc) (hp : geA S.ps o.proc = some p) {n er : Int}
    (hD : ∀ W, w.grownBy W none → Calls Tryz.prog 74 #[.pointer (some ⟨r, 0, none⟩), .pointer (some ⟨(h.g o.proc).b, 0, none⟩)] W fun e w' => e = .returned (.tuple #[.int .i64 n, .int .i64 er]) ∧ Dn t r kd W w' S') :
    Calls Tryz.prog 32 #[.pointer (some ⟨r, 0, none⟩), .agg #[.int .i64 o.k, .int .i64 o.proc, .int .i64 o.addr, .int .i64 o.n, .int .i64 o.prot, .bool o.sh, .int .i64 o.file, .int .i64 o.off, .bool o.fixed, .int .i64 o.how, .int .i64 o.ati, .int .i64 o.v, .int .i64 o.hd, .int .i64 o.to]] w fun e w' => e = .returned (.tuple #[.int .i64 n, .int .i64 er]) ∧ Dn t r kd w w' S' := by
  have ga := World.grownBy_alloc w (.cells #[.int .i64 o.k, .int .i64 o.proc, .int .i64 o.addr, .int .i64 o.n, .int .i64 o.prot, .bool o.sh, .int .i64 o.file, .int .i64 o.off, .bool o.fixed, .int .i64 o.how, .int .i64 o.ati, .int .i64 o.v, .int .i64 o.hd, .int .i64 o.to] 34) none
  have hB := OpB.new w o
  generalize hwB : w.alloc (.cells #[.int .i64 o.k, .int .i64 o.proc, .int .i64 o.addr, .int .i64 o.n, .int .i64 o.prot, .bool o.sh, .int .i64 o.file, .int .i64 o.off, .bool o.fixed, .int .i64 o.how, .int .i64 o.ati, .int .i64 o.v, .int .i64 o.hd, .int .i64 o.to] 34) = wB at *
  have kB := k.grow ga
  have hB2 := hB.grow (grown_drew1 wB)
  have k0 := kB.hw.at.1
  have hlk := (kB.grow (grown_drew1 wB)).pm.look (geA_ids hp) hi
  have HM := Lib.hid (isMade_ok k0)
  have HG := Lib.hid (grown_trans ga (grown_drew1 wB))
  have HC := Lib.hid (hD wB.drew (grown_trans ga (grown_drew1 wB)))
  obtain ⟨c0, c1, c2, c3, c4, c5, c6, c7, c8, c9, c10, c11, c12, c13⟩ := hB.at
  obtain ⟨d0, d1, d2, d3, d4, d5, d6, d7, d8, d9, d10, d11, d12, d13⟩ := hB2.at
  rw [hk] at c0 d0
  clear k kB ga hB hB2 hD hp hi hk
  go_enter Tryz.func32, Tryz.ntmps32
  go_upto_region 1 with fail
  try simp only [hwB]
  clear hwB
  go_wp2_with fail
  refine HM.out.mono ?_
  rintro e wX ⟨rfl, eX⟩
  subst eX
  go_upto_region 3 with fail
  go_region
  clear k0 hlk c0 c1 c2 c3 c4 c5 c6 c7 c8 c9 c10 c11 c12 c13 HM
  go_wp2_with fail
  refine HC.out.mono ?_
  rintro e w5 ⟨rfl, hD5⟩
  have HD5 := Lib.hid (hD5.of_grown HG.out)
  clear hD5 d0 d1 d2 d3 d4 d5 d6 d7 d8 d9 d10 d11 d12 d13 HC HG
  go_wp2_with fail
  go_ret2
  exact ⟨rfl, HD5.out⟩
end
end Go.Proofs.YtefiiooibbkffaaGreat

namespace Go.Proofs.YtefiiooibbkffaaGreat
open Go.ChangeShapes Go.WideShapes Go.ChangeAt Go.RowKit Go.Deep Go.Sort
set_option linter.unusedVariables false
set_option linter.unusedSimpArgs false

section
variable {w w' : World} {kd kd' : Nat → Ro} {t r : Nat} {h : Gh} {S S' : Fl} {id : Int} {p : Pr}
/-- A box of the call's own is stored into. -/
theorem Dn.own_set {w0 : World} (d : Dn t r kd w w' S') (c0 : Ch noRo kd' kd w0 w) {b : Nat} (hb : w0.heap.size ≤ b) (hb2 : b < w.heap.size) (hk : kd b = .no) (v v' : Value) : Dn t r kd' w0 ((w'.setCell ⟨b, 0, none⟩ v).setCell ⟨b, 1, none⟩ v') S' := by
  obtain ⟨kd2, h2, f, c⟩ := d
  have g1 := grown_set w' b 0 v
  have g2 := grown_set (w'.setCell ⟨b, 0, none⟩ v) b 1 v'
  have hk2 : kd2 b = .no := (c.kd b hb2).trans hk
  have hch : Ch (fun ρ => ρ = .no) kd2 kd2 w' ((w'.setCell ⟨b, 0, none⟩ v).setCell ⟨b, 1, none⟩ v') := (Ch.one g1 hk2).trans (Ch.one g2 hk2)
  refine ⟨kd2, h2, f.ch hch (by simp) (fun x => by simp), ?_⟩
  have ca : Ch (own t) kd' kd2 w0 w' := (c0.mono fun _ e => (no_ro _ e).elim).trans c
  refine ⟨hch.os.trans ca.os, hch.tape.trans ca.tape, hch.output.trans ca.output, Nat.le_trans ca.size hch.size, fun x hx hr => ?_, ca.kd⟩
  have e1 : ((w'.setCell ⟨b, 0, none⟩ v).setCell ⟨b, 1, none⟩ v').heap[x]? = w'.heap[x]? := (g2.block x (by have := g1.size; have := ca.size; omega) (fun e => by have := Option.some.inj e; omega)).trans (g1.block x (by have := ca.size; omega) (fun e => by have := Option.some.inj e; omega))
  exact e1.trans (ca.block x hx hr)
set_option maxHeartbeats 2000000 in
theorem do_ok (k : FW w kd t r h S) (o : FOp) {n er : Int}
    (hA : ∀ W kdW, FW W kdW t r h S → Calls Tryz.prog 32 #[.pointer (some ⟨r, 0, none⟩), .agg #[.int .i64 o.k, .int .i64 o.proc, .int .i64 o.addr, .int .i64 o.n, .int .i64 o.prot, .bool o.sh, .int .i64 o.file, .int .i64 o.off, .bool o.fixed, .int .i64 o.how, .int .i64 o.ati, .int .i64 o.v, .int .i64 o.hd, .int .i64 o.to]] W fun e w' => e = .returned (.tuple #[.int .i64 n, .int .i64 er]) ∧ Dn t r kdW W w' S') :
    Calls Tryz.prog 15 #[.pointer (some ⟨r, 0, none⟩), .agg #[.int .i64 o.k, .int .i64 o.proc, .int .i64 o.addr, .int .i64 o.n, .int .i64 o.prot, .bool o.sh, .int .i64 o.file, .int .i64 o.off, .bool o.fixed, .int .i64 o.how, .int .i64 o.ati, .int .i64 o.v, .int .i64 o.hd, .int .i64 o.to]] w fun e w' => e = .returned (.agg #[.int .i64 er, .int .i64 (if er = 0 then n else 0)]) ∧ Dn t r kd w w' S' := by
  have ga := World.grownBy_alloc w (.cells #[.int .i64 o.k, .int .i64 o.proc, .int .i64 o.addr, .int .i64 o.n, .int .i64 o.prot, .bool o.sh, .int .i64 o.file, .int .i64 o.off, .bool o.fixed, .int .i64 o.how, .int .i64 o.ati, .int .i64 o.v, .int .i64 o.hd, .int .i64 o.to] 34) none
  have gb := World.grownBy_alloc (w.alloc (.cells #[.int .i64 o.k, .int .i64 o.proc, .int .i64 o.addr, .int .i64 o.n, .int .i64 o.prot, .bool o.sh, .int .i64 o.file, .int .i64 o.off, .bool o.fixed, .int .i64 o.how, .int .i64 o.ati, .int .i64 o.v, .int .i64 o.hd, .int .i64 o.to] 34)) (.cells #[.int .i64 0, .int .i64 0] 36) none
  have bb := heap_alloc_new (w.alloc (.cells #[.int .i64 o.k, .int .i64 o.proc, .int .i64 o.addr, .int .i64 o.n, .int .i64 o.prot, .bool o.sh, .int .i64 o.file, .int .i64 o.off, .bool o.fixed, .int .i64 o.how, .int .i64 o.ati, .int .i64 o.v, .int .i64 o.hd, .int .i64 o.to] 34)) (.cells #[.int .i64 0, .int .i64 0] 36)
  have es := World.size_alloc w (.cells #[.int .i64 o.k, .int .i64 o.proc, .int .i64 o.addr, .int .i64 o.n, .int .i64 o.prot, .bool o.sh, .int .i64 o.file, .int .i64 o.off, .bool o.fixed, .int .i64 o.how, .int .i64 o.ati, .int .i64 o.v, .int .i64 o.hd, .int .i64 o.to] 34)
  have gab := grown_trans ga gb
  obtain ⟨c0, c1, c2, c3, c4, c5, c6, c7, c8, c9, c10, c11, c12, c13⟩ := ((OpB.new w o).grow gb).at
  rw [es] at bb
  have hC : Ch noRo kd (upd kd (w.heap.size + 1) .no) w _ := (Ch.grown (R := noRo) (kd := kd) gab).name fun b hb => upd_ne _ _ (by omega)
  have HC := Lib.hid hC
  have HB := Lib.hid bb
  have HM := Lib.hid (hA _ _ (k.chNo hC))
  clear k ga gb bb gab hC hA
  go_enter Tryz.func15, Tryz.ntmps15
  go_wp2_with fail
  refine HM.out.mono ?_
  rintro e w2 ⟨rfl, hd⟩
  have b2 : w2.heap[w.heap.size + 1]? = some (.cells #[.int .i64 0, .int .i64 0] 36 (0, 0)) := by
    obtain ⟨_, _, _, c⟩ := hd
    exact (c.block _ (heap_lt HB.out) (by rw [upd_same]; exact fun ⟨_, e⟩ => by cases e)).trans HB.out
  have a0 : w2.cell? ⟨w.heap.size + 1, 0, none⟩ = some (.int .i64 0) := by rw [cell_of_row _ _ _ _ _ _ b2]; rfl
  have f0 : w2.frozen? ⟨w.heap.size + 1, 0, none⟩ = false := frozen_of_row _ _ _ _ _ b2
  have b3 := fun v => heap_setCell_same w2 (w.heap.size + 1) 0 _ _ v b2
  have a1 : ∀ v, (w2.setCell ⟨w.heap.size + 1, 0, none⟩ v).cell? ⟨w.heap.size + 1, 1, none⟩ = some (.int .i64 0) := fun v => by rw [cell_of_row _ _ _ _ _ _ (b3 v)]; rfl
  have f1 : ∀ v, (w2.setCell ⟨w.heap.size + 1, 0, none⟩ v).frozen? ⟨w.heap.size + 1, 1, none⟩ = false := fun v => frozen_of_row _ _ _ _ _ (b3 v)
  have B4 := Lib.hid (fun v v' => heap_setCell_same (w2.setCell ⟨w.heap.size + 1, 0, none⟩ v) (w.heap.size + 1) 1 _ _ v' (b3 v))
  have HD := Lib.hid (fun v v' => hd.own_set HC.out (b := w.heap.size + 1) (by omega) (heap_lt HB.out) (upd_same _ _ _) v v')
  clear b2 b3 hd c0 c1 c2 c3 c4 c5 c6 c7 c8 c9 c10 c11 c12 c13 es HM HB HC
  by_cases he : er = 0
  · subst he
    go_wp2_with fail
    have b4 := B4.out (.int .i64 0) (.int .i64 n)
    refine bodyPost_ret (results_cell_row rfl _ _ (w.heap.size + 1) _ #[.int .i64 0, .int .i64 n] (0, 0) _ rfl b4 Tryz.underlying36 (by kernel_rfl) (by kernel_rfl)) rfl ?_
    exact ⟨rfl, HD.out _ _⟩
  · have b9 : (er != 0) = true := by simpa using he
    have HE := Lib.hid he
    clear he
    go_wp2_with fail
    have b4 := B4.out (.int .i64 er) (.int .i64 0)
    refine bodyPost_ret (results_cell_row rfl _ _ (w.heap.size + 1) _ #[.int .i64 er, .int .i64 0] (0, 0) _ rfl b4 Tryz.underlying36 (by kernel_rfl) (by kernel_rfl)) rfl ?_
    exact ⟨rfl, HD.out _ _⟩
end
end Go.Proofs.YtefiiooibbkffaaGreat

namespace Go.Proofs.YtefiiooibbkffaaGreat
open Go.ChangeShapes Go.WideShapes Go.ChangeAt Go.RowKit Go.Deep Go.Sort
set_option linter.unusedVariables false
set_option linter.unusedSimpArgs false

def lo1 : FOp := ⟨1, 1, -1, 2, 3, false, 0, 0, false, 0, 0, 0, 0, 0⟩
def lo2 : FOp := ⟨9, 1, 0, 0, 0, false, 0, 0, false, 0, 5, 7, 0, 0⟩
def lo3 : FOp := ⟨10, 1, 0, 0, 0, false, 0, 0, false, 0, 0, 0, 0, 0⟩
def lo4 : FOp := ⟨9, 2, 0, 0, 0, false, 0, 0, false, 0, 5, 8, 0, 0⟩
def lo5 : FOp := ⟨8, 1, 0, 0, 0, false, 0, 0, false, 0, 5, 0, 0, 0⟩
def le1 : En := ⟨0, 2, 0, 0, false, 3, 7, 0, 0, false⟩
def lp0 : Pr := ⟨[], []⟩
def lp1 : Pr := ⟨[le1], []⟩
def lp2 : Pr := ⟨[le1], [(0, 0)]⟩
def lp3 : Pr := ⟨[le1], [(0, 1)]⟩
def ls0 : Fl := newF [2]
def ls1 : Fl := (ls0.lay 1 lp0 lo1).S
def ls2 : Fl := (ls1.store lp1 lo2).S
def ls3 : Fl := (ls2.fork 1 lp2).S
def ls4 : Fl := (ls3.store lp3 lo4).S
theorem ld1 : mapV [] (-1) (layE 1000 lo1) false = ⟨[le1], 0, [], 0⟩ := by kernel_rfl
theorem ll1 : (ls0.lay 1 lp0 lo1).n = 0 ∧ (ls0.lay 1 lp0 lo1).e = 0 := by constructor <;> kernel_rfl
theorem lq1 : ls1.ps = [(1, lp1)] ∧ ls1.sz = [2] ∧ ls1.F = [] ∧ ls1.H = [] ∧ ls1.reg = 1000 ∧ ls1.nx = 0 := by refine ⟨?_, ?_, ?_, ?_, ?_, ?_⟩ <;> kernel_rfl
theorem ll2 : (ls1.store lp1 lo2).e = 0 := by kernel_rfl
theorem lq2 : ls2.ps = [(1, lp2)] ∧ ls2.sz = [2] ∧ ls2.F = [] ∧ ls2.H = [] ∧ ls2.reg = 1000 ∧ ls2.nx = 1 := by refine ⟨?_, ?_, ?_, ?_, ?_, ?_⟩ <;> kernel_rfl
theorem ll3 : (ls2.fork 1 lp2).n = 2 ∧ (ls2.fork 1 lp2).e = 0 := by constructor <;> kernel_rfl
theorem lq3 : ls3.ps = [(2, lp3), (1, lp2)] ∧ ls3.sz = [2] ∧ ls3.F = [] ∧ ls3.H = [] ∧ ls3.reg = 1000 ∧ ls3.nx = 2 := by refine ⟨?_, ?_, ?_, ?_, ?_, ?_⟩ <;> kernel_rfl
theorem ll4 : (ls3.store lp3 lo4).e = 0 := by kernel_rfl
theorem lq4 : ls4.ps = [(2, lp3), (1, lp2)] ∧ ls4.sz = [2] ∧ ls4.F = [] ∧ ls4.H = [] ∧ ls4.reg = 1000 ∧ ls4.nx = 2 := by refine ⟨?_, ?_, ?_, ?_, ?_, ?_⟩ <;> kernel_rfl
theorem ll5 : (ls4.load lp2 lo5).n = 7 ∧ (ls4.load lp2 lo5).e = 0 := by constructor <;> kernel_rfl
end Go.Proofs.YtefiiooibbkffaaGreat

namespace Go.Proofs.YtefiiooibbkffaaGreat
open Go.ChangeShapes Go.WideShapes Go.ChangeAt Go.RowKit Go.Deep Go.Sort
set_option linter.unusedVariables false
set_option linter.unusedSimpArgs false

theorem le1_map : MapL [le1] := by
  have h := (map_did mapL_nil (-1) (layE 1000 lo1) false).1
  rw [ld1] at h
  exact h
theorem lok {S : Fl} (hp : ∀ q, q ∈ S.ps → (q.1 = 1 ∨ q.1 = 2) ∧ q.2.L = [le1] ∧ (∀ a, a ∈ q.2.A → a.2 < S.nx) ∧ q.2.A.length ≤ 1) (hl : S.ps.length ≤ 2) (hs : S.sz = [2]) (hF : S.F = []) (hH : S.H = []) (hr : S.reg = 1000) : SOk S where
  hl := by rw [hs]; decide
  hz := fun n hn => by rw [hs, List.mem_singleton] at hn; subst hn; exact ⟨by omega, by omega⟩
  pi := fun q hq => ⟨by rw [(hp q hq).2.1]; exact le1_map, by rw [(hp q hq).2.1]; decide, fun x hx => by rw [(hp q hq).2.1, List.mem_singleton] at hx; subst hx; decide, by have := (hp q hq).2.2.2; omega⟩
  nx := fun q hq => (hp q hq).2.2.1
  fl := by rw [hF]; decide
  r0 := by rw [hr]; decide
  r1 := by rw [hr]; decide
  pl := by omega
  io := fun q hq => by rcases (hp q hq).1 with e | e <;> rw [e] <;> exact ⟨by omega, by omega⟩
  hh := by rw [hH]; decide
theorem lok0 : SOk ls0 := sOk_new (by kernel_rfl)
theorem lokd : SOk (ls0.did2 1 lp0 (mapV lp0.L lo1.addr (layE ls0.reg lo1) lo1.fixed) (max ls0.reg (layE ls0.reg lo1).f)) := by
  have e1 : (ls0.did2 1 lp0 (mapV lp0.L lo1.addr (layE ls0.reg lo1) lo1.fixed) (max ls0.reg (layE ls0.reg lo1).f)).ps = [(1, lp1)] := by kernel_rfl
  refine lok (fun q hq => ?_) (by rw [e1]; decide) (by kernel_rfl) (by kernel_rfl) (by kernel_rfl) (by kernel_rfl)
  rw [e1, List.mem_singleton] at hq
  subst hq
  exact ⟨.inl rfl, rfl, (fun a ha => by cases ha), by decide⟩
theorem lok1 : SOk ls1 := by
  obtain ⟨h1, h2, h3, h4, h5, h6⟩ := lq1
  refine lok (fun q hq => ?_) (by rw [h1]; decide) h2 h3 h4 h5
  rw [h1, List.mem_singleton] at hq
  subst hq
  exact ⟨.inl rfl, rfl, (fun a ha => by cases ha), by decide⟩
theorem lok2 : SOk ls2 := by
  obtain ⟨h1, h2, h3, h4, h5, h6⟩ := lq2
  refine lok (fun q hq => ?_) (by rw [h1]; decide) h2 h3 h4 h5
  rw [h1, List.mem_singleton] at hq
  subst hq
  exact ⟨.inl rfl, rfl, (fun a ha => by rw [h6]; rw [show (1, lp2).2.A = [(0, 0)] from rfl, List.mem_singleton] at ha; subst ha; decide), by decide⟩
theorem lok34 {S : Fl} (h : S.ps = [(2, lp3), (1, lp2)] ∧ S.sz = [2] ∧ S.F = [] ∧ S.H = [] ∧ S.reg = 1000 ∧ S.nx = 2) : SOk S := by
  obtain ⟨h1, h2, h3, h4, h5, h6⟩ := h
  refine lok (fun q hq => ?_) (by rw [h1]; decide) h2 h3 h4 h5
  rw [h1] at hq
  rcases List.mem_cons.1 hq with rfl | hq
  · exact ⟨.inr rfl, rfl, (fun a ha => by rw [h6]; rw [show (2, lp3).2.A = [(0, 1)] from rfl, List.mem_singleton] at ha; subst ha; decide), by decide⟩
  · rw [List.mem_singleton] at hq
    subst hq
    exact ⟨.inl rfl, rfl, (fun a ha => by rw [h6]; rw [show (1, lp2).2.A = [(0, 0)] from rfl, List.mem_singleton] at ha; subst ha; decide), by decide⟩
section
variable {w w' : World} {kd kd' : Nat → Ro} {t r : Nat} {h : Gh}
theorem ldo1 (k : FW w kd t r h ls0) : Calls Tryz.prog 15 #[.pointer (some ⟨r, 0, none⟩), .agg #[.int .i64 lo1.k, .int .i64 lo1.proc, .int .i64 lo1.addr, .int .i64 lo1.n, .int .i64 lo1.prot, .bool lo1.sh, .int .i64 lo1.file, .int .i64 lo1.off, .bool lo1.fixed, .int .i64 lo1.how, .int .i64 lo1.ati, .int .i64 lo1.v, .int .i64 lo1.hd, .int .i64 lo1.to]] w fun e w' => e = .returned (.agg #[.int .i64 0, .int .i64 0]) ∧ Dn t r kd w w' ls1 := by
  have hp : geA ls0.ps 1 = some lp0 := by kernel_rfl
  refine do_ok k lo1 (n := 0) (er := 0) fun W kdW kW => act_lay kW lo1 rfl ⟨by decide, by decide⟩ hp fun W' g => ?_
  have hl := lay_ok (kW.grow g) lok0 lo1 (by constructor <;> exact ⟨by decide, by decide⟩) hp (fun _ => lokd) (by decide)
  rw [ll1.1, ll1.2] at hl
  exact hl
theorem store17 {S S' : Fl} {o : FOp} {p : Pr} (k : FW w kd t r h S) (hok : SOk S) (hk : o.k = 9) (hi : okI o.proc) (hp : geA S.ps o.proc = some p) (h0 : (S.reach p o.addr 2 (isAtB o.ati && isByB o.v)).2 = 0) (ha : atV p.L o.addr = some le1) (he : (S.store p o).e = 0) (hS : (S.store p o).S = S') :
    Calls Tryz.prog 15 #[.pointer (some ⟨r, 0, none⟩), .agg #[.int .i64 o.k, .int .i64 o.proc, .int .i64 o.addr, .int .i64 o.n, .int .i64 o.prot, .bool o.sh, .int .i64 o.file, .int .i64 o.off, .bool o.fixed, .int .i64 o.how, .int .i64 o.ati, .int .i64 o.v, .int .i64 o.hd, .int .i64 o.to]] w fun e w' => e = .returned (.agg #[.int .i64 0, .int .i64 0]) ∧ Dn t r kd w w' S' := by
  refine do_ok k o (n := 0) (er := 0) fun W kdW kW => act_store (n := 0) kW o hk hi hp fun W' g => ?_
  obtain ⟨x, l, hf⟩ := stF h0
  have hx : x = le1 := by
    have := hf.at_
    rw [ha] at this
    exact (Option.some.inj this).symm
  subst hx
  have hl := store_pr (kW.grow g) hok o hp hf rfl
  rw [he, hS] at hl
  exact hl
theorem ldo2 (k : FW w kd t r h ls1) : Calls Tryz.prog 15 #[.pointer (some ⟨r, 0, none⟩), .agg #[.int .i64 lo2.k, .int .i64 lo2.proc, .int .i64 lo2.addr, .int .i64 lo2.n, .int .i64 lo2.prot, .bool lo2.sh, .int .i64 lo2.file, .int .i64 lo2.off, .bool lo2.fixed, .int .i64 lo2.how, .int .i64 lo2.ati, .int .i64 lo2.v, .int .i64 lo2.hd, .int .i64 lo2.to]] w fun e w' => e = .returned (.agg #[.int .i64 0, .int .i64 0]) ∧ Dn t r kd w w' ls2 :=
  store17 (o := lo2) (p := lp1) k lok1 rfl ⟨by decide, by decide⟩ (by kernel_rfl) (by kernel_rfl) (by kernel_rfl) ll2 rfl
theorem ldo3 (k : FW w kd t r h ls2) : Calls Tryz.prog 15 #[.pointer (some ⟨r, 0, none⟩), .agg #[.int .i64 lo3.k, .int .i64 lo3.proc, .int .i64 lo3.addr, .int .i64 lo3.n, .int .i64 lo3.prot, .bool lo3.sh, .int .i64 lo3.file, .int .i64 lo3.off, .bool lo3.fixed, .int .i64 lo3.how, .int .i64 lo3.ati, .int .i64 lo3.v, .int .i64 lo3.hd, .int .i64 lo3.to]] w fun e w' => e = .returned (.agg #[.int .i64 0, .int .i64 2]) ∧ Dn t r kd w w' ls3 := by
  have hp : geA ls2.ps 1 = some lp2 := by kernel_rfl
  refine do_ok k lo3 (n := 2) (er := 0) fun W kdW kW => act_fork kW lo3 rfl ⟨by decide, by decide⟩ hp fun W' g => ?_
  have hl := fork_yes (kW.grow g) lok2 hp (by rw [lq2.1]; decide) (by decide) (by decide) (by decide)
  rw [show lowA ls2.ps = 2 by kernel_rfl] at hl
  exact hl
theorem ldo4 (k : FW w kd t r h ls3) : Calls Tryz.prog 15 #[.pointer (some ⟨r, 0, none⟩), .agg #[.int .i64 lo4.k, .int .i64 lo4.proc, .int .i64 lo4.addr, .int .i64 lo4.n, .int .i64 lo4.prot, .bool lo4.sh, .int .i64 lo4.file, .int .i64 lo4.off, .bool lo4.fixed, .int .i64 lo4.how, .int .i64 lo4.ati, .int .i64 lo4.v, .int .i64 lo4.hd, .int .i64 lo4.to]] w fun e w' => e = .returned (.agg #[.int .i64 0, .int .i64 0]) ∧ Dn t r kd w w' ls4 :=
  store17 (o := lo4) (p := lp3) k (lok34 lq3) rfl ⟨by decide, by decide⟩ (by kernel_rfl) (by kernel_rfl) (by kernel_rfl) ll4 rfl
theorem ldo5 (k : FW w kd t r h ls4) : Calls Tryz.prog 15 #[.pointer (some ⟨r, 0, none⟩), .agg #[.int .i64 lo5.k, .int .i64 lo5.proc, .int .i64 lo5.addr, .int .i64 lo5.n, .int .i64 lo5.prot, .bool lo5.sh, .int .i64 lo5.file, .int .i64 lo5.off, .bool lo5.fixed, .int .i64 lo5.how, .int .i64 lo5.ati, .int .i64 lo5.v, .int .i64 lo5.hd, .int .i64 lo5.to]] w fun e w' => e = .returned (.agg #[.int .i64 0, .int .i64 7]) ∧ Dn t r kd w w' ls4 := by
  have hp : geA ls4.ps 1 = some lp2 := by kernel_rfl
  refine do_ok k lo5 (n := 7) (er := 0) fun W kdW kW => act_load kW lo5 rfl ⟨by decide, by decide⟩ hp fun W' g => ?_
  have hl := load_ok ((kW.grow g).vw (lok34 lq4) hp) lo5
  rw [ll5.1, ll5.2] at hl
  exact hl.mono fun e w' ⟨h1, h2⟩ => ⟨h1, Dn.grown (kW.grow g) h2⟩
end
end Go.Proofs.YtefiiooibbkffaaGreat

namespace Go.Proofs.YtefiiooibbkffaaGreat
open Go.ChangeShapes Go.WideShapes Go.ChangeAt Go.RowKit Go.Deep Go.Sort
set_option linter.unusedVariables false
set_option linter.unusedSimpArgs false

section
variable {w w' : World} {kd kd' : Nat → Ro} {t r y : Nat} {e n : Int}
/-- An answer in a box of one's own. -/
structure AnsB (kd : Nat → Ro) (w : World) (y : Nat) (e n : Int) : Prop where
  hb : w.heap[y]? = some (.cells #[.int .i64 e, .int .i64 n] 36 (0, 0))
  kn : kd y = .no
theorem AnsB.ch {R : Ro → Prop} (h : AnsB kd w y e n) (c : Ch R kd kd' w w') (hr : ¬ R .no) : AnsB kd' w' y e n :=
  ⟨(c.block _ (heap_lt h.hb) (by rw [h.kn]; exact hr)).trans h.hb, (c.kd _ (heap_lt h.hb)).trans h.kn⟩
theorem own_no {t : Nat} : ¬ own t .no := fun ⟨_, e⟩ => by cases e
theorem AnsB.new (kd : Nat → Ro) (w : World) (e n : Int) : AnsB (upd kd w.heap.size .no) (w.alloc (.cells #[.int .i64 e, .int .i64 n] 36)) w.heap.size e n := ⟨heap_alloc_new w _, upd_same _ _ _⟩
theorem AnsB.c0 (h : AnsB kd w y e n) : w.cell? ⟨y, 0, none⟩ = some (.int .i64 e) := by rw [cell_of_row _ _ _ _ _ _ h.hb]; rfl
theorem AnsB.c1 (h : AnsB kd w y e n) : w.cell? ⟨y, 1, none⟩ = some (.int .i64 n) := by rw [cell_of_row _ _ _ _ _ _ h.hb]; rfl
end
/-- A world, and answers, behind a beginning. -/
def St (w0 w : World) (S : Fl) (r : Nat) (A : List (Nat × Int × Int)) : Prop := ∃ kd h, FW w kd 0 r h S ∧ (∀ a, a ∈ A → AnsB kd w a.1 a.2.1 a.2.2) ∧ Ch (own 0) (fun _ => .no) kd w0 w
theorem St.grown {w0 w : World} {S : Fl} {r : Nat} {A : List (Nat × Int × Int)} (h : St w0 w S r A) : w0.grownBy w none := by
  obtain ⟨_, _, _, _, c⟩ := h
  exact c.noGrown fun _ _ => own_no
theorem St.next {w0 w w2 : World} {S S' : Fl} {r : Nat} {A : List (Nat × Int × Int)} (h : ∃ kd h, FW w kd 0 r h S ∧ (∀ a, a ∈ A → AnsB kd w a.1 a.2.1 a.2.2) ∧ Ch (own 0) (fun _ => .no) kd w0 w ∧ Dn 0 r kd w w2 S') (e n : Int) :
    St w0 (w2.alloc (.cells #[.int .i64 e, .int .i64 n] 36)) S' r ((w2.heap.size, e, n) :: A) := by
  obtain ⟨kd, h, f, ha, c0, kd2, h2, f2, c2⟩ := h
  have cn := Ch.new noRo kd2 w2 (.cells #[.int .i64 e, .int .i64 n] 36) .no
  refine ⟨upd kd2 w2.heap.size .no, h2, f2.chNo cn, fun a hm => ?_, (c0.trans c2).trans (cn.mono fun _ e => (no_ro _ e).elim)⟩
  rcases List.mem_cons.1 hm with rfl | hm
  · exact AnsB.new _ _ _ _
  · exact ((ha a hm).ch c2 own_no).ch cn (no_ro _)
/-- A step's contract, from a state. -/
theorem St.step {w0 w : World} {S S' : Fl} {r : Nat} {A : List (Nat × Int × Int)} (h : St w0 w S r A) {f : FuncId} {args : Array Value} {v : Value}
    (hs : ∀ kd h, FW w kd 0 r h S → Calls Tryz.prog f args w fun e w' => e = .returned v ∧ Dn 0 r kd w w' S') :
    Calls Tryz.prog f args w fun e w' => e = .returned v ∧ ∀ er n, St w0 (w'.alloc (.cells #[.int .i64 er, .int .i64 n] 36)) S' r ((w'.heap.size, er, n) :: A) := by
  obtain ⟨kd, h, f, ha, c⟩ := h
  exact (hs kd h f).mono fun e w' ⟨h1, h2⟩ => ⟨h1, fun er n => St.next ⟨kd, h, f, ha, c, h2⟩ er n⟩
set_option maxRecDepth 100000 in
set_option maxHeartbeats 8000000 in
theorem lives_ok (w : World) : Calls Tryz.prog 12 #[] w fun e w' => e = .returned (.bool true) ∧ w.grownBy w' none := by
  have hz : ZR (w.alloc (.cells #[.int .i64 2] 3)) (.slice (some ⟨w.heap.size, 0, none⟩) [2].length 1) [2] := .inl ⟨rfl, .inr ⟨w.heap.size, 0, 1, rfl, by rw [World.size_alloc]; omega, fun j u hu => by
    obtain rfl : j = 0 := by have := (List.getElem?_eq_some_iff.1 hu).1; simp [zCells] at this; omega
    rw [cell_of_row _ _ _ _ _ _ (heap_alloc_new w _)]
    exact hu⟩⟩
  have HN := Lib.hid (new_yes (w.alloc (.cells #[.int .i64 2] 3)) (fun _ => .no) 0 hz (by kernel_rfl))
  have H1 := Lib.hid (fun (w1 : World) r A (s : St w w1 ls0 r A) => s.step fun kd h f => ldo1 f)
  have H2 := Lib.hid (fun (w1 : World) r A (s : St w w1 ls1 r A) => s.step fun kd h f => ldo2 f)
  have H3 := Lib.hid (fun (w1 : World) r A (s : St w w1 ls2 r A) => s.step fun kd h f => ldo3 f)
  have H4 := Lib.hid (fun (w1 : World) r A (s : St w w1 ls3 r A) => s.step fun kd h f => ldo4 f)
  have H5 := Lib.hid (fun (w1 : World) r A (s : St w w1 ls4 r A) => s.step fun kd h f => ldo5 f)
  simp only [lo1] at H1
  simp only [lo2] at H2
  simp only [lo3] at H3
  simp only [lo4] at H4
  simp only [lo5] at H5
  clear hz
  go_enter Tryz.func12, Tryz.ntmps12
  go_wp2_with fail
  refine HN.out.mono ?_
  rintro e w1 ⟨r, kd1, h1, rfl, k1, c1⟩
  have HS1 := Lib.hid (show St w w1 ls0 r [] from ⟨kd1, h1, k1, (fun a ha => by cases ha), (Ch.grown (World.grownBy_alloc w _ none)).trans (c1.mono fun _ e => (no_ro _ e).elim)⟩)
  clear k1 c1 HN
  go_wp2_with fail
  refine (H1.out w1 r [] HS1.out).mono ?_
  rintro e w2 ⟨rfl, hs2⟩
  have HS2 := Lib.hid (hs2 0 0)
  clear hs2 H1 HS1
  go_wp2_with fail
  refine (H2.out _ r _ HS2.out).mono ?_
  rintro e w3 ⟨rfl, hs3⟩
  have HS3 := Lib.hid (hs3 0 0)
  clear hs3 H2 HS2
  go_wp2_with fail
  refine (H3.out _ r _ HS3.out).mono ?_
  rintro e w4 ⟨rfl, hs4⟩
  have HS4 := Lib.hid (hs4 0 2)
  clear hs4 H3 HS3
  go_wp2_with fail
  refine (H4.out _ r _ HS4.out).mono ?_
  rintro e w5 ⟨rfl, hs5⟩
  have HS5 := Lib.hid (hs5 0 0)
  clear hs5 H4 HS4
  go_wp2_with fail
  refine (H5.out _ r _ HS5.out).mono ?_
  rintro e w6 ⟨rfl, hs6⟩
  have HG6 := Lib.hid (hs6 0 7).grown
  obtain ⟨kd6, h6, -, ha, -⟩ := hs6 0 7
  have a5 := ha _ (by simp : (w6.heap.size, (0 : Int), (7 : Int)) ∈ _)
  have a4 := ha _ (by simp : (w5.heap.size, (0 : Int), (0 : Int)) ∈ _)
  have a3 := ha _ (by simp : (w4.heap.size, (0 : Int), (2 : Int)) ∈ _)
  have a2 := ha _ (by simp : (w3.heap.size, (0 : Int), (0 : Int)) ∈ _)
  have a1 := ha _ (by simp : (w2.heap.size, (0 : Int), (0 : Int)) ∈ _)
  have c1 := a1.c0
  have c2 := a1.c1
  have c3 := a2.c0
  have c4 := a3.c1
  have c5 := a4.c0
  have c6 := a5.c1
  clear hs6 ha a1 a2 a3 a4 a5 H5 HS5
  go_wp2_with fail
  go_ret
  exact ⟨rfl, HG6.out⟩
end Go.Proofs.YtefiiooibbkffaaGreat

namespace Go.Proofs.YtefiiooibbkffaaGreat
open Go.ChangeShapes Go.WideShapes Go.ChangeAt Go.RowKit
set_option linter.unusedVariables false
set_option linter.unusedSimpArgs false

theorem okI_wf {x : Int} (h : (Lit.int .i64 x).wf = true) : okI x := wf_ok64 h
theorem below_of {w w' : World} (g : w.grownBy w' none) : Below w.heap.size w w' := ⟨g.os, g.tape, g.output, g.size, fun k hk => g.block k hk (by simp)⟩
theorem said {f : FuncId} {args : Array Value} {w : World} (h : Calls Tryz.prog f args w fun e w' => e = .returned (.bool true) ∧ w.grownBy w' none) : Calls Tryz.prog f args w fun e w' => e = .returned (.bool true) ∧ Below w.heap.size w w' := h.mono fun _ _ k => ⟨k.1, below_of k.2⟩
def opCells (o : FOp) : List Value := [.int .i64 o.k, .int .i64 o.proc, .int .i64 o.addr, .int .i64 o.n, .int .i64 o.prot, .bool o.sh, .int .i64 o.file, .int .i64 o.off, .bool o.fixed, .int .i64 o.how, .int .i64 o.ati, .int .i64 o.v, .int .i64 o.hd, .int .i64 o.to]
structure OpsAre (w : World) (s : Option Addr) (l : Nat) (os : List FOp) : Prop where
  len : os.length = l
  cells : l = 0 ∨ ∃ g o, s = some ⟨g, o, none⟩ ∧ ∀ (i : Nat) A, os[i]? = some A → ∀ (j : Nat) u, (opCells A)[j]? = some u → w.cell? ⟨g, o + i * 14 + j, none⟩ = some u
  ok : ∀ A, A ∈ os → OkO A
/-- The cells of an operation from a place on. -/
structure OAtR (w : World) (b p : Nat) (o : FOp) : Prop where
  c0 : w.cell? ⟨b, p, none⟩ = some (.int .i64 o.k)
  c1 : w.cell? ⟨b, p + 1, none⟩ = some (.int .i64 o.proc)
  c2 : w.cell? ⟨b, p + 2, none⟩ = some (.int .i64 o.addr)
  c3 : w.cell? ⟨b, p + 3, none⟩ = some (.int .i64 o.n)
  c4 : w.cell? ⟨b, p + 4, none⟩ = some (.int .i64 o.prot)
  c5 : w.cell? ⟨b, p + 5, none⟩ = some (.bool o.sh)
  c6 : w.cell? ⟨b, p + 6, none⟩ = some (.int .i64 o.file)
  c7 : w.cell? ⟨b, p + 7, none⟩ = some (.int .i64 o.off)
  c8 : w.cell? ⟨b, p + 8, none⟩ = some (.bool o.fixed)
  c9 : w.cell? ⟨b, p + 9, none⟩ = some (.int .i64 o.how)
  c10 : w.cell? ⟨b, p + 10, none⟩ = some (.int .i64 o.ati)
  c11 : w.cell? ⟨b, p + 11, none⟩ = some (.int .i64 o.v)
  c12 : w.cell? ⟨b, p + 12, none⟩ = some (.int .i64 o.hd)
  c13 : w.cell? ⟨b, p + 13, none⟩ = some (.int .i64 o.to)
theorem OpsAre.at {w wr : World} {s : Option Addr} {l : Nat} {os : List FOp} (h : OpsAre w s l os) (g : w.grownBy wr none) {j : Nat} {A : FOp} (hA : os[j]? = some A) : ∃ b p, s = some ⟨b, p, none⟩ ∧ OAtR wr b (p + j * 14) A := by
  have hj := (List.getElem?_eq_some_iff.1 hA).1
  rcases h.cells with h0 | ⟨b, o, hs, hc⟩
  · have := h.len; omega
  · have key : ∀ q u, (opCells A)[q]? = some u → wr.cell? ⟨b, o + j * 14 + q, none⟩ = some u := fun q u hq => by
      have h1 := hc j A hA q u hq
      exact (World.cell?_of_block (a := ⟨b, o + j * 14 + q, none⟩) (g.block b (World.block_lt_of_cell? w _ h1) (by simp))).trans h1
    exact ⟨b, o, hs, key 0 _ rfl, key 1 _ rfl, key 2 _ rfl, key 3 _ rfl, key 4 _ rfl, key 5 _ rfl, key 6 _ rfl, key 7 _ rfl, key 8 _ rfl, key 9 _ rfl, key 10 _ rfl, key 11 _ rfl, key 12 _ rfl, key 13 _ rfl⟩
set_option maxRecDepth 100000 in
theorem ops_of_trod {H : Type} {enc : TypeId × Value → H} {w : World} {base : Nat} {spare : Nat → Bool} {held : Bool} {fuel : Nat} {s : Option Addr} {l c : Nat} {x : DataW H × List MemPlace}
    (h : DataW.trod enc Tryz.prog w base spare held fuel 23 [.slice s l c] = some x) : ∃ os, OpsAre w s l os := by
  obtain ⟨css, hr, hck⟩ := rows_of_trod (d := 6) (ks := [.int .i64, .int .i64, .int .i64, .int .i64, .int .i64, .bool, .int .i64, .int .i64, .bool, .int .i64, .int .i64, .int .i64, .int .i64, .int .i64]) Tryz.underlying23 (by kernel_rfl) (by kernel_rfl) (by simp) h
  have key : ∀ cs, cs ∈ css → ∃ A : FOp, opCells A = cs ∧ OkO A := by
    intro cs hcs
    have hl := hr.each cs hcs
    have hk := hck cs hcs
    match cs, hl with
    | [a0, a1, a2, a3, a4, a5, a6, a7, a8, a9, a10, a11, a12, a13], _ =>
      obtain ⟨v0, rfl, h0⟩ := hk 0 _ _ rfl rfl
      obtain ⟨v1, rfl, h1⟩ := hk 1 _ _ rfl rfl
      obtain ⟨v2, rfl, h2⟩ := hk 2 _ _ rfl rfl
      obtain ⟨v3, rfl, h3⟩ := hk 3 _ _ rfl rfl
      obtain ⟨v4, rfl, h4⟩ := hk 4 _ _ rfl rfl
      obtain ⟨v5, rfl⟩ := hk 5 _ _ rfl rfl
      obtain ⟨v6, rfl, h6⟩ := hk 6 _ _ rfl rfl
      obtain ⟨v7, rfl, h7⟩ := hk 7 _ _ rfl rfl
      obtain ⟨v8, rfl⟩ := hk 8 _ _ rfl rfl
      obtain ⟨v9, rfl, h9⟩ := hk 9 _ _ rfl rfl
      obtain ⟨v10, rfl, h10⟩ := hk 10 _ _ rfl rfl
      obtain ⟨v11, rfl, h11⟩ := hk 11 _ _ rfl rfl
      obtain ⟨v12, rfl, h12⟩ := hk 12 _ _ rfl rfl
      obtain ⟨v13, rfl, h13⟩ := hk 13 _ _ rfl rfl
      exact ⟨⟨v0, v1, v2, v3, v4, v5, v6, v7, v8, v9, v10, v11, v12, v13⟩, rfl, ⟨wf_ok64 h0, wf_ok64 h1, wf_ok64 h2, wf_ok64 h3, wf_ok64 h4, wf_ok64 h6, wf_ok64 h7, wf_ok64 h9, wf_ok64 h10, wf_ok64 h11, wf_ok64 h12, wf_ok64 h13⟩⟩
  obtain ⟨os, hl, hAs⟩ := list_all l (fun i (A : FOp) => css[i]? = some (opCells A) ∧ OkO A) fun i hi => by
    have hg : css[i]? = some (css[i]'(by rw [hr.len]; exact hi)) := List.getElem?_eq_getElem (by rw [hr.len]; exact hi)
    obtain ⟨A, h1, h2⟩ := key _ (List.mem_of_getElem? hg)
    exact ⟨A, by rw [hg, h1], h2⟩
  refine ⟨os, hl, ?_, fun A hA => ?_⟩
  · rcases hr.cells with h1 | ⟨g, o, hs, hc⟩
    · exact .inl h1
    · exact .inr ⟨g, o, hs, fun i A hi j u hu => hc i _ (hAs i A hi).1 j u hu⟩
  · obtain ⟨i, hi⟩ := List.getElem?_of_mem hA
    exact (hAs i A hi).2
set_option maxRecDepth 100000 in
theorem op_of {H : Type} {enc : TypeId × Value → H} {w w1 : World} {base b0 : Nat} {spare : Nat → Bool} {held : Bool} {r : Reach} {v : Value} {d : DataW H} {p : List MemPlace}
    (h : DataW.Trod enc Tryz.prog w base spare held 34 v d p) (hv : Value.okWide Tryz.prog w1 r b0 34 v) :
    ∃ o : FOp, v = .agg #[.int .i64 o.k, .int .i64 o.proc, .int .i64 o.addr, .int .i64 o.n, .int .i64 o.prot, .bool o.sh, .int .i64 o.file, .int .i64 o.off, .bool o.fixed, .int .i64 o.how, .int .i64 o.ati, .int .i64 o.v, .int .i64 o.hd, .int .i64 o.to] ∧ OkO o := by
  obtain ⟨cs, rfl, _⟩ := okWide_struct Tryz.underlying34 hv
  obtain ⟨fuel, hf⟩ := h
  obtain ⟨hl, hck⟩ := ck_of_trod 6 34 [.int .i64, .int .i64, .int .i64, .int .i64, .int .i64, .bool, .int .i64, .int .i64, .bool, .int .i64, .int .i64, .int .i64, .int .i64, .int .i64] _ fuel _ (by kernel_rfl) hf
  obtain ⟨l⟩ := cs
  simp only [Value.cells] at hl hck
  match l, hl with
  | [a0, a1, a2, a3, a4, a5, a6, a7, a8, a9, a10, a11, a12, a13], _ =>
    obtain ⟨v0, rfl, h0⟩ := hck 0 _ _ rfl rfl
    obtain ⟨v1, rfl, h1⟩ := hck 1 _ _ rfl rfl
    obtain ⟨v2, rfl, h2⟩ := hck 2 _ _ rfl rfl
    obtain ⟨v3, rfl, h3⟩ := hck 3 _ _ rfl rfl
    obtain ⟨v4, rfl, h4⟩ := hck 4 _ _ rfl rfl
    obtain ⟨v5, rfl⟩ := hck 5 _ _ rfl rfl
    obtain ⟨v6, rfl, h6⟩ := hck 6 _ _ rfl rfl
    obtain ⟨v7, rfl, h7⟩ := hck 7 _ _ rfl rfl
    obtain ⟨v8, rfl⟩ := hck 8 _ _ rfl rfl
    obtain ⟨v9, rfl, h9⟩ := hck 9 _ _ rfl rfl
    obtain ⟨v10, rfl, h10⟩ := hck 10 _ _ rfl rfl
    obtain ⟨v11, rfl, h11⟩ := hck 11 _ _ rfl rfl
    obtain ⟨v12, rfl, h12⟩ := hck 12 _ _ rfl rfl
    obtain ⟨v13, rfl, h13⟩ := hck 13 _ _ rfl rfl
    exact ⟨⟨v0, v1, v2, v3, v4, v5, v6, v7, v8, v9, v10, v11, v12, v13⟩, rfl, ⟨wf_ok64 h0, wf_ok64 h1, wf_ok64 h2, wf_ok64 h3, wf_ok64 h4, wf_ok64 h6, wf_ok64 h7, wf_ok64 h9, wf_ok64 h10, wf_ok64 h11, wf_ok64 h12, wf_ok64 h13⟩⟩
end Go.Proofs.YtefiiooibbkffaaGreat
