/- Layer 17 (landed): worlds that New did not make; isMade, namesProc. Layer 17 (landed): act, kind by kind. Written by wip/genflact.py. Layer 17 (landed): Do. -/
import Derived.Test.YtefiiooibbkffaaGreatFlMj
namespace Go.Proofs.YtefiiooibbkffaaGreat
open Go.ChangeShapes Go.WideShapes Go.ChangeAt Go.RowKit Go.Deep Go.Sort
set_option linter.unusedVariables false
set_option linter.unusedSimpArgs false

def nmCells : Obj := .cells #[.map none, .slice none 0 0, .map none, .map none, .int .i64 0] 58 (0, 0)
/-- No call made it. -/
def NMf (w : World) (pv : Value) : Prop := pv = .pointer none ∨ ∃ r, pv = .pointer (some ⟨r, 0, none⟩) ∧ w.heap[r]? = some nmCells
section
variable {w w' : World} {pv : Value}
theorem NMf.grow (h : NMf w pv) (g : w.grownBy w' none) : NMf w' pv := h.imp id fun ⟨r, e, hb⟩ => ⟨r, e, (g.block r (heap_lt hb) (by simp)).trans hb⟩
theorem neq_nil_nil (w : World) : (binOp .neq 52 (.map none) (.map none)).run Tryz.prog w = .ok (.bool false) w := by
  have h1 : ∀ d : Nat, (Op.equalIn (d + 1) 52 (.map none) (.map none)).run Tryz.prog w = .ok true w := fun d => by
    simp [Op.equalIn, run_underlying Tryz.underlying52]
  simp only [binOp]
  simp [Op.equal, Op.maxDepth, h1 9999]
set_option maxRecDepth 100000 in
theorem isMade_no (h : NMf w pv) : Calls Tryz.prog 51 #[pv] w fun e w' => e = .returned (.bool false) ∧ w' = w := by
  rcases h with rfl | ⟨r, rfl, hb⟩
  · go_enter Tryz.func51, Tryz.ntmps51
    go_wp2_with fail
    go_ret
    exact ⟨rfl, rfl⟩
  · have c0 : w.cell? ⟨r, 0, none⟩ = some (.map none) := by rw [cell_of_row _ _ _ _ _ _ hb]; rfl
    clear hb
    have hq := neq_nil_nil
    go_enter Tryz.func51, Tryz.ntmps51
    go_wp2_with fail
    go_ret
    exact ⟨rfl, rfl⟩
set_option maxRecDepth 100000 in
set_option maxHeartbeats 1000000 in
theorem act_no (h : NMf w pv) (o : FOp) : Calls Tryz.prog 32 #[pv, .agg #[.int .i64 o.k, .int .i64 o.proc, .int .i64 o.addr, .int .i64 o.n, .int .i64 o.prot, .bool o.sh, .int .i64 o.file, .int .i64 o.off, .bool o.fixed, .int .i64 o.how, .int .i64 o.ati, .int .i64 o.v, .int .i64 o.hd, .int .i64 o.to]] w fun e w' => e = .returned (.tuple #[.int .i64 0, .int .i64 1]) ∧ w.grownBy w' none := by
  have ga := World.grownBy_alloc w (.cells #[.int .i64 o.k, .int .i64 o.proc, .int .i64 o.addr, .int .i64 o.n, .int .i64 o.prot, .bool o.sh, .int .i64 o.file, .int .i64 o.off, .bool o.fixed, .int .i64 o.how, .int .i64 o.ati, .int .i64 o.v, .int .i64 o.hd, .int .i64 o.to] 34) none
  have HM := Lib.hid (isMade_no (h.grow ga))
  have HG := Lib.hid ga
  clear h ga
  go_enter Tryz.func32, Tryz.ntmps32
  go_wp2_with fail
  refine HM.out.mono ?_
  rintro e w2 ⟨rfl, rfl⟩
  go_wp2_with fail
  go_ret2
  exact ⟨rfl, HG.out⟩
theorem procs_no (h : NMf w pv) : Calls Tryz.prog 20 #[pv] w fun e w' => e = .returned (.slice none 0 0) ∧ w.grownBy w' none := by
  have HM := Lib.hid (isMade_no h)
  clear h
  go_enter Tryz.func20, Tryz.ntmps20
  go_wp2_with fail
  refine HM.out.mono ?_
  rintro e w2 ⟨rfl, rfl⟩
  go_wp2_with fail
  go_ret
  exact ⟨rfl, grown_refl _ _⟩
theorem handles_no (h : NMf w pv) : Calls Tryz.prog 25 #[pv] w fun e w' => e = .returned (.slice none 0 0) ∧ w.grownBy w' none := by
  have HM := Lib.hid (isMade_no h)
  clear h
  go_enter Tryz.func25, Tryz.ntmps25
  go_wp2_with fail
  refine HM.out.mono ?_
  rintro e w2 ⟨rfl, rfl⟩
  go_wp2_with fail
  go_ret
  exact ⟨rfl, grown_refl _ _⟩
theorem entries_no (h : NMf w pv) (id : Int) : Calls Tryz.prog 23 #[pv, .int .i64 id] w fun e w' => e = .returned (.slice none 0 0) ∧ w.grownBy w' none := by
  have HM := Lib.hid (isMade_no h)
  clear h
  go_enter Tryz.func23, Tryz.ntmps23
  go_wp2_with fail
  refine HM.out.mono ?_
  rintro e w2 ⟨rfl, rfl⟩
  go_wp2_with fail
  go_ret
  exact ⟨rfl, grown_refl _ _⟩
theorem byte_no (h : NMf w pv) (id pg a : Int) : Calls Tryz.prog 21 #[pv, .int .i64 id, .int .i64 pg, .int .i64 a] w fun e w' => e = .returned (.tuple #[.int .i64 0, .int .i64 1]) ∧ w.grownBy w' none := by
  have HM := Lib.hid (isMade_no h)
  clear h
  go_enter Tryz.func21, Tryz.ntmps21
  go_wp2_with fail
  refine HM.out.mono ?_
  rintro e w2 ⟨rfl, rfl⟩
  go_wp2_with fail
  go_ret2
  exact ⟨rfl, grown_refl _ _⟩
theorem fileByte_no (h : NMf w pv) (f n a : Int) : Calls Tryz.prog 24 #[pv, .int .i64 f, .int .i64 n, .int .i64 a] w fun e w' => e = .returned (.tuple #[.int .i64 0, .int .i64 1]) ∧ w.grownBy w' none := by
  have HM := Lib.hid (isMade_no h)
  clear h
  go_enter Tryz.func24, Tryz.ntmps24
  go_wp2_with fail
  refine HM.out.mono ?_
  rintro e w2 ⟨rfl, rfl⟩
  go_wp2_with fail
  go_ret2
  exact ⟨rfl, grown_refl _ _⟩
theorem set_new17 {w0 w : World} {y : Nat} (o : Nat) (v : Value) (g : w0.grownBy w none) (hy : w0.heap.size ≤ y) : w0.grownBy (w.setCell ⟨y, o, none⟩ v) none :=
  Turn.noGrown ((Turn.grown (O := [y]) g).trans' (Turn.setCell [y] _ _ _ _ (by simp))) fun b hb => by
    have : b = y := by simpa using hb
    omega
def ansCells (e n : Int) : Obj := .cells #[.int .i64 e, .int .i64 n] 36 (0, 0)
theorem do_no (h : NMf w pv) (o : FOp) : Calls Tryz.prog 15 #[pv, .agg #[.int .i64 o.k, .int .i64 o.proc, .int .i64 o.addr, .int .i64 o.n, .int .i64 o.prot, .bool o.sh, .int .i64 o.file, .int .i64 o.off, .bool o.fixed, .int .i64 o.how, .int .i64 o.ati, .int .i64 o.v, .int .i64 o.hd, .int .i64 o.to]] w fun e w' => e = .returned (.agg #[.int .i64 1, .int .i64 0]) ∧ w.grownBy w' none := by
  have ga := World.grownBy_alloc w (.cells #[.int .i64 o.k, .int .i64 o.proc, .int .i64 o.addr, .int .i64 o.n, .int .i64 o.prot, .bool o.sh, .int .i64 o.file, .int .i64 o.off, .bool o.fixed, .int .i64 o.how, .int .i64 o.ati, .int .i64 o.v, .int .i64 o.hd, .int .i64 o.to] 34) none
  have gb := World.grownBy_alloc (w.alloc (.cells #[.int .i64 o.k, .int .i64 o.proc, .int .i64 o.addr, .int .i64 o.n, .int .i64 o.prot, .bool o.sh, .int .i64 o.file, .int .i64 o.off, .bool o.fixed, .int .i64 o.how, .int .i64 o.ati, .int .i64 o.v, .int .i64 o.hd, .int .i64 o.to] 34)) (ansCells 0 0) none
  have bb := heap_alloc_new (w.alloc (.cells #[.int .i64 o.k, .int .i64 o.proc, .int .i64 o.addr, .int .i64 o.n, .int .i64 o.prot, .bool o.sh, .int .i64 o.file, .int .i64 o.off, .bool o.fixed, .int .i64 o.how, .int .i64 o.ati, .int .i64 o.v, .int .i64 o.hd, .int .i64 o.to] 34)) (ansCells 0 0)
  have es := World.size_alloc w (.cells #[.int .i64 o.k, .int .i64 o.proc, .int .i64 o.addr, .int .i64 o.n, .int .i64 o.prot, .bool o.sh, .int .i64 o.file, .int .i64 o.off, .bool o.fixed, .int .i64 o.how, .int .i64 o.ati, .int .i64 o.v, .int .i64 o.hd, .int .i64 o.to] 34)
  have gab := grown_trans ga gb
  obtain ⟨c0, c1, c2, c3, c4, c5, c6, c7, c8, c9, c10, c11, c12, c13⟩ := ((OpB.new w o).grow gb).at
  have HM := Lib.hid (act_no (h.grow gab) o)
  have HG := Lib.hid gab
  rw [es] at bb
  have HB := Lib.hid bb
  clear h ga gb bb gab
  go_enter Tryz.func15, Tryz.ntmps15
  unfold ansCells at *
  go_wp2_with fail
  refine HM.out.mono ?_
  rintro e w2 ⟨rfl, g2⟩
  have b2 := (g2.block _ (heap_lt HB.out) (by simp)).trans HB.out
  have a0 : w2.cell? ⟨w.heap.size + 1, 0, none⟩ = some (.int .i64 0) := by rw [cell_of_row _ _ _ _ _ _ b2]; rfl
  have f0 : w2.frozen? ⟨w.heap.size + 1, 0, none⟩ = false := frozen_of_row _ _ _ _ _ b2
  have b3 := fun v => heap_setCell_same w2 (w.heap.size + 1) 0 _ _ v b2
  have a1 : ∀ v, (w2.setCell ⟨w.heap.size + 1, 0, none⟩ v).cell? ⟨w.heap.size + 1, 1, none⟩ = some (.int .i64 0) := fun v => by rw [cell_of_row _ _ _ _ _ _ (b3 v)]; rfl
  have f1 : ∀ v, (w2.setCell ⟨w.heap.size + 1, 0, none⟩ v).frozen? ⟨w.heap.size + 1, 1, none⟩ = false := fun v => frozen_of_row _ _ _ _ _ (b3 v)
  have B4 := Lib.hid (fun v v' => heap_setCell_same (w2.setCell ⟨w.heap.size + 1, 0, none⟩ v) (w.heap.size + 1) 1 _ _ v' (b3 v))
  have HB2 := Lib.hid b2
  have HG2 := Lib.hid g2
  clear b2 b3 g2 c0 c1 c2 c3 c4 c5 c6 c7 c8 c9 c10 c11 c12 c13 es HM HB
  go_wp2_with fail
  have b4 := B4.out (.int .i64 1) (.int .i64 0)
  refine bodyPost_ret (results_cell_row rfl _ _ (w.heap.size + 1) _ #[.int .i64 1, .int .i64 0] (0, 0) _ rfl b4 Tryz.underlying36 (by kernel_rfl) (by kernel_rfl)) rfl ?_
  exact ⟨rfl, set_new17 1 _ (set_new17 0 _ (grown_trans HG.out HG2.out) (by omega)) (by omega)⟩
end
end Go.Proofs.YtefiiooibbkffaaGreat

namespace Go.Proofs.YtefiiooibbkffaaGreat
open Go.ChangeShapes Go.WideShapes Go.ChangeAt Go.RowKit Go.Deep Go.Sort
set_option linter.unusedVariables false
set_option linter.unusedSimpArgs false

section
variable {w w' : World} {kd kd' : Nat → Ro} {t r : Nat} {h : Gh} {S S' : Fl} {id : Int} {p : Pr}
theorem Dn.of_grown {W : World} (g : w.grownBy W none) (d : Dn t r kd W w' S') : Dn t r kd w w' S' := by
  obtain ⟨kd', h', f, c⟩ := d
  exact ⟨kd', h', f, (Ch.grown g).trans c⟩
theorem PM.look {ids : List Int} (k : PM w kd t h ids) {x : Int} (hx : x ∈ ids) (hi : okI x) :
    (Instr.lookup 52 (.map (some h.pm)) (.int .i64 x) false).run Tryz.prog w = .ok (.pointer (some ⟨(h.g x).b, 0, none⟩)) w := by
  have h1 := k.pm.look lawsP (zd := .held (.pointer none)) (x := x) (okW_of hi)
  have h2 : lookV (ids.map fun id => (id, Value.pointer (some ⟨(h.g id).b, 0, none⟩))) x = some (.pointer (some ⟨(h.g x).b, 0, none⟩)) := by
    clear h1 k
    induction ids with
    | nil => cases hx
    | cons y ids ih =>
      unfold lookV at ih ⊢
      rw [List.map_cons, List.find?_cons]
      by_cases e : y = x
      · subst e; simp
      · rw [decide_eq_false e]
        refine ih ?_
        rcases List.mem_cons.1 hx with e2 | e2
        · exact (e e2.symm).elim
        · exact e2
  rw [h2] at h1
  exact h1
theorem geA_ids {ps : List (Int × Pr)} (hp : geA ps id = some p) : id ∈ ps.map (·.1) := List.mem_map.2 ⟨_, geA_some hp, rfl⟩
set_option maxRecDepth 100000 in
set_option maxHeartbeats 8000000 in
theorem act_lay (k : FW w kd t r h S) (o : FOp) (hk : o.k = 1) (hi : okI o.proc) (hp : geA S.ps o.proc = some p) {n er : Int}
    (hD : ∀ W, w.grownBy W none → Calls Tryz.prog 66 #[.pointer (some ⟨r, 0, none⟩), .pointer (some ⟨(h.g o.proc).b, 0, none⟩), .agg #[.int .i64 o.k, .int .i64 o.proc, .int .i64 o.addr, .int .i64 o.n, .int .i64 o.prot, .bool o.sh, .int .i64 o.file, .int .i64 o.off, .bool o.fixed, .int .i64 o.how, .int .i64 o.ati, .int .i64 o.v, .int .i64 o.hd, .int .i64 o.to]] W fun e w' => e = .returned (.tuple #[.int .i64 n, .int .i64 er]) ∧ Dn t r kd W w' S') :
    Calls Tryz.prog 32 #[.pointer (some ⟨r, 0, none⟩), .agg #[.int .i64 o.k, .int .i64 o.proc, .int .i64 o.addr, .int .i64 o.n, .int .i64 o.prot, .bool o.sh, .int .i64 o.file, .int .i64 o.off, .bool o.fixed, .int .i64 o.how, .int .i64 o.ati, .int .i64 o.v, .int .i64 o.hd, .int .i64 o.to]] w fun e w' => e = .returned (.tuple #[.int .i64 n, .int .i64 er]) ∧ Dn t r kd w w' S' := by
  have ga := World.grownBy_alloc w (.cells #[.int .i64 o.k, .int .i64 o.proc, .int .i64 o.addr, .int .i64 o.n, .int .i64 o.prot, .bool o.sh, .int .i64 o.file, .int .i64 o.off, .bool o.fixed, .int .i64 o.how, .int .i64 o.ati, .int .i64 o.v, .int .i64 o.hd, .int .i64 o.to] 34) none
  have hB := OpB.new w o
  generalize hwB : w.alloc (.cells #[.int .i64 o.k, .int .i64 o.proc, .int .i64 o.addr, .int .i64 o.n, .int .i64 o.prot, .bool o.sh, .int .i64 o.file, .int .i64 o.off, .bool o.fixed, .int .i64 o.how, .int .i64 o.ati, .int .i64 o.v, .int .i64 o.hd, .int .i64 o.to] 34) = wB at *
  have kB := k.grow ga
  have hB2 := hB.grow (grown_drew1 wB)
  have k0 := kB.hw.at.1
  have hlk := (kB.grow (grown_drew1 wB)).pm.look (geA_ids hp) hi
  have HM := Lib.hid (isMade_ok k0)
  have HG := Lib.hid (grown_trans ga (grown_drew1 wB))
  have HC := Lib.hid (hD wB.drew (grown_trans ga (grown_drew1 wB)))
  obtain ⟨c0, c1, c2, c3, c4, c5, c6, c7, c8, c9, c10, c11, c12, c13⟩ := hB.at
  obtain ⟨d0, d1, d2, d3, d4, d5, d6, d7, d8, d9, d10, d11, d12, d13⟩ := hB2.at
  rw [hk] at c0 d0 HC
  clear k kB ga hB hB2 hD hp hi hk
  go_enter Tryz.func32, Tryz.ntmps32
  go_upto_region 1 with fail
  try simp only [hwB]
  clear hwB
  go_wp2_with fail
  refine HM.out.mono ?_
  rintro e wX ⟨rfl, eX⟩
  subst eX
  go_upto_region 3 with fail
  go_region
  clear k0 hlk c0 c1 c2 c3 c4 c5 c6 c7 c8 c9 c10 c11 c12 c13 HM
  go_wp2_with fail
  refine HC.out.mono ?_
  rintro e w5 ⟨rfl, hD5⟩
  have HD5 := Lib.hid (hD5.of_grown HG.out)
  clear hD5 d0 d1 d2 d3 d4 d5 d6 d7 d8 d9 d10 d11 d12 d13 HC HG
  go_wp2_with fail
  go_ret2
  exact ⟨rfl, HD5.out⟩
set_option maxRecDepth 100000 in
set_option maxHeartbeats 8000000 in
theorem act_load (k : FW w kd t r h S) (o : FOp) (hk : o.k = 8) (hi : okI o.proc) (hp : geA S.ps o.proc = some p) {n er : Int}
    (hD : ∀ W, w.grownBy W none → Calls Tryz.prog 72 #[.pointer (some ⟨r, 0, none⟩), .pointer (some ⟨(h.g o.proc).b, 0, none⟩), .agg #[.int .i64 o.k, .int .i64 o.proc, .int .i64 o.addr, .int .i64 o.n, .int .i64 o.prot, .bool o.sh, .int .i64 o.file, .int .i64 o.off, .bool o.fixed, .int .i64 o.how, .int .i64 o.ati, .int .i64 o.v, .int .i64 o.hd, .int .i64 o.to]] W fun e w' => e = .returned (.tuple #[.int .i64 n, .int .i64 er]) ∧ Dn t r kd W w' S') :
    Calls Tryz.prog 32 #[.pointer (some ⟨r, 0, none⟩), .agg #[.int .i64 o.k, .int .i64 o.proc, .int .i64 o.addr, .int .i64 o.n, .int .i64 o.prot, .bool o.sh, .int .i64 o.file, .int .i64 o.off, .bool o.fixed, .int .i64 o.how, .int .i64 o.ati, .int .i64 o.v, .int .i64 o.hd, .int .i64 o.to]] w fun e w' => e = .returned (.tuple #[.int .i64 n, .int .i64 er]) ∧ Dn t r kd w w' S' := by
  have ga := World.grownBy_alloc w (.cells #[.int .i64 o.k, .int .i64 o.proc, .int .i64 o.addr, .int .i64 o.n, .int .i64 o.prot, .bool o.sh, .int .i64 o.file, .int .i64 o.off, .bool o.fixed, .int .i64 o.how, .int .i64 o.ati, .int .i64 o.v, .int .i64 o.hd, .int .i64 o.to] 34) none
  have hB := OpB.new w o
  generalize hwB : w.alloc (.cells #[.int .i64 o.k, .int .i64 o.proc, .int .i64 o.addr, .int .i64 o.n, .int .i64 o.prot, .bool o.sh, .int .i64 o.file, .int .i64 o.off, .bool o.fixed, .int .i64 o.how, .int .i64 o.ati, .int .i64 o.v, .int .i64 o.hd, .int .i64 o.to] 34) = wB at *
  have kB := k.grow ga
  have hB2 := hB.grow (grown_drew1 wB)
  have k0 := kB.hw.at.1
  have hlk := (kB.grow (grown_drew1 wB)).pm.look (geA_ids hp) hi
  have HM := Lib.hid (isMade_ok k0)
  have HG := Lib.hid (grown_trans ga (grown_drew1 wB))
  have HC := Lib.hid (hD wB.drew (grown_trans ga (grown_drew1 wB)))
  obtain ⟨c0, c1, c2, c3, c4, c5, c6, c7, c8, c9, c10, c11, c12, c13⟩ := hB.at
  obtain ⟨d0, d1, d2, d3, d4, d5, d6, d7, d8, d9, d10, d11, d12, d13⟩ := hB2.at
  rw [hk] at c0 d0 HC
  clear k kB ga hB hB2 hD hp hi hk
  go_enter Tryz.func32, Tryz.ntmps32
  go_upto_region 1 with fail
  try simp only [hwB]
  clear hwB
  go_wp2_with fail
  refine HM.out.mono ?_
  rintro e wX ⟨rfl, eX⟩
  subst eX
  go_upto_region 3 with fail
  go_region
  clear k0 hlk c0 c1 c2 c3 c4 c5 c6 c7 c8 c9 c10 c11 c12 c13 HM
  go_wp2_with fail
  refine HC.out.mono ?_
  rintro e w5 ⟨rfl, hD5⟩
  have HD5 := Lib.hid (hD5.of_grown HG.out)
  clear hD5 d0 d1 d2 d3 d4 d5 d6 d7 d8 d9 d10 d11 d12 d13 HC HG
  go_wp2_with fail
  go_ret2
  exact ⟨rfl, HD5.out⟩
set_option maxRecDepth 100000 in
set_option maxHeartbeats 8000000 in
theorem act_store (k : FW w kd t r h S) (o : FOp) (hk : o.k = 9) (hi : okI o.proc) (hp : geA S.ps o.proc = some p) {n er : Int}
    (hD : ∀ W, w.grownBy W none → Calls Tryz.prog 73 #[.pointer (some ⟨r, 0, none⟩), .pointer (some ⟨(h.g o.proc).b, 0, none⟩), .agg #[.int .i64 o.k, .int .i64 o.proc, .int .i64 o.addr, .int .i64 o.n, .int .i64 o.prot, .bool o.sh, .int .i64 o.file, .int .i64 o.off, .bool o.fixed, .int .i64 o.how, .int .i64 o.ati, .int .i64 o.v, .int .i64 o.hd, .int .i64 o.to]] W fun e w' => e = .returned (.int .i64 er) ∧ Dn t r kd W w' S') :
    Calls Tryz.prog 32 #[.pointer (some ⟨r, 0, none⟩), .agg #[.int .i64 o.k, .int .i64 o.proc, .int .i64 o.addr, .int .i64 o.n, .int .i64 o.prot, .bool o.sh, .int .i64 o.file, .int .i64 o.off, .bool o.fixed, .int .i64 o.how, .int .i64 o.ati, .int .i64 o.v, .int .i64 o.hd, .int .i64 o.to]] w fun e w' => e = .returned (.tuple #[.int .i64 0, .int .i64 er]) ∧ Dn t r kd w w' S' := by
  have ga := World.grownBy_alloc w (.cells #[.int .i64 o.k, .int .i64 o.proc, .int .i64 o.addr, .int .i64 o.n, .int .i64 o.prot, .bool o.sh, .int .i64 o.file, .int .i64 o.off, .bool o.fixed, .int .i64 o.how, .int .i64 o.ati, .int .i64 o.v, .int .i64 o.hd, .int .i64 o.to] 34) none
  have hB := OpB.new w o
  generalize hwB : w.alloc (.cells #[.int .i64 o.k, .int .i64 o.proc, .int .i64 o.addr, .int .i64 o.n, .int .i64 o.prot, .bool o.sh, .int .i64 o.file, .int .i64 o.off, .bool o.fixed, .int .i64 o.how, .int .i64 o.ati, .int .i64 o.v, .int .i64 o.hd, .int .i64 o.to] 34) = wB at *
  have kB := k.grow ga
  have hB2 := hB.grow (grown_drew1 wB)
  have k0 := kB.hw.at.1
  have hlk := (kB.grow (grown_drew1 wB)).pm.look (geA_ids hp) hi
  have HM := Lib.hid (isMade_ok k0)
  have HG := Lib.hid (grown_trans ga (grown_drew1 wB))
  have HC := Lib.hid (hD wB.drew (grown_trans ga (grown_drew1 wB)))
  obtain ⟨c0, c1, c2, c3, c4, c5, c6, c7, c8, c9, c10, c11, c12, c13⟩ := hB.at
  obtain ⟨d0, d1, d2, d3, d4, d5, d6, d7, d8, d9, d10, d11, d12, d13⟩ := hB2.at
  rw [hk] at c0 d0 HC
  clear k kB ga hB hB2 hD hp hi hk
  go_enter Tryz.func32, Tryz.ntmps32
  go_upto_region 1 with fail
  try simp only [hwB]
  clear hwB
  go_wp2_with fail
  refine HM.out.mono ?_
  rintro e wX ⟨rfl, eX⟩
  subst eX
  go_upto_region 3 with fail
  go_region
  clear k0 hlk c0 c1 c2 c3 c4 c5 c6 c7 c8 c9 c10 c11 c12 c13 HM
  go_wp2_with fail
  refine HC.out.mono ?_
  rintro e w5 ⟨rfl, hD5⟩
  have HD5 := Lib.hid (hD5.of_grown HG.out)
  clear hD5 d0 d1 d2 d3 d4 d5 d6 d7 d8 d9 d10 d11 d12 d13 HC HG
  go_wp2_with fail
  go_ret2
  exact ⟨rfl, HD5.out⟩
set_option maxRecDepth 100000 in
set_option maxHeartbeats 8000000 in
theorem act_fork (k : FW w kd t r h S) (o : FOp) (hk : o.k = 10) (hi : okI o.proc) (hp : geA S.ps o.proc = some p) {n er : Int}
    (hD : ∀ W, w.grownBy W none → Calls Tryz.prog 74 #[.pointer (some ⟨r, 0, none⟩), .pointer (some ⟨(h.g o.proc).b, 0, none⟩)] W fun e w' => e = .returned (.tuple #[.int .i64 n, .int .i64 er]) ∧ Dn t r kd W w' S') :
    Calls Tryz.prog 32 #[.pointer (some ⟨r, 0, none⟩), .agg #[.int .i64 o.k, .int .i64 o.proc, .int .i64 o.addr, .int .i64 o.n, .int .i64 o.prot, .bool o.sh, .int .i64 o.file, .int .i64 o.off, .bool o.fixed, .int .i64 o.how, .int .i64 o.ati, .int .i64 o.v, .int .i64 o.hd, .int .i64 o.to]] w fun e w' => e = .returned (.tuple #[.int .i64 n, .int .i64 er]) ∧ Dn t r kd w w' S' := by
  have ga := World.grownBy_alloc w (.cells #[.int .i64 o.k, .int .i64 o.proc, .int .i64 o.addr, .int .i64 o.n, .int .i64 o.prot, .bool o.sh, .int .i64 o.file, .int .i64 o.off, .bool o.fixed, .int .i64 o.how, .int .i64 o.ati, .int .i64 o.v, .int .i64 o.hd, .int .i64 o.to] 34) none
  have hB := OpB.new w o
  generalize hwB : w.alloc (.cells #[.int .i64 o.k, .int .i64 o.proc, .int .i64 o.addr, .int .i64 o.n, .int .i64 o.prot, .bool o.sh, .int .i64 o.file, .int .i64 o.off, .bool o.fixed, .int .i64 o.how, .int .i64 o.ati, .int .i64 o.v, .int .i64 o.hd, .int .i64 o.to] 34) = wB at *
  have kB := k.grow ga
  have hB2 := hB.grow (grown_drew1 wB)
  have k0 := kB.hw.at.1
  have hlk := (kB.grow (grown_drew1 wB)).pm.look (geA_ids hp) hi
  have HM := Lib.hid (isMade_ok k0)
  have HG := Lib.hid (grown_trans ga (grown_drew1 wB))
  have HC := Lib.hid (hD wB.drew (grown_trans ga (grown_drew1 wB)))
  obtain ⟨c0, c1, c2, c3, c4, c5, c6, c7, c8, c9, c10, c11, c12, c13⟩ := hB.at
  obtain ⟨d0, d1, d2, d3, d4, d5, d6, d7, d8, d9, d10, d11, d12, d13⟩ := hB2.at
  rw [hk] at c0 d0
  clear k kB ga hB hB2 hD hp hi hk
  go_enter Tryz.func32, Tryz.ntmps32
  go_upto_region 1 with fail
  try simp only [hwB]
  clear hwB
  go_wp2_with fail
  refine HM.out.mono ?_
  rintro e wX ⟨rfl, eX⟩
  subst eX
  go_upto_region 3 with fail
  go_region
  clear k0 hlk c0 c1 c2 c3 c4 c5 c6 c7 c8 c9 c10 c11 c12 c13 HM
  go_wp2_with fail
  refine HC.out.mono ?_
  rintro e w5 ⟨rfl, hD5⟩
  have HD5 := Lib.hid (hD5.of_grown HG.out)
  clear hD5 d0 d1 d2 d3 d4 d5 d6 d7 d8 d9 d10 d11 d12 d13 HC HG
  go_wp2_with fail
  go_ret2
  exact ⟨rfl, HD5.out⟩
end
end Go.Proofs.YtefiiooibbkffaaGreat

namespace Go.Proofs.YtefiiooibbkffaaGreat
open Go.ChangeShapes Go.WideShapes Go.ChangeAt Go.RowKit Go.Deep Go.Sort
set_option linter.unusedVariables false
set_option linter.unusedSimpArgs false

section
variable {w w' : World} {kd kd' : Nat → Ro} {t r : Nat} {h : Gh} {S S' : Fl} {id : Int} {p : Pr}
/-- A box of the call's own is stored into. -/
theorem Dn.own_set {w0 : World} (d : Dn t r kd w w' S') (c0 : Ch noRo kd' kd w0 w) {b : Nat} (hb : w0.heap.size ≤ b) (hb2 : b < w.heap.size) (hk : kd b = .no) (v v' : Value) : Dn t r kd' w0 ((w'.setCell ⟨b, 0, none⟩ v).setCell ⟨b, 1, none⟩ v') S' := by
  obtain ⟨kd2, h2, f, c⟩ := d
  have g1 := grown_set w' b 0 v
  have g2 := grown_set (w'.setCell ⟨b, 0, none⟩ v) b 1 v'
  have hk2 : kd2 b = .no := (c.kd b hb2).trans hk
  have hch : Ch (fun ρ => ρ = .no) kd2 kd2 w' ((w'.setCell ⟨b, 0, none⟩ v).setCell ⟨b, 1, none⟩ v') := (Ch.one g1 hk2).trans (Ch.one g2 hk2)
  refine ⟨kd2, h2, f.ch hch (by simp) (fun x => by simp), ?_⟩
  have ca : Ch (own t) kd' kd2 w0 w' := (c0.mono fun _ e => (no_ro _ e).elim).trans c
  refine ⟨hch.os.trans ca.os, hch.tape.trans ca.tape, hch.output.trans ca.output, Nat.le_trans ca.size hch.size, fun x hx hr => ?_, ca.kd⟩
  have e1 : ((w'.setCell ⟨b, 0, none⟩ v).setCell ⟨b, 1, none⟩ v').heap[x]? = w'.heap[x]? := (g2.block x (by have := g1.size; have := ca.size; omega) (fun e => by have := Option.some.inj e; omega)).trans (g1.block x (by have := ca.size; omega) (fun e => by have := Option.some.inj e; omega))
  exact e1.trans (ca.block x hx hr)
set_option maxHeartbeats 2000000 in
theorem do_ok (k : FW w kd t r h S) (o : FOp) {n er : Int}
    (hA : ∀ W kdW, FW W kdW t r h S → Calls Tryz.prog 32 #[.pointer (some ⟨r, 0, none⟩), .agg #[.int .i64 o.k, .int .i64 o.proc, .int .i64 o.addr, .int .i64 o.n, .int .i64 o.prot, .bool o.sh, .int .i64 o.file, .int .i64 o.off, .bool o.fixed, .int .i64 o.how, .int .i64 o.ati, .int .i64 o.v, .int .i64 o.hd, .int .i64 o.to]] W fun e w' => e = .returned (.tuple #[.int .i64 n, .int .i64 er]) ∧ Dn t r kdW W w' S') :
    Calls Tryz.prog 15 #[.pointer (some ⟨r, 0, none⟩), .agg #[.int .i64 o.k, .int .i64 o.proc, .int .i64 o.addr, .int .i64 o.n, .int .i64 o.prot, .bool o.sh, .int .i64 o.file, .int .i64 o.off, .bool o.fixed, .int .i64 o.how, .int .i64 o.ati, .int .i64 o.v, .int .i64 o.hd, .int .i64 o.to]] w fun e w' => e = .returned (.agg #[.int .i64 er, .int .i64 (if er = 0 then n else 0)]) ∧ Dn t r kd w w' S' := by
  have ga := World.grownBy_alloc w (.cells #[.int .i64 o.k, .int .i64 o.proc, .int .i64 o.addr, .int .i64 o.n, .int .i64 o.prot, .bool o.sh, .int .i64 o.file, .int .i64 o.off, .bool o.fixed, .int .i64 o.how, .int .i64 o.ati, .int .i64 o.v, .int .i64 o.hd, .int .i64 o.to] 34) none
  have gb := World.grownBy_alloc (w.alloc (.cells #[.int .i64 o.k, .int .i64 o.proc, .int .i64 o.addr, .int .i64 o.n, .int .i64 o.prot, .bool o.sh, .int .i64 o.file, .int .i64 o.off, .bool o.fixed, .int .i64 o.how, .int .i64 o.ati, .int .i64 o.v, .int .i64 o.hd, .int .i64 o.to] 34)) (.cells #[.int .i64 0, .int .i64 0] 36) none
  have bb := heap_alloc_new (w.alloc (.cells #[.int .i64 o.k, .int .i64 o.proc, .int .i64 o.addr, .int .i64 o.n, .int .i64 o.prot, .bool o.sh, .int .i64 o.file, .int .i64 o.off, .bool o.fixed, .int .i64 o.how, .int .i64 o.ati, .int .i64 o.v, .int .i64 o.hd, .int .i64 o.to] 34)) (.cells #[.int .i64 0, .int .i64 0] 36)
  have es := World.size_alloc w (.cells #[.int .i64 o.k, .int .i64 o.proc, .int .i64 o.addr, .int .i64 o.n, .int .i64 o.prot, .bool o.sh, .int .i64 o.file, .int .i64 o.off, .bool o.fixed, .int .i64 o.how, .int .i64 o.ati, .int .i64 o.v, .int .i64 o.hd, .int .i64 o.to] 34)
  have gab := grown_trans ga gb
  obtain ⟨c0, c1, c2, c3, c4, c5, c6, c7, c8, c9, c10, c11, c12, c13⟩ := ((OpB.new w o).grow gb).at
  rw [es] at bb
  have hC : Ch noRo kd (upd kd (w.heap.size + 1) .no) w _ := (Ch.grown (R := noRo) (kd := kd) gab).name fun b hb => upd_ne _ _ (by omega)
  have HC := Lib.hid hC
  have HB := Lib.hid bb
  have HM := Lib.hid (hA _ _ (k.chNo hC))
  clear k ga gb bb gab hC hA
  go_enter Tryz.func15, Tryz.ntmps15
  go_wp2_with fail
  refine HM.out.mono ?_
  rintro e w2 ⟨rfl, hd⟩
  have b2 : w2.heap[w.heap.size + 1]? = some (.cells #[.int .i64 0, .int .i64 0] 36 (0, 0)) := by
    obtain ⟨_, _, _, c⟩ := hd
    exact (c.block _ (heap_lt HB.out) (by rw [upd_same]; exact fun ⟨_, e⟩ => by cases e)).trans HB.out
  have a0 : w2.cell? ⟨w.heap.size + 1, 0, none⟩ = some (.int .i64 0) := by rw [cell_of_row _ _ _ _ _ _ b2]; rfl
  have f0 : w2.frozen? ⟨w.heap.size + 1, 0, none⟩ = false := frozen_of_row _ _ _ _ _ b2
  have b3 := fun v => heap_setCell_same w2 (w.heap.size + 1) 0 _ _ v b2
  have a1 : ∀ v, (w2.setCell ⟨w.heap.size + 1, 0, none⟩ v).cell? ⟨w.heap.size + 1, 1, none⟩ = some (.int .i64 0) := fun v => by rw [cell_of_row _ _ _ _ _ _ (b3 v)]; rfl
  have f1 : ∀ v, (w2.setCell ⟨w.heap.size + 1, 0, none⟩ v).frozen? ⟨w.heap.size + 1, 1, none⟩ = false := fun v => frozen_of_row _ _ _ _ _ (b3 v)
  have B4 := Lib.hid (fun v v' => heap_setCell_same (w2.setCell ⟨w.heap.size + 1, 0, none⟩ v) (w.heap.size + 1) 1 _ _ v' (b3 v))
  have HD := Lib.hid (fun v v' => hd.own_set HC.out (b := w.heap.size + 1) (by omega) (heap_lt HB.out) (upd_same _ _ _) v v')
  clear b2 b3 hd c0 c1 c2 c3 c4 c5 c6 c7 c8 c9 c10 c11 c12 c13 es HM HB HC
  by_cases he : er = 0
  · subst he
    go_wp2_with fail
    have b4 := B4.out (.int .i64 0) (.int .i64 n)
    refine bodyPost_ret (results_cell_row rfl _ _ (w.heap.size + 1) _ #[.int .i64 0, .int .i64 n] (0, 0) _ rfl b4 Tryz.underlying36 (by kernel_rfl) (by kernel_rfl)) rfl ?_
    exact ⟨rfl, HD.out _ _⟩
  · have b9 : (er != 0) = true := by simpa using he
    have HE := Lib.hid he
    clear he
    go_wp2_with fail
    have b4 := B4.out (.int .i64 er) (.int .i64 0)
    refine bodyPost_ret (results_cell_row rfl _ _ (w.heap.size + 1) _ #[.int .i64 er, .int .i64 0] (0, 0) _ rfl b4 Tryz.underlying36 (by kernel_rfl) (by kernel_rfl)) rfl ?_
    exact ⟨rfl, HD.out _ _⟩
end
end Go.Proofs.YtefiiooibbkffaaGreat
