/- AmapCovers: the law's own counts and anons beside a pool of one amap; the loops' steps. -/
import Derived.Test.YtfmihbiongnpnaaAAct
namespace Go.Proofs.Ytfmihbiongnpnaa
open Go.ChangeShapes Go.WideShapes Go.ChangeAt Go.RowKit Go.Deep
set_option linter.unusedVariables false

section
variable {cv zs : List Int} {n s : Nat} {lo hi x : Int}
theorem of_one {a : AmV} : ofA [some a] 1 = some a := ofA_at (L := [some a]) (i := 0) (a := a) rfl
theorem make_one (h0 : 1 ≤ n) (h1 : n ≤ 4096) : makeA 1 [] n = ⟨1, [], 0, [some ⟨List.replicate n 1, List.replicate n 0⟩]⟩ := by
  unfold makeA
  rw [if_neg (Classical.not_not.2 ⟨by omega, by omega⟩), if_neg (show ¬ 1 ≤ (idsA []).length by decide)]
  show AR.mk _ _ _ (putA [] 0 (some (newA (n : Int).toNat))) = _
  rw [Int.toNat_natCast]
  rfl
theorem cover_one (hg : GoodA ⟨cv, zs⟩) (hs : s < cv.length) : coverA [some ⟨cv, zs⟩] 1 s = cv.getD s 0 := by
  unfold coverA
  rw [of_one]
  show covA _ _ = _
  rw [covA_at hg ⟨by omega, by show (s : Int) < cv.length; omega⟩]
  rfl
theorem get_one (hs : s < zs.length) : getA [some ⟨cv, zs⟩] 1 s = zs.getD s 0 := by
  unfold getA
  rw [of_one]
  show anA _ _ = _
  unfold anA
  rw [if_pos ⟨by omega, by show (s : Int) < zs.length; omega⟩]
  rfl
theorem turn_one {a : AmV} {y : Option AmV} : turnA [some a] 1 y = [y] := rfl
theorem set_one (hg : GoodA ⟨cv, zs⟩) (hs : s < cv.length) (h0 : cv.getD s 0 ≠ 0) (hx : 0 ≤ x) : setA [some ⟨cv, zs⟩] 1 s x = ⟨zs.getD s 0, [], 0, [some ⟨cv, zs.set s x⟩]⟩ := by
  have hc : covA ⟨cv, zs⟩ (s : Int) = cv.getD s 0 := covA_at hg ⟨by omega, by show (s : Int) < cv.length; omega⟩
  have hl : cv.length = zs.length := hg.len
  have ha : anA ⟨cv, zs⟩ (s : Int) = zs.getD s 0 := by
    unfold anA
    rw [if_pos ⟨by omega, by show (s : Int) < zs.length; omega⟩]
    rfl
  unfold setA
  rw [of_one]
  simp only
  rw [if_neg (by rw [hc]; omega), ha, turn_one, Int.toNat_natCast]
theorem set_bare (hg : GoodA ⟨cv, zs⟩) (hs : s < cv.length) (h0 : cv.getD s 0 = 0) : setA [some ⟨cv, zs⟩] 1 s x = ⟨0, [], 2, [some ⟨cv, zs⟩]⟩ := by
  have hc : covA ⟨cv, zs⟩ (s : Int) = cv.getD s 0 := covA_at hg ⟨by omega, by show (s : Int) < cv.length; omega⟩
  unfold setA
  rw [of_one]
  simp only
  rw [if_pos (.inl (by rw [hc]; exact h0))]
theorem span_one (h0 : 0 ≤ lo) (h1 : lo < hi) (h2 : hi ≤ zs.length) : spanA ⟨cv, zs⟩ lo hi := ⟨h0, h1, h2⟩
theorem hold_one (hg : GoodA ⟨cv, zs⟩) (hb : ∀ x, x ∈ cv → x < 1000000) (h0 : 0 ≤ lo) (h1 : lo < hi) (h2 : hi ≤ cv.length) (hf : allCov cv lo hi) : holdA [some ⟨cv, zs⟩] 1 lo hi = ⟨0, [], 0, [some ⟨moreJ cv lo hi 1, zs⟩]⟩ := by
  have hl : cv.length = zs.length := hg.len
  unfold holdA
  rw [of_one]
  simp only
  rw [if_pos ⟨span_one h0 h1 (by omega), hf, may_more hg.cs hb h0 (by omega) h2⟩, turn_one]
theorem hold_no (hf : ¬ allCov cv lo hi) : holdA [some ⟨cv, zs⟩] 1 lo hi = ⟨0, [], 2, [some ⟨cv, zs⟩]⟩ := by
  unfold holdA
  rw [of_one]
  simp only
  rw [if_neg fun k => hf k.2.1]
theorem drop_one (hg : GoodA ⟨cv, zs⟩) (h0 : 0 ≤ lo) (h1 : lo < hi) (h2 : hi ≤ cv.length) (hf : allCov cv lo hi) : dropA [some ⟨cv, zs⟩] 1 lo hi = ⟨0, outA zs (goneJ cv lo hi (-1)), 0, [if sumJ (moreJ cv lo hi (-1)) = 0 then none else some ⟨moreJ cv lo hi (-1), wipeA zs (goneJ cv lo hi (-1))⟩]⟩ := by
  have hl : cv.length = zs.length := hg.len
  unfold dropA
  rw [of_one]
  simp only
  rw [if_pos ⟨span_one h0 h1 (by omega), (may_less hg.cs h0 (by omega) h2).2 hf⟩, turn_one]
theorem drop_bare (hg : GoodA ⟨cv, zs⟩) (h0 : 0 ≤ lo) (h1 : lo < hi) (h2 : hi ≤ cv.length) (hf : ¬ allCov cv lo hi) : dropA [some ⟨cv, zs⟩] 1 lo hi = ⟨0, [], 2, [some ⟨cv, zs⟩]⟩ := by
  unfold dropA
  rw [of_one]
  simp only
  rw [if_neg fun k => hf ((may_less hg.cs h0 (by omega) h2).1 k.2)]
theorem cov_none : allCov cv lo lo := fun i _ hin => by have h1 := hin.1; have h2 := hin.2; omega
theorem cov_step (h0 : lo ≤ s) (hs : s < cv.length) : allCov cv lo ((s : Int) + 1) ↔ allCov cv lo s ∧ cv.getD s 0 ≠ 0 := by
  constructor
  · intro h
    exact ⟨fun i hi hin => h i hi ⟨hin.1, by have := hin.2; omega⟩, h s hs ⟨h0, by omega⟩⟩
  · rintro ⟨h1, h2⟩ i hi hin
    by_cases e : i = s
    · subst e; exact h2
    · exact h1 i hi ⟨hin.1, by have := hin.2; omega⟩
/-- A sum, item by item. -/
theorem sum_take (hs : s < cv.length) : sumJ (cv.take (s + 1)) = sumJ (cv.take s) + cv.getD s 0 := by
  rw [List.take_add_one, List.getElem?_eq_getElem hs, List.getD_eq_getElem?_getD, List.getElem?_eq_getElem hs]
  unfold sumJ
  rw [List.foldl_append]
  rfl
theorem sum_none : sumJ (cv.take 0) = 0 := rfl
theorem sum_whole : sumJ (cv.take cv.length) = sumJ cv := by rw [List.take_length]
theorem sum_bound (h : ∀ x, x ∈ cv → 0 ≤ x ∧ x ≤ 1000000) (hs : s ≤ cv.length) : 0 ≤ sumJ (cv.take s) ∧ sumJ (cv.take s) ≤ 1000000 * s := by
  induction s with
  | zero => exact ⟨Int.le_refl _, by rw [sum_none]; omega⟩
  | succ s ih =>
    have h1 := ih (by omega)
    have h2 := h _ (getD_mem (L := cv) (i := s) (by omega))
    rw [sum_take (by omega)]
    omega
theorem more_le {by_ b : Int} (h : ∀ x, x ∈ cv → x ≤ b) (hb : by_ ≤ 1) : ∀ x, x ∈ moreJ cv lo hi by_ → x ≤ b + 1 := fun x hx => by
  unfold moreJ at hx
  obtain ⟨i, hi, rfl⟩ := List.mem_map.1 hx
  have h1 := h _ (getD_mem (L := cv) (i := i) (List.mem_range.1 hi))
  split <;> omega
theorem ids_one {a : AmV} : (idsA [some a]).length = 1 := rfl
theorem ids_gone : (idsA [none]).length = 0 := rfl
theorem slots_gone : slotsA [none] 1 = 0 := rfl
theorem wipe_none : wipeA zs [] = zs := rfl
theorem out_none : outA zs [] = [] := rfl
end

theorem LA.cell {D : World → Nat → Nat → AmL → List Nat → Prop} (H : StOkA D) {w wx : World} {p m : Nat} {L : AmL} {O : List Nat} (h : LA D w wx p m L O) (b j : Nat) (v : Value) (hb : b ∉ O) (hw : w.heap.size ≤ b) : LA D w (wx.setCell ⟨b, j, none⟩ v) p m L O :=
  h.turn H (Turn.setCell [b] wx b j v (by simp)) (fun c hc hm => hb (by have e : c = b := (by simpa using hm); rwa [← e])) (fun c hm => by have e : c = b := (by simpa using hm); omega)
/-- The pool, and the law's own counts and anons. -/
structure CovX (D : World → Nat → Nat → AmL → List Nat → Prop) (w wx : World) (p C I : Nat) (L : AmL) (O : List Nat) (cv zs : List Int) : Prop where
  ln : LA D w wx p 1 L O
  c : ZOwn wx w.heap.size (.slice (some ⟨C, 0, none⟩) cv.length cv.length) cv
  i : ZOwn wx w.heap.size (.slice (some ⟨I, 0, none⟩) zs.length zs.length) zs
  ci : C ≠ I
  cO : C ∉ O
  iO : I ∉ O
section
variable {D : World → Nat → Nat → AmL → List Nat → Prop} {w wx w2 wd w9 : World} {p C I j : Nat} {L L' : AmL} {O : List Nat} {cv zs : List Int} {v : Int}
theorem CovX.cl (h : CovX D w wx p C I L O cv zs) : w.heap.size ≤ C ∧ C < wx.heap.size := OwnOf.lt h.c rfl
theorem CovX.il (h : CovX D w wx p C I L O cv zs) : w.heap.size ≤ I ∧ I < wx.heap.size := OwnOf.lt h.i rfl
theorem CovX.getC (h : CovX D w wx p C I L O cv zs) (hj : cv[j]? = some v) : wx.cell? ⟨C, j, none⟩ = some (.int .i64 v) := own_z h.c hj
theorem CovX.getI (h : CovX D w wx p C I L O cv zs) (hj : zs[j]? = some v) : wx.cell? ⟨I, j, none⟩ = some (.int .i64 v) := own_z h.i hj
theorem CovX.frC (h : CovX D w wx p C I L O cv zs) (j : Nat) : wx.frozen? ⟨C, j, none⟩ = false := OwnOf.frozen h.c j
theorem CovX.frI (h : CovX D w wx p C I L O cv zs) (j : Nat) : wx.frozen? ⟨I, j, none⟩ = false := OwnOf.frozen h.i j
theorem CovX.grow (H : StOkA D) (h : CovX D w wx p C I L O cv zs) (g : wx.grownBy w2 none) : CovX D w w2 p C I L O cv zs := ⟨h.ln.grow H g, OwnOf.grow h.c g, OwnOf.grow h.i g, h.ci, h.cO, h.iO⟩
theorem CovX.setC (H : StOkA D) (h : CovX D w wx p C I L O cv zs) (j : Nat) (v : Int) : CovX D w (wx.setCell ⟨C, j, none⟩ (.int .i64 v)) p C I L O (cv.set j v) zs := by
  have hl : (cv.set j v).length = cv.length := List.length_set
  refine ⟨h.ln.cell H C j _ h.cO h.cl.1, ?_, OwnOf.kept h.i fun b e => heap_setCell_other wx ⟨C, j, none⟩ b _ ?_, h.ci, h.cO, h.iO⟩
  · rw [hl]; exact ZOwn.set h.c j v
  · have e : I = b := by simpa [Value.ownBlock] using e
    subst e
    first | exact h.ci | exact h.ci.symm
theorem CovX.setI (H : StOkA D) (h : CovX D w wx p C I L O cv zs) (j : Nat) (v : Int) : CovX D w (wx.setCell ⟨I, j, none⟩ (.int .i64 v)) p C I L O cv (zs.set j v) := by
  have hl : (zs.set j v).length = zs.length := List.length_set
  refine ⟨h.ln.cell H I j _ h.iO h.il.1, OwnOf.kept h.c fun b e => heap_setCell_other wx ⟨I, j, none⟩ b _ ?_, ?_, h.ci, h.cO, h.iO⟩
  · have e : C = b := by simpa [Value.ownBlock] using e
    subst e
    first | exact h.ci | exact h.ci.symm
  · rw [hl]; exact ZOwn.set h.i j v
theorem CovX.left (h : CovX D w wx p C I L O cv zs) (t : ALa D wx w2 p 1 O L') : ∃ O', CovX D w w2 p C I L' O' cv zs := by
  obtain ⟨O', h2, t2, o2⟩ := h.ln.left t
  have hc := h.cl
  have hi := h.il
  refine ⟨O', h2, own_turn h.c t2 fun b e => ?_, own_turn h.i t2 fun b e => ?_, h.ci, fun hm => ?_, fun hm => ?_⟩
  · have e : C = b := by simpa [Value.ownBlock] using e
    rw [← e]; exact h.cO
  · have e : I = b := by simpa [Value.ownBlock] using e
    rw [← e]; exact h.iO
  · rcases o2 _ hm with k | k
    · exact h.cO k
    · omega
  · rcases o2 _ hm with k | k
    · exact h.iO k
    · omega
/-- At a round's start. -/
structure CovS (D : World → Nat → Nat → AmL → List Nat → Prop) (w wx : World) (p C I n j : Nat) (z : Int) (cv zs : List Int) (O : List Nat) : Prop where
  x : CovX D w wx p C I [some ⟨cv, zs⟩] O cv zs
  cl : cv.length = n
  zl : zs.length = n
  b : ∀ x, x ∈ cv → x ≤ 1 + (j : Int)
  z0 : 1 ≤ z
  z1 : z ≤ 1 + (j : Int)
theorem CovS.grow (H : StOkA D) {n k : Nat} {z : Int} (h : CovS D w wx p C I n k z cv zs O) (g : wx.grownBy w2 none) : CovS D w w2 p C I n k z cv zs O := ⟨h.x.grow H g, h.cl, h.zl, h.b, h.z0, h.z1⟩
theorem CovS.next {n k : Nat} {z : Int} (h : CovS D w wx p C I n k z cv zs O) : CovS D w wx p C I n (k + 1) z cv zs O := ⟨h.x, h.cl, h.zl, fun x hx => by have := h.b x hx; omega, h.z0, by have := h.z1; omega⟩
theorem CovS.good (H : StOkA D) {n k : Nat} {z : Int} (h : CovS D w wx p C I n k z cv zs O) : GoodA ⟨cv, zs⟩ := (H.good h.x.ln.d).each _ (by simp)
/-- Behind what an act asks: the pool is bare where nothing is covered any more. -/
structure CovT (D : World → Nat → Nat → AmL → List Nat → Prop) (w wx : World) (p C I n j : Nat) (z : Int) (cv zs : List Int) (O : List Nat) : Prop where
  x : CovX D w wx p C I [if sumJ cv = 0 then none else some ⟨cv, zs⟩] O cv zs
  cl : cv.length = n
  zl : zs.length = n
  lo : ∀ x, x ∈ cv → 0 ≤ x
  b : ∀ x, x ∈ cv → x ≤ 1 + (j : Int)
  z0 : 1 ≤ z
  z1 : z ≤ 1 + (j : Int)
theorem CovS.some_ (H : StOkA D) {n k : Nat} {z : Int} (h : CovS D w wx p C I n k z cv zs O) : sumJ cv ≠ 0 := (h.good H).some_
theorem CovS.tail (H : StOkA D) {n k : Nat} {z : Int} (h : CovS D w wx p C I n k z cv zs O) : CovT D w wx p C I n k z cv zs O :=
  ⟨by rw [if_neg (h.some_ H)]; exact h.x, h.cl, h.zl, (h.good H).cs.lo, h.b, h.z0, h.z1⟩
theorem CovT.live {n k : Nat} {z : Int} (h : CovT D w wx p C I n k z cv zs O) (h0 : sumJ cv ≠ 0) : CovS D w wx p C I n k z cv zs O := ⟨by have k := h.x; rwa [if_neg h0] at k, h.cl, h.zl, h.b, h.z0, h.z1⟩
theorem CovT.gone {n k : Nat} {z : Int} (h : CovT D w wx p C I n k z cv zs O) (h0 : sumJ cv = 0) : CovX D w wx p C I [none] O cv zs := by have k := h.x; rwa [if_pos h0] at k
/-- Behind a Drop: its row u, and the row v that is made beside it. -/
structure DrX (D : World → Nat → Nat → AmL → List Nat → Prop) (w wd wr : World) (p C I : Nat) (L : AmL) (O : List Nat) (cv zs : List Int) (v : Value) (want : List Int) (u : Value) (out : List Int) : Prop where
  x : CovX D w wr p C I L O cv zs
  own : ZOwn wr wd.heap.size v want
  row : RowOf zCells 1 wr u out
  ub : ∀ b, u.ownBlock = some b → b ≠ C ∧ b ≠ I ∧ b < wd.heap.size
  cb : C < wd.heap.size ∧ I < wd.heap.size
  ob : ∀ b, b ∈ O → b < wd.heap.size
  sz : wd.heap.size ≤ wr.heap.size
  ws : w.heap.size ≤ wd.heap.size
variable {wr : World} {u vv v9 : Value} {out want want9 : List Int}
theorem DrX.start (H : StOkA D) (h : CovX D w wd p C I L O cv zs) (hr : RowOf zCells 1 wd u out) (hf : ∀ b, u.ownBlock = some b → b ≠ C ∧ b ≠ I) : DrX D w wd wd p C I L O cv zs (.slice none 0 0) [] u out :=
  ⟨h, OwnOf.nil _ _, hr, fun b e => ⟨(hf b e).1, (hf b e).2, by
    rcases hr.2 with ⟨h0, _⟩ | ⟨g, o, c', hv, hg, _⟩
    · rw [h0] at e; cases e
    · rw [hv] at e
      have e : g = b := by simpa [Value.ownBlock] using e
      omega⟩, ⟨h.cl.2, h.il.2⟩, H.lt h.ln.d, Nat.le_refl _, h.ln.grown.size⟩
theorem row_cell {w : World} {u : Value} {xs : List Int} {b j : Nat} {x : Value} (h : RowOf zCells 1 w u xs) (hb : ∀ c, u.ownBlock = some c → c ≠ b) : RowOf zCells 1 (w.setCell ⟨b, j, none⟩ x) u xs :=
  row_turn h (Turn.setCell [b] w b j x (by simp)) fun c e hm => hb c e (by simpa using hm)
theorem DrX.setC (H : StOkA D) (h : DrX D w wd wr p C I L O cv zs vv want u out) (j : Nat) (v : Int) : DrX D w wd (wr.setCell ⟨C, j, none⟩ (.int .i64 v)) p C I L O (cv.set j v) zs vv want u out :=
  ⟨h.x.setC H j v, own_turn h.own (Turn.setCell [C] wr C j _ (by simp)) (fun b e hm => by
    have e2 : b = C := by simpa using hm
    have h1 := (OwnOf.lt h.own e).1
    have h2 := h.cb.1
    omega), row_cell h.row fun c e => (h.ub c e).1, h.ub, h.cb, h.ob, by simpa using h.sz, h.ws⟩
theorem DrX.setI (H : StOkA D) (h : DrX D w wd wr p C I L O cv zs vv want u out) (j : Nat) (v : Int) : DrX D w wd (wr.setCell ⟨I, j, none⟩ (.int .i64 v)) p C I L O cv (zs.set j v) vv want u out :=
  ⟨h.x.setI H j v, own_turn h.own (Turn.setCell [I] wr I j _ (by simp)) (fun b e hm => by
    have e2 : b = I := by simpa using hm
    have h1 := (OwnOf.lt h.own e).1
    have h2 := h.cb.2
    omega), row_cell h.row fun c e => (h.ub c e).2.1, h.ub, h.cb, h.ob, by simpa using h.sz, h.ws⟩
theorem DrX.app (H : StOkA D) {o : Obj} (h : DrX D w wd wr p C I L O cv zs vv want u out) (k : (wr.alloc o).grownBy w9 vv.ownBlock) (hown : ZOwn w9 wd.heap.size v9 want9) : DrX D w wd w9 p C I L O cv zs v9 want9 u out := by
  have ga := World.grownBy_alloc wr o none
  have hv : ∀ b, vv.ownBlock = some b → wd.heap.size ≤ b := fun b e => (OwnOf.lt h.own e).1
  have hs := Nat.le_trans ga.size k.size
  have hsz := h.sz
  have hb : ∀ b, b < wd.heap.size → w9.heap[b]? = wr.heap[b]? := fun b hb => (k.block b (Nat.lt_of_lt_of_le (Nat.lt_of_lt_of_le hb hsz) ga.size) fun e => by have := hv b e.symm; omega).trans (ga.block b (Nat.lt_of_lt_of_le hb hsz) (by simp))
  have hw := h.ws
  refine ⟨⟨⟨H.kept h.x.ln.d hs fun b hm => hb b (h.ob b hm), h.x.ln.own, ?_⟩, OwnOf.kept h.x.c fun b e => hb b ?_, OwnOf.kept h.x.i fun b e => hb b ?_, h.x.ci, h.x.cO, h.x.iO⟩, hown, RowAt.kept h.row hs fun a l c e => hb a.block (h.ub a.block (by rw [e]; rfl)).2.2, h.ub, h.cb, h.ob, Nat.le_trans hsz hs, hw⟩
  · exact grown_own (grown_trans h.x.ln.grown ga) k fun x e => Nat.le_trans hw (hv x e)
  · have e : C = b := by simpa [Value.ownBlock] using e
    rw [← e]; exact h.cb.1
  · have e : I = b := by simpa [Value.ownBlock] using e
    rw [← e]; exact h.cb.2
variable {n k s : Nat} {z lo hi : Int} {w4 : World} {O4 : List Nat}
theorem CovS.same (h : CovS D w wx p C I n k z cv zs O) (t : ALa D wx w2 p 1 O [some ⟨cv, zs⟩]) : ∃ O', CovS D w w2 p C I n k z cv zs O' := by
  obtain ⟨O', h2⟩ := h.x.left t
  exact ⟨O', h2, h.cl, h.zl, h.b, h.z0, h.z1⟩
theorem CovS.put (H : StOkA D) (h : CovS D w wx p C I n k z cv zs O) (h4 : CovX D w w4 p C I [some ⟨cv, zs.set s z⟩] O4 cv zs) : CovS D w (w4.setCell ⟨I, s, none⟩ (.int .i64 z)) p C I n (k + 1) (z + 1) cv (zs.set s z) O4 :=
  ⟨h4.setI H s z, h.cl, by rw [List.length_set]; exact h.zl, fun x hx => by have := h.b x hx; omega, by have := h.z0; omega, by have := h.z1; omega⟩
theorem CovS.held (h : CovS D w wx p C I n k z cv zs O) (h4 : CovX D w w4 p C I [some ⟨moreJ cv lo hi 1, zs⟩] O4 (moreJ cv lo hi 1) zs) : CovS D w w4 p C I n (k + 1) z (moreJ cv lo hi 1) zs O4 :=
  ⟨h4, by rw [moreJ_len]; exact h.cl, h.zl, fun x hx => by have := more_le h.b (Int.le_refl _) x hx; omega, h.z0, by have := h.z1; omega⟩
theorem CovS.dropped (H : StOkA D) (h : CovS D w wx p C I n k z cv zs O) (hm : mayJ cv lo hi (-1)) (h4 : CovX D w w4 p C I [if sumJ (moreJ cv lo hi (-1)) = 0 then none else some ⟨moreJ cv lo hi (-1), wipeA zs (goneJ cv lo hi (-1))⟩] O4 (moreJ cv lo hi (-1)) (wipeA zs (goneJ cv lo hi (-1)))) : CovT D w w4 p C I n (k + 1) z (moreJ cv lo hi (-1)) (wipeA zs (goneJ cv lo hi (-1))) O4 :=
  ⟨h4, by rw [moreJ_len]; exact h.cl, by rw [wipe_len]; exact h.zl, fun x hx => by
    have hk := (h.good H).cs.add (lo := lo) (hi := hi) (by_ := -1)
    rw [show addJ cv lo hi (-1) = (goneJ cv lo hi (-1), 0, moreJ cv lo hi (-1)) by unfold addJ; rw [if_pos hm]] at hk
    exact hk.lo x hx, fun x hx => by have := more_le h.b (show (-1 : Int) ≤ 1 by decide) x hx; omega, h.z0, by have := h.z1; omega⟩
/-- What stands at a slot. -/
theorem CovS.atC (h : CovS D w wx p C I n k z cv zs O) (hs : s < n) : ∃ v, cv[s]? = some v ∧ cv.getD s 0 = v := by
  have hl : s < cv.length := by rw [h.cl]; exact hs
  exact ⟨cv[s], List.getElem?_eq_getElem hl, by rw [List.getD_eq_getElem?_getD, List.getElem?_eq_getElem hl]; rfl⟩
theorem CovS.atI (h : CovS D w wx p C I n k z cv zs O) (hs : s < n) : ∃ v, zs[s]? = some v ∧ zs.getD s 0 = v := by
  have hl : s < zs.length := by rw [h.zl]; exact hs
  exact ⟨zs[s], List.getElem?_eq_getElem hl, by rw [List.getD_eq_getElem?_getD, List.getElem?_eq_getElem hl]; rfl⟩
theorem getD_some {l : List Int} {s : Nat} {v : Int} (hs : s < l.length) (h : l.getD s 0 = v) : l[s]? = some v := by
  rw [List.getD_eq_getElem?_getD, List.getElem?_eq_getElem hs] at h
  rw [List.getElem?_eq_getElem hs]
  exact congrArg some h
end
end Go.Proofs.Ytfmihbiongnpnaa
